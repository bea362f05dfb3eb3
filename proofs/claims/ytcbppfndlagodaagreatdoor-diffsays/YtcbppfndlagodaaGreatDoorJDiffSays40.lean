/-
  What the reference's set returns: a state with an identifier at a place of a volume. Conditions: the place is there; at most 6 volumes of at most 32 blocks.
-/
import Derived.Test.YtcbppfndlagodaaGreatDoorJDiffSays39
import Derived.Test.YtcbppfndlagodaaGreatDoorJDiffSays23
import Derived.Test.YtcbppfndlagodaaGreatDoorJDiffSays24
namespace Go.Proofs.YtcbppfndlagodaaGreatDoor
open Go.RowKit
open Go.Proofs
open WoolBag
open WoolVol

structure SetI (l : List Vo) (B m : Nat) (base O : Nat) (bag vv : Value) (C : List VC) (W0 wr : World) : Prop where
  len : C.length = m
  row : RowC wr O 25 [bag, vv]
  own : OVC wr base vv C
  nm : ∀ q (h : q < l.length) (hq : q < C.length), C[q].nm = l[q].nm
  bl : ∀ q (h : q < l.length) (hq : q < C.length), OIds wr base C[q].sl l[q].bl
  low : Below B W0 wr

def SetRel (l : List Vo) (B base O : Nat) (bag : Value) (W0 : World) (i : Value) (wr : World) : Prop := ∃ m vv C, m ≤ l.length ∧ i = .int .i64 ((m : Nat) : Int) ∧ SetI l B m base O bag vv C W0 wr

theorem SetI.done {l : List Vo} {B base O : Nat} {bag vv : Value} {C : List VC} {W0 wr : World} (h : SetI l B l.length base O bag vv C W0 wr) : Vols wr vv l :=
  ⟨C, h.own.vcs, ⟨h.len, fun q hq => h.nm q hq (by rw [h.len]; exact hq), fun q hq => (h.bl q hq (by rw [h.len]; exact hq)).ids⟩⟩

/-- one volume more -/
theorem SetI.step {l : List Vo} {B m base O : Nat} {bag vv vv' u : Value} {C : List VC} {W0 wr w1 w5 : World} (h : SetI l B m base O bag vv C W0 wr) (hm : m < l.length) (hO : B ≤ O) (hb : base ≤ w1.heap.size) (hBb : B ≤ base)
    (hr1 : RowC w1 O 25 [bag, vv]) (hlow : Below B W0 w1) (hown1 : OVC w1 base vv C) (hbl : ∀ q (hq : q < C.length) (hql : q < l.length), OIds w1 base C[q].sl l[q].bl) (hu : OIds w1 base u l[m].bl)
    (hown : w5.ownsRow base 47 2 vv' (C.length + 1) (fl vcC C ++ [.string (bs l[m].nm), u])) (Z : Obj) (hg : (w1.alloc Z).grownBy w5 vv.ownBlock) :
    SetI l B (m + 1) base O bag vv' (C ++ [⟨l[m].nm, u⟩]) W0 (w5.setCell ⟨O, 1, none⟩ vv') := by
  have hup := Up.alloc w1 Z
  have hne : ∀ {v : Value} {n : Nat} {L : List Value}, w1.ownsRow base 49 3 v n L → v.ownBlock = none ∨ v.ownBlock ≠ vv.ownBlock := by
    intro v n L hv
    rcases own_row hown1 with ⟨e, _, _⟩ | ⟨gv, cap, sp, e, _, hrv, _⟩
    · rw [e]
      cases hvb : v.ownBlock with
      | none => exact .inl rfl
      | some b => exact .inr (by intro e2; cases e2)
    · right
      rw [e]
      exact own_apart hv hrv idVol
  have hrow5 : RowC w5 O 25 [bag, vv] := by
    refine (hr1.up hup).kept hg ?_
    intro e
    rcases own_row hown1 with ⟨e2, _, _⟩ | ⟨gv, cap, sp, e2, _, hrv, _⟩
    · rw [e2] at e; cases e
    · rw [e2] at e
      cases e
      exact RowC.apart hrv hr1 voState rfl
  have hk : ∀ {v : Value} {n : Nat} {L : List Value}, w1.ownsRow base 49 3 v n L → (w5.setCell ⟨O, 1, none⟩ vv').ownsRow base 49 3 v n L := by
    intro v n L hv
    have h5 := World.ownsRow.kept (World.ownsRow.alloc hv Z) hg (hne hv)
    exact own_set h5 (own_apart h5 hrow5 idState)
  have hlen := h.len
  refine ⟨by rw [List.length_append, hlen]; rfl, hrow5.set 1 vv', ?_, ?_, ?_, ?_⟩
  · have h5 : OVC w5 base vv' (C ++ [⟨l[m].nm, u⟩]) := by
      unfold OVC
      rw [fl_append, List.length_append]
      exact hown
    exact own_set h5 (own_apart h5 hrow5 voState)
  · intro q hq hqc
    by_cases e : q < C.length
    · rw [List.getElem_append_left e]; exact h.nm q hq e
    · have : q = m := by rw [List.length_append] at hqc; simp at hqc; omega
      subst this
      rw [List.getElem_append_right (by omega)]
      simp
  · intro q hq hqc
    by_cases e : q < C.length
    · rw [List.getElem_append_left e]; exact hk (hbl q e hq)
    · have : q = m := by rw [List.length_append] at hqc; simp at hqc; omega
      subst this
      rw [List.getElem_append_right (by omega)]
      simp only [hlen, Nat.sub_self, List.getElem_cons_zero]
      exact hk hu
  · refine Below.setCell ?_ (p := ⟨O, 1, none⟩) hO _
    refine Below.grown (hlow.trans (hup.mono (Nat.le_trans hBb hb))) hg (Nat.le_trans (Nat.le_trans hBb hb) hup.size) ?_
    intro b hb2
    exact Nat.le_trans hBb (World.ownsRow.lt hown1 b hb2).1

end Go.Proofs.YtcbppfndlagodaaGreatDoor
