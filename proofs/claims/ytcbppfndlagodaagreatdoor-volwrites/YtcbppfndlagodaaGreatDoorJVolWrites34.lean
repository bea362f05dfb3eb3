/-
  The texts RefVol5, SetS, one behind the other; each says below what it holds and on what conditions.
-/
import Derived.Test.YtcbppfndlagodaaGreatDoorJVolWrites27
import Derived.Test.YtcbppfndlagodaaGreatDoorJVolWrites32
import Derived.Test.YtcbppfndlagodaaGreatDoorJVolWrites33
import Derived.Test.YtcbppfndlagodaaGreatDoorJVolWrites29

/-
  What the reference's set returns: a state with an identifier at a place of a volume. Conditions: the place is there; at most 6 volumes of at most 32 blocks.
-/
namespace Go.Proofs.YtcbppfndlagodaaGreatDoor
open Go.RowKit
open Go.Proofs
open WoolBag
open WoolVol

structure SetI (l : List Vo) (B m : Nat) (base O : Nat) (bag vv : Value) (C : List VC) (W0 wr : World) : Prop where
  len : C.length = m
  row : RowC wr O 25 [bag, vv]
  own : OVC wr base vv C
  nm : ∀ q (h : q < l.length) (hq : q < C.length), C[q].nm = l[q].nm
  bl : ∀ q (h : q < l.length) (hq : q < C.length), OIds wr base C[q].sl l[q].bl
  low : Below B W0 wr

def SetRel (l : List Vo) (B base O : Nat) (bag : Value) (W0 : World) (i : Value) (wr : World) : Prop := ∃ m vv C, m ≤ l.length ∧ i = .int .i64 ((m : Nat) : Int) ∧ SetI l B m base O bag vv C W0 wr

theorem SetI.done {l : List Vo} {B base O : Nat} {bag vv : Value} {C : List VC} {W0 wr : World} (h : SetI l B l.length base O bag vv C W0 wr) : Vols wr vv l :=
  ⟨C, h.own.vcs, ⟨h.len, fun q hq => h.nm q hq (by rw [h.len]; exact hq), fun q hq => (h.bl q hq (by rw [h.len]; exact hq)).ids⟩⟩

/-- one volume more -/
theorem SetI.step {l : List Vo} {B m base O : Nat} {bag vv vv' u : Value} {C : List VC} {W0 wr w1 w5 : World} (h : SetI l B m base O bag vv C W0 wr) (hm : m < l.length) (hO : B ≤ O) (hb : base ≤ w1.heap.size) (hBb : B ≤ base)
    (hr1 : RowC w1 O 25 [bag, vv]) (hlow : Below B W0 w1) (hown1 : OVC w1 base vv C) (hbl : ∀ q (hq : q < C.length) (hql : q < l.length), OIds w1 base C[q].sl l[q].bl) (hu : OIds w1 base u l[m].bl)
    (hown : w5.ownsRow base 47 2 vv' (C.length + 1) (fl vcC C ++ [.string (bs l[m].nm), u])) (Z : Obj) (hg : (w1.alloc Z).grownBy w5 vv.ownBlock) :
    SetI l B (m + 1) base O bag vv' (C ++ [⟨l[m].nm, u⟩]) W0 (w5.setCell ⟨O, 1, none⟩ vv') := by
  have hup := Up.alloc w1 Z
  have hne : ∀ {v : Value} {n : Nat} {L : List Value}, w1.ownsRow base 49 3 v n L → v.ownBlock = none ∨ v.ownBlock ≠ vv.ownBlock := by
    intro v n L hv
    rcases own_row hown1 with ⟨e, _, _⟩ | ⟨gv, cap, sp, e, _, hrv, _⟩
    · rw [e]
      cases hvb : v.ownBlock with
      | none => exact .inl rfl
      | some b => exact .inr (by intro e2; cases e2)
    · right
      rw [e]
      exact own_apart hv hrv idVol
  have hrow5 : RowC w5 O 25 [bag, vv] := by
    refine (hr1.up hup).kept hg ?_
    intro e
    rcases own_row hown1 with ⟨e2, _, _⟩ | ⟨gv, cap, sp, e2, _, hrv, _⟩
    · rw [e2] at e; cases e
    · rw [e2] at e
      cases e
      exact RowC.apart hrv hr1 voState rfl
  have hk : ∀ {v : Value} {n : Nat} {L : List Value}, w1.ownsRow base 49 3 v n L → (w5.setCell ⟨O, 1, none⟩ vv').ownsRow base 49 3 v n L := by
    intro v n L hv
    have h5 := World.ownsRow.kept (World.ownsRow.alloc hv Z) hg (hne hv)
    exact own_set h5 (own_apart h5 hrow5 idState)
  have hlen := h.len
  refine ⟨by rw [List.length_append, hlen]; rfl, hrow5.set 1 vv', ?_, ?_, ?_, ?_⟩
  · have h5 : OVC w5 base vv' (C ++ [⟨l[m].nm, u⟩]) := by
      unfold OVC
      rw [fl_append, List.length_append]
      exact hown
    exact own_set h5 (own_apart h5 hrow5 voState)
  · intro q hq hqc
    by_cases e : q < C.length
    · rw [List.getElem_append_left e]; exact h.nm q hq e
    · have : q = m := by rw [List.length_append] at hqc; simp at hqc; omega
      subst this
      rw [List.getElem_append_right (by omega)]
      simp
  · intro q hq hqc
    by_cases e : q < C.length
    · rw [List.getElem_append_left e]; exact hk (hbl q e hq)
    · have : q = m := by rw [List.length_append] at hqc; simp at hqc; omega
      subst this
      rw [List.getElem_append_right (by omega)]
      simp only [hlen, Nat.sub_self, List.getElem_cons_zero]
      exact hk hu
  · refine Below.setCell ?_ (p := ⟨O, 1, none⟩) hO _
    refine Below.grown (hlow.trans (hup.mono (Nat.le_trans hBb hb))) hg (Nat.le_trans (Nat.le_trans hBb hb) hup.size) ?_
    intro b hb2
    exact Nat.le_trans hBb (World.ownsRow.lt hown1 b hb2).1

end Go.Proofs.YtcbppfndlagodaaGreatDoor

/-
  States laid into boxes of two slices: what reads as a state before reads so behind. Conditions: as each says.
-/
namespace Go.Proofs.YtcbppfndlagodaaGreatDoor
open Go.RowKit
open Go.Proofs
open WoolBag
open WoolVol

theorem own_slice {w : World} {base n m : Nat} {T : TypeId} {v : Value} {L : List Value} (h : w.ownsRow base T m v n L) : ∃ o c, v = .slice o n c := by
  obtain ⟨o, c, e, _, _⟩ := Sl.slice (Sl.of_own h)
  exact ⟨o, c, e⟩

theorem Up.trans' {a b c : World} (h : Up a b) (k : Below a.heap.size b c) : Up a c := Below.trans h k

def RdEPost (w : World) (r : Sta × Int) (e : Ending) (w' : World) : Prop := ∃ v', e = .returned (.tuple #[v', .int .i64 r.2]) ∧ Stat w' v' r.1 ∧ Up w w'

/-- is it a slice? -/
def isSl : Value → Bool
  | .slice .. => true
  | _ => false

theorem cell_sl {w : World} {X T off : Nat} {a b u : Value} (hr : RowC w X T [a, b]) (ha : isSl a = true) (hb : isSl b = true) (hc : w.cell? ⟨X, off, none⟩ = some u) : isSl u = true := by
  rw [hr.at] at hc
  match off, hc with
  | 0, hc => simp at hc; rw [← hc]; exact ha
  | 1, hc => simp at hc; rw [← hc]; exact hb
  | n + 2, hc => simp at hc

theorem cell_apart {w : World} {X T i bb off : Nat} {a b u u0 y : Value} {o0 : Nat} (hr : RowC w X T [a, b]) (ha : isSl a = true) (hb : isSl b = true) (h0 : w.cell? ⟨bb, o0, none⟩ = some u0) (hu : isSl u0 = false) (hc : w.cell? ⟨bb, off, none⟩ = some u) : (w.setCell ⟨X, i, none⟩ y).cell? ⟨bb, off, none⟩ = some u := by
  have hne : bb ≠ X := by
    rintro rfl
    have := cell_sl hr ha hb h0
    rw [hu] at this; cases this
  exact (World.cell?_setCell_far _ _ _ _ (fun e => hne e.symm)).trans hc

theorem Sl.setS {w : World} {m n X T i : Nat} {v y a b : Value} {L : List Value} (h : Sl w m v n L) (hr : RowC w X T [a, b]) (ha : isSl a = true) (hb : isSl b = true) (h0 : ∀ u, L[0]? = some u → isSl u = false) : Sl (w.setCell ⟨X, i, none⟩ y) m v n L := by
  obtain ⟨e, o, c, rfl, h2, h3, h4⟩ := h
  refine ⟨e, o, c, rfl, h2, h3, ?_⟩
  rcases h4 with h4 | ⟨bb, off, rfl, h6⟩
  · exact .inl h4
  · refine .inr ⟨bb, off, rfl, fun j u hj => ?_⟩
    have hl : 0 < L.length := Nat.lt_of_le_of_lt (Nat.zero_le _) (List.getElem?_eq_some_iff.1 hj).1
    have hu0 : L[0]? = some L[0] := List.getElem?_eq_getElem hl
    exact cell_apart hr ha hb (h6 0 _ hu0) (h0 _ hu0) (h6 j u hj)

theorem Ids.setS {w : World} {X T i : Nat} {v y a b : Value} {l : List Idn} (h : Ids w v l) (hr : RowC w X T [a, b]) (ha : isSl a = true) (hb : isSl b = true) : Ids (w.setCell ⟨X, i, none⟩ y) v l := by
  refine Sl.setS h hr ha hb ?_
  intro u hu
  cases l with
  | nil => simp [fl] at hu
  | cons x r => simp [fl, idC] at hu; rw [← hu]; rfl

theorem Vols.setS {w : World} {X T i : Nat} {v y a b : Value} {l : List Vo} (h : Vols w v l) (hr : RowC w X T [a, b]) (ha : isSl a = true) (hb : isSl b = true) : Vols (w.setCell ⟨X, i, none⟩ y) v l := by
  obtain ⟨C, h1, h2⟩ := h
  refine ⟨C, Sl.setS h1 hr ha hb ?_, ⟨h2.len, h2.nm, fun k hk => (h2.bl k hk).setS hr ha hb⟩⟩
  intro u hu
  cases C with
  | nil => simp [fl] at hu
  | cons x r => simp [fl, vcC] at hu; rw [← hu]; rfl

theorem Items.setS {w : World} {X T i : Nat} {v y a b : Value} {l : List Itm} (h : Items w v l) (hr : RowC w X T [a, b]) (ha : isSl a = true) (hb : isSl b = true) : Items (w.setCell ⟨X, i, none⟩ y) v l := by
  obtain ⟨o, c, h1, h2, h3, h4⟩ := h
  refine ⟨o, c, h1, h2, h3, ?_⟩
  rcases h4 with h4 | ⟨bb, off, h5, h6⟩
  · exact .inl h4
  · refine .inr ⟨bb, off, h5, fun k hk => ?_⟩
    obtain ⟨a1, a2, a3, a4⟩ := h6 k hk
    exact ⟨cell_apart hr ha hb a1 rfl a1, cell_apart hr ha hb a1 rfl a2, cell_apart hr ha hb a1 rfl a3, cell_apart hr ha hb a1 rfl a4⟩

theorem Stat.setS {w : World} {X T i : Nat} {v y a b : Value} {st : Sta} (h : Stat w v st) (hr : RowC w X T [a, b]) (ha : isSl a = true) (hb : isSl b = true) : Stat (w.setCell ⟨X, i, none⟩ y) v st := by
  obtain ⟨vb, vv, h1, h2, h3⟩ := h
  exact ⟨vb, vv, h1, h2.setS hr ha hb, h3.setS hr ha hb⟩

/-- a state laid into a box of two slices -/
theorem Stat.boxed {w : World} {R T : Nat} {v x y a b : Value} {st : Sta} (h : Stat w v st) (hr : RowC w R T [a, b]) (ha : isSl a = true) (hb : isSl b = true) (hx : isSl x = true) : Stat ((w.setCell ⟨R, 0, none⟩ x).setCell ⟨R, 1, none⟩ y) v st :=
  (h.setS hr ha hb).setS (show RowC _ R T [x, b] from hr.set 0 x) hx hb

theorem up2 {w W : World} {R : Nat} {x y : Value} (h : Up w W) (hR : w.heap.size ≤ R) : Up w ((W.setCell ⟨R, 0, none⟩ x).setCell ⟨R, 1, none⟩ y) :=
  (Below.setCell (show Below w.heap.size w W from h) (p := ⟨R, 0, none⟩) hR _).setCell (p := ⟨R, 1, none⟩) hR _

end Go.Proofs.YtcbppfndlagodaaGreatDoor
