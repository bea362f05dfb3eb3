/-
  The texts SamE, RefVol3, RefVol4, RefVol5, one behind the other; each says below what it holds and on what conditions.
-/
import Derived.Test.YtbeigaanlhaolaaGreatDoorJB31
import Derived.Test.YtbeigaanlhaolaaGreatDoorJB14
import Derived.Deep.OwnRows
import Derived.Laws.OwnMore
import Derived.StringKeys
import Derived.Test.YtbeigaanlhaolaaGreatDoorJB16
import Derived.Test.YtbeigaanlhaolaaGreatDoorJB20

/-
  slices.Equal of two rows of identifiers that read alike; the reference's SameState of two states that read alike. Conditions: as each says.
-/
namespace Go.Proofs.YtbeigaanlhaolaaGreatDoor
open Go.RowKit
open Go.Proofs
open WoolBag
open WoolVol

def EqDRel (N : Nat) (w : World) (i : Value) (wr : World) : Prop := ∃ k : Nat, k ≤ N ∧ i = .int .i64 k ∧ Up w wr

set_option maxRecDepth 100000 in
set_option maxHeartbeats 400000 in
theorem equalD_yes (v1 v2 : Value) (l : List Idn) (w : World) (h1 : Ids w v1 l) (h2 : Ids w v2 l) :
    Calls Tryz.prog 51 #[v1, v2] w fun e w' => e = .returned (.bool true) ∧ Up w w' := by
  obtain ⟨o1, c1, rfl, p1, p2⟩ := h1.slice
  obtain ⟨o2, c2, rfl, q1, q2⟩ := h2.slice
  have HP := Lib.hid h1
  have HQ := Lib.hid h2
  unfold maxLen at p2 q2
  clear h1 h2
  go_enter Tryz.func51, Tryz.ntmps51
  go_wp2_with fail
  go_loopw [13] (fun i wr => EqDRel l.length w i wr) (fun i _ => l.length - (intOf i).toNat)
  case atStart => exact ⟨0, Nat.zero_le _, rfl, Up.refl w⟩
  case round =>
    obtain ⟨k, hk, rfl, hu⟩ := hrel
    by_cases hlt : k < l.length
    · have hne : l ≠ [] := by intro e; rw [e] at hlt; simp at hlt
      obtain ⟨b, off, rfl, h5⟩ := HP.out.at hne
      obtain ⟨b', off', rfl, h6⟩ := HQ.out.at hne
      obtain ⟨e1, e2, e3⟩ := h5 k hlt
      rw [← hu.cell (World.block_lt_of_cell? w _ e1)] at e1
      rw [← hu.cell (World.block_lt_of_cell? w _ e2)] at e2
      rw [← hu.cell (World.block_lt_of_cell? w _ e3)] at e3
      obtain ⟨f1, f2, f3⟩ := h6 k hlt
      rw [← hu.cell (World.block_lt_of_cell? w _ f1)] at f1
      rw [← hu.cell (World.block_lt_of_cell? w _ f2)] at f2
      rw [← hu.cell (World.block_lt_of_cell? w _ f3)] at f3
      generalize l[k].1 = xs at e1 f1
      generalize l[k].2.1 = xn at e2 f2
      generalize l[k].2.2 = xr at e3 f3
      have HU := Lib.hid hu
      have d1 : decide (k < l.length) = true := decide_eq_true hlt
      clear h5 h6 hu hne
      go_wp2_with fail
      go_quiet (fail)
      go_wp2_with fail
      go_roundw
      case rel => exact ⟨k + 1, by omega, by go_num, HU.out.trans (Up.drewN _ _)⟩
      case measure => simp only [intOf]; omega
    · have d1 : decide (k < l.length) = false := decide_eq_false hlt
      go_wp2_with fail
      go_ret
      exact ⟨rfl, hu⟩

set_option maxRecDepth 100000 in
set_option maxHeartbeats 400000 in
theorem same1_yes (s : List UInt8) (v1 v2 : Value) (l : List Idn) (w : World) (h1 : Ids w v1 l) (h2 : Ids w v2 l) :
    Calls Tryz.prog 50 #[.agg #[.string (bs s), v1], .agg #[.string (bs s), v2]] w fun e w' => e = .returned (.bool true) ∧ Up w w' := by
  have HE := Lib.hid (fun W (hW : Up w W) => equalD_yes v1 v2 l W (h1.up hW) (h2.up hW))
  obtain ⟨o1, c1, rfl, _, _⟩ := h1.slice
  obtain ⟨o2, c2, rfl, _, _⟩ := h2.slice
  clear h1 h2
  have hS : ((bs s).toList == (bs s).toList) = true := by rw [txt_eq]; simp
  generalize bs s = S at *
  go_enter Tryz.func50, Tryz.ntmps50
  go_wp2_with fail
  refine (HE.out _ ((Up.alloc _ _).trans (Up.alloc _ _))).mono ?_
  rintro e w1 ⟨rfl, u1⟩
  go_wp2_with fail
  go_ret
  exact ⟨rfl, ((Up.alloc _ _).trans (Up.alloc _ _)).trans u1⟩

set_option maxRecDepth 100000 in
set_option maxHeartbeats 400000 in
theorem equalV_yes (v1 v2 : Value) (l : List Vo) (w : World) (h1 : Vols w v1 l) (h2 : Vols w v2 l) :
    Calls Tryz.prog 49 #[v1, v2, .func (.func 50) #[] #[]] w fun e w' => e = .returned (.bool true) ∧ Up w w' := by
  obtain ⟨o1, c1, rfl, p1, p2⟩ := h1.slice
  obtain ⟨o2, c2, rfl, q1, q2⟩ := h2.slice
  have HP := Lib.hid h1
  have HQ := Lib.hid h2
  unfold maxLen at p2 q2
  clear h1 h2
  go_enter Tryz.func49, Tryz.ntmps49
  go_wp2_with fail
  go_loopw [17] (fun i wr => EqDRel l.length w i wr) (fun i _ => l.length - (intOf i).toNat)
  case atStart => exact ⟨0, Nat.zero_le _, rfl, Up.refl w⟩
  case round =>
    obtain ⟨k, hk, rfl, hu⟩ := hrel
    by_cases hlt : k < l.length
    · have hne : l ≠ [] := by intro e; rw [e] at hlt; simp at hlt
      obtain ⟨b, off, rfl, h5⟩ := HP.out.at hne
      obtain ⟨b', off', rfl, h6⟩ := HQ.out.at hne
      obtain ⟨e1, u, e2, hi1⟩ := h5 k hlt
      obtain ⟨f1, u', f2, hi2⟩ := h6 k hlt
      obtain ⟨n1, dd1, rfl, _, _⟩ := hi1.slice
      obtain ⟨n2, d2, rfl, _, _⟩ := hi2.slice
      have HC := Lib.hid (fun W (hW : Up w W) => same1_yes l[k].nm _ _ l[k].bl W (hi1.up hW) (hi2.up hW))
      rw [← hu.cell (World.block_lt_of_cell? w _ e1)] at e1
      rw [← hu.cell (World.block_lt_of_cell? w _ e2)] at e2
      rw [← hu.cell (World.block_lt_of_cell? w _ f1)] at f1
      rw [← hu.cell (World.block_lt_of_cell? w _ f2)] at f2
      have f1' := Lib.cell?_alloc_some (.cells #[.string (bs l[k].nm), .slice n1 l[k].bl.length dd1] 81) f1
      have f2' := Lib.cell?_alloc_some (.cells #[.string (bs l[k].nm), .slice n1 l[k].bl.length dd1] 81) f2
      generalize bs l[k].nm = S at *
      obtain ⟨L, hL⟩ : ∃ L, l[k].bl.length = L := ⟨_, rfl⟩
      rw [hL] at e2 f2 f1' f2' HC
      have HU := Lib.hid hu
      have d1 : decide (k < l.length) = true := decide_eq_true hlt
      clear h5 h6 hu hne hi1 hi2 hL
      go_wp2_with fail
      refine (HC.out _ ((HU.out.trans (Up.alloc _ _)).trans (Up.alloc _ _))).mono ?_
      rintro e w1 ⟨rfl, u1⟩
      have HU1 := Lib.hid (((HU.out.trans (Up.alloc _ _)).trans (Up.alloc _ _)).trans u1)
      clear u1
      go_wp2_with fail
      go_roundw
      case rel => exact ⟨k + 1, by omega, by go_num, HU1.out⟩
      case measure => simp only [intOf]; omega
    · have d1 : decide (k < l.length) = false := decide_eq_false hlt
      go_wp2_with fail
      go_ret
      exact ⟨rfl, hu⟩

set_option maxRecDepth 100000 in
set_option maxHeartbeats 400000 in
theorem same_yes (v1 v2 : Value) (st : Sta) (w : World) (h1 : Stat w v1 st) (h2 : Stat w v2 st) :
    Calls Tryz.prog 24 #[v1, v2] w fun e w' => e = .returned (.bool true) ∧ Up w w' := by
  obtain ⟨a1, b1, rfl, hi1, hv1⟩ := h1
  obtain ⟨a2, b2, rfl, hi2, hv2⟩ := h2
  have HI := Lib.hid (fun W (hW : Up w W) => equalI_yes a1 a2 st.b W (hi1.up hW) (hi2.up hW))
  have HV := Lib.hid (fun W (hW : Up w W) => equalV_yes b1 b2 st.v W (hv1.up hW) (hv2.up hW))
  obtain ⟨o1, c1, rfl, _⟩ := hi1.slice
  obtain ⟨o2, c2, rfl, _⟩ := hi2.slice
  obtain ⟨o3, c3, rfl, _, _⟩ := hv1.slice
  obtain ⟨o4, c4, rfl, _, _⟩ := hv2.slice
  clear hi1 hi2 hv1 hv2
  generalize st.b.length = M at *
  generalize st.v.length = N at *
  go_enter Tryz.func24, Tryz.ntmps24
  have HR1 : Hid (RowC ((w.alloc (.cells #[.slice o1 M c1, .slice o3 N c3] 36)).alloc (.cells #[.slice o2 M c2, .slice o4 N c4] 36)) w.heap.size 36 [.slice o1 M c1, .slice o3 N c3]) := RowC.up (heap_alloc_new w _) (Up.alloc _ _)
  have HR2 : Hid (RowC ((w.alloc (.cells #[.slice o1 M c1, .slice o3 N c3] 36)).alloc (.cells #[.slice o2 M c2, .slice o4 N c4] 36)) (w.heap.size + 1) 36 [.slice o2 M c2, .slice o4 N c4]) := box_new w _ _ _ _
  have HW0 : Hid (Up w ((w.alloc (.cells #[.slice o1 M c1, .slice o3 N c3] 36)).alloc (.cells #[.slice o2 M c2, .slice o4 N c4] 36))) := (Up.alloc _ _).trans (Up.alloc _ _)
  go_wp2_with fail
  generalize ((w.alloc (.cells #[.slice o1 M c1, .slice o3 N c3] 36)).alloc (.cells #[.slice o2 M c2, .slice o4 N c4] 36)) = W0 at HR1 HR2 HW0 ⊢
  refine (HI.out _ HW0.out).mono ?_
  rintro e w1 ⟨rfl, u1⟩
  have x0 := (HR1.out.up u1).cell (j := 1) rfl
  have x1 := (HR2.out.up u1).cell (j := 1) rfl
  go_wp2_with fail
  refine (HV.out _ (HW0.out.trans u1)).mono ?_
  rintro e w2 ⟨rfl, u2⟩
  go_wp2_with fail
  go_ret
  exact ⟨rfl, (HW0.out.trans u1).trans u2⟩

end Go.Proofs.YtbeigaanlhaolaaGreatDoor

/-
  What the reference's Vol and Texts return. Conditions: as each says.
-/
namespace Go.Proofs.YtbeigaanlhaolaaGreatDoor
open Go.RowKit
open Go.Proofs
open WoolBag
open WoolVol

def RVRel (p : List UInt8 → Bool) (l : List Vo) (w : World) (i : Value) (wr : World) : Prop :=
  ∃ k : Nat, k ≤ l.length ∧ i = .int .i64 k ∧ Up w wr ∧ ∀ j (h : j < l.length), j < k → p l[j].nm = false

set_option maxRecDepth 100000 in
set_option maxHeartbeats 400000 in
theorem refVol_any (v : Value) (st : Sta) (s : List UInt8) (w : World) (h : Stat w v st) :
    Calls Tryz.prog 39 #[v, .string (bs s)] w fun e w' => e = .returned (.int .i64 (ixV (fun t => t == s) st.v)) ∧ Up w w' := by
  obtain ⟨vb, vv, rfl, hb, hv⟩ := h
  obtain ⟨oB, cB, rfl, _⟩ := hb.slice
  obtain ⟨oV, cV, rfl, h2, h3⟩ := hv.slice
  unfold maxLen at h3
  have H4 := Lib.hid hv
  clear hb hv
  generalize st.b.length = M at *
  obtain ⟨l, hl⟩ : ∃ l, st.v = l := ⟨_, rfl⟩
  rw [hl] at h2 H4 ⊢
  clear hl
  obtain ⟨R, hR⟩ : ∃ R, ixV (fun t => t == s) l = R := ⟨_, rfl⟩
  rw [hR]
  have HR := Lib.hid hR
  clear hR
  go_enter Tryz.func39, Tryz.ntmps39
  go_wp2_with fail
  go_loopw [5, 10] (fun _ i wr => RVRel (fun t => t == s) l w i wr) (fun _ i _ => l.length - (intOf i).toNat)
  case atStart => exact ⟨0, Nat.zero_le _, rfl, Up.alloc _ _, fun j _ hj => by omega⟩
  case round =>
    obtain ⟨k, hk, rfl, hu, hno⟩ := hrel
    by_cases hlt : k < l.length
    · obtain ⟨b, off, rfl, h5⟩ := H4.out.at (by intro e; rw [e] at hlt; simp at hlt)
      obtain ⟨a1, u, a2, hids⟩ := h5 k hlt
      rw [← hu.cell (World.block_lt_of_cell? w _ a1)] at a1
      rw [← hu.cell (World.block_lt_of_cell? w _ a2)] at a2
      obtain ⟨o', c', rfl, _, _⟩ := hids.slice
      have HU := Lib.hid hu
      have HN := Lib.hid hno
      have d1 : decide (k < l.length) = true := decide_eq_true hlt
      have hq := txt_eq l[k].nm s
      obtain ⟨P, hP⟩ : ∃ P, (l[k].nm == s) = P := ⟨_, rfl⟩
      have HPP := Lib.hid hP
      rw [hP] at hq
      generalize l[k].nm = xs at a1 hq
      generalize l[k].bl.length = xn at a2
      clear h5 hu hno hids hP
      cases P with
      | true =>
        go_wp2_with fail
        all_goals
          first
          | (exfalso; simp_all; done)
          | (go_ret
             refine ⟨?_, HU.out.trans (Up.alloc _ _)⟩
             rw [← HR.out]
             unfold ixV
             rw [vix_of hlt HPP.out (fun j hj => HN.out j (by omega) hj)]
             rfl)
      | false =>
        go_wp2_with fail
        go_roundw
        case rel =>
          refine ⟨k + 1, by omega, by go_num, HU.out.trans (Up.alloc _ _), fun j hj hjk => ?_⟩
          by_cases e : j = k
          · subst e; exact HPP.out
          · exact HN.out j hj (by omega)
        case measure => simp only [intOf]; omega
    · have d1 : decide (k < l.length) = false := decide_eq_false hlt
      have HN := Lib.hid hno
      clear hno
      go_wp2_with fail
      go_ret
      refine ⟨?_, hu⟩
      rw [← HR.out]
      unfold ixV
      rw [vix_none.2 (fun x hx => by obtain ⟨i, hi, rfl⟩ := List.getElem_of_mem hx; exact HN.out i hi (by omega))]
      rfl

/-- what stands at a place -/
def txt (l : List Itm) (i : Idn) : List UInt8 := if i.1 then 43 :: (l[(idx (idB i) l).getD 0]!).t else [45]

def txR (t : List UInt8) : List Value := [.string (bs t)]
theorem txR_len (t : List UInt8) : (txR t).length = 1 := rfl

/-- a slice that reads as texts, whole -/
def TxsR (w : World) (v : Value) (L : List (List UInt8)) : Prop := ∃ g, v = .slice (some ⟨g, 0, none⟩) L.length L.length ∧ RowC w g 9 (fl txR L)

theorem TxsR.up {w w' : World} {v : Value} {L : List (List UInt8)} (h : TxsR w v L) (hu : Up w w') : TxsR w' v L := by
  obtain ⟨g, h1, h2⟩ := h
  exact ⟨g, h1, h2.up hu⟩

/-- the elements of the map of texts, as they are -/
def Rh (v : Value) : Option (DataW Value × List MemPlace) := some (.held v, [])

/-- the map of the first k volumes' texts -/
def TMap (w : World) (B k : Nat) (st : Sta) : Prop := ∃ D : DataW Value, w.ownsMap Tryz.prog 9 Rh B k D ∧ ∀ j (hj : j < st.v.length), j < k → ∃ v, D.atKey (.string st.v[j].nm) (.held (.slice none 0 0)) = .held v ∧ TxsR w v (st.v[j].bl.map (txt st.b))

end Go.Proofs.YtbeigaanlhaolaaGreatDoor

/-
  What the reference's Texts returns, of a valid state. Conditions: a valid state.
-/
namespace Go.Proofs.YtbeigaanlhaolaaGreatDoor
open Go.RowKit
open Go.Proofs
open WoolBag
open WoolVol

theorem TMap.up {w w' : World} {B k : Nat} {st : Sta} (h : TMap w B k st) (hu : Up w w') : TMap w' B k st := by
  obtain ⟨D, h1, h2⟩ := h
  refine ⟨D, h1.kept (grown_up hu none) (by simp), fun j hj hk => ?_⟩
  obtain ⟨v, hv, hv2⟩ := h2 j hj hk
  exact ⟨v, hv, hv2.up hu⟩

end Go.Proofs.YtbeigaanlhaolaaGreatDoor

/-
  What the reference's set returns: a state with an identifier at a place of a volume. Conditions: the place is there; at most 6 volumes of at most 32 blocks.
-/
namespace Go.Proofs.YtbeigaanlhaolaaGreatDoor
open Go.RowKit
open Go.Proofs
open WoolBag
open WoolVol

structure SetI (l : List Vo) (B m : Nat) (base O : Nat) (bag vv : Value) (C : List VC) (W0 wr : World) : Prop where
  len : C.length = m
  row : RowC wr O 36 [bag, vv]
  own : OVC wr base vv C
  nm : ∀ q (h : q < l.length) (hq : q < C.length), C[q].nm = l[q].nm
  bl : ∀ q (h : q < l.length) (hq : q < C.length), OIds wr base C[q].sl l[q].bl
  low : Below B W0 wr

def SetRel (l : List Vo) (B base O : Nat) (bag : Value) (W0 : World) (i : Value) (wr : World) : Prop := ∃ m vv C, m ≤ l.length ∧ i = .int .i64 ((m : Nat) : Int) ∧ SetI l B m base O bag vv C W0 wr

theorem SetI.done {l : List Vo} {B base O : Nat} {bag vv : Value} {C : List VC} {W0 wr : World} (h : SetI l B l.length base O bag vv C W0 wr) : Vols wr vv l :=
  ⟨C, h.own.vcs, ⟨h.len, fun q hq => h.nm q hq (by rw [h.len]; exact hq), fun q hq => (h.bl q hq (by rw [h.len]; exact hq)).ids⟩⟩

/-- one volume more -/
theorem SetI.step {l : List Vo} {B m base O : Nat} {bag vv vv' u : Value} {C : List VC} {W0 wr w1 w5 : World} (h : SetI l B m base O bag vv C W0 wr) (hm : m < l.length) (hO : B ≤ O) (hb : base ≤ w1.heap.size) (hBb : B ≤ base)
    (hr1 : RowC w1 O 36 [bag, vv]) (hlow : Below B W0 w1) (hown1 : OVC w1 base vv C) (hbl : ∀ q (hq : q < C.length) (hql : q < l.length), OIds w1 base C[q].sl l[q].bl) (hu : OIds w1 base u l[m].bl)
    (hown : w5.ownsRow base 81 2 vv' (C.length + 1) (fl vcC C ++ [.string (bs l[m].nm), u])) (Z : Obj) (hg : (w1.alloc Z).grownBy w5 vv.ownBlock) :
    SetI l B (m + 1) base O bag vv' (C ++ [⟨l[m].nm, u⟩]) W0 (w5.setCell ⟨O, 1, none⟩ vv') := by
  have hup := Up.alloc w1 Z
  have hne : ∀ {v : Value} {n : Nat} {L : List Value}, w1.ownsRow base 86 3 v n L → v.ownBlock = none ∨ v.ownBlock ≠ vv.ownBlock := by
    intro v n L hv
    rcases own_row hown1 with ⟨e, _, _⟩ | ⟨gv, cap, sp, e, _, hrv, _⟩
    · rw [e]
      cases hvb : v.ownBlock with
      | none => exact .inl rfl
      | some b => exact .inr (by intro e2; cases e2)
    · right
      rw [e]
      exact own_apart hv hrv idVol
  have hrow5 : RowC w5 O 36 [bag, vv] := by
    refine (hr1.up hup).kept hg ?_
    intro e
    rcases own_row hown1 with ⟨e2, _, _⟩ | ⟨gv, cap, sp, e2, _, hrv, _⟩
    · rw [e2] at e; cases e
    · rw [e2] at e
      cases e
      exact RowC.apart hrv hr1 voState rfl
  have hk : ∀ {v : Value} {n : Nat} {L : List Value}, w1.ownsRow base 86 3 v n L → (w5.setCell ⟨O, 1, none⟩ vv').ownsRow base 86 3 v n L := by
    intro v n L hv
    have h5 := World.ownsRow.kept (World.ownsRow.alloc hv Z) hg (hne hv)
    exact own_set h5 (own_apart h5 hrow5 idState)
  have hlen := h.len
  refine ⟨by rw [List.length_append, hlen]; rfl, hrow5.set 1 vv', ?_, ?_, ?_, ?_⟩
  · have h5 : OVC w5 base vv' (C ++ [⟨l[m].nm, u⟩]) := by
      unfold OVC
      rw [fl_append, List.length_append]
      exact hown
    exact own_set h5 (own_apart h5 hrow5 voState)
  · intro q hq hqc
    by_cases e : q < C.length
    · rw [List.getElem_append_left e]; exact h.nm q hq e
    · have : q = m := by rw [List.length_append] at hqc; simp at hqc; omega
      subst this
      rw [List.getElem_append_right (by omega)]
      simp
  · intro q hq hqc
    by_cases e : q < C.length
    · rw [List.getElem_append_left e]; exact hk (hbl q e hq)
    · have : q = m := by rw [List.length_append] at hqc; simp at hqc; omega
      subst this
      rw [List.getElem_append_right (by omega)]
      simp only [hlen, Nat.sub_self, List.getElem_cons_zero]
      exact hk hu
  · refine Below.setCell ?_ (p := ⟨O, 1, none⟩) hO _
    refine Below.grown (hlow.trans (hup.mono (Nat.le_trans hBb hb))) hg (Nat.le_trans (Nat.le_trans hBb hb) hup.size) ?_
    intro b hb2
    exact Nat.le_trans hBb (World.ownsRow.lt hown1 b hb2).1

end Go.Proofs.YtbeigaanlhaolaaGreatDoor
