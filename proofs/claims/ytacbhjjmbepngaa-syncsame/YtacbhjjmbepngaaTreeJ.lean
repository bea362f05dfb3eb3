/-
  slices.Clone at texts; slices.IsSorted at rising ints. Conditions: as each says.
-/
import Derived.Test.YtacbhjjmbepngaaTreeI
import Derived.Lib.SlBytesRow
namespace Go.Proofs.Ytacbhjjmbepngaa
open Go.RowKit
open Go.Proofs
open WoolTree

/-- a slice of texts of the call's own -/
def OTxs (w : World) (base : Nat) (v : Value) (l : List (List UInt8)) : Prop := w.ownsRow base 9 1 v l.length (fl txC l)
theorem OTxs.txs {w : World} {base : Nat} {v : Value} {l : List (List UInt8)} (h : OTxs w base v l) : Txs w v l := Sl.of_own h
theorem OTxs.up {w w' : World} {base : Nat} {v : Value} {l : List (List UInt8)} (h : OTxs w base v l) (hu : Up w w') : OTxs w' base v l := own_upT h hu

theorem strInfoT : (Try.prog.info? 9).map (fun i => (i.zero, i.size, i.bytes)) = some (some (.string ⟨#[]⟩), 1, 16) := by kernel_rfl

def ClTPost (w : World) (l : List (List UInt8)) (e : Ending) (w' : World) : Prop := ∃ v', e = .returned v' ∧ OTxs w' w.heap.size v' l ∧ Up w w'

set_option maxRecDepth 100000 in
set_option maxHeartbeats 1000000 in
theorem cloneT_any (v : Value) (l : List (List UInt8)) (w : World) (h : Txs w v l) (hl : l.length * 16 ≤ 140737488351232) :
    Calls Try.prog 35 #[v] w (ClTPost w l) := by
  obtain ⟨i0, hi, hz0, hz1, hz2⟩ := info_parts strInfoT
  have HX := Lib.hid h
  obtain ⟨o, c, rfl, h3, h3'⟩ := h.slice
  have q22 : ∀ (w : World) (a : Option Addr) (n c n' c' : Nat), (binOp .eql 22 (.slice a n c) (.slice none n' c')).run Try.prog w = .ok (.bool a.isNone) w := fun w a n c n' c' => Lib.run_eql_slice_nil w _ _ a n c n' c' Try.underlying22
  cases o with
  | none =>
    have hn : l = [] := by
      by_cases e : l = []
      · exact e
      · obtain ⟨b, off, e2, _⟩ := h.at e
        cases e2
    subst hn
    clear h
    go_enter Try.func35, Try.ntmps35
    go_wp2
    go_ret
    exact ⟨_, rfl, World.ownsRow_nil _ _ _ _, Up.refl _⟩
  | some ad =>
    have hcl : Hid (∀ j u, (fl txC l)[j]? = some u → w.cell? (ad.add j) = some u) := by
      intro j u hj
      have hne : l.length ≠ 0 := by
        intro e
        have e2 := List.eq_nil_of_length_eq_zero e
        subst e2
        simp [fl] at hj
      obtain ⟨b, off, e, hc⟩ := Sl.cells (show Sl w 1 (.slice (some ad) l.length c) l.length (fl txC l) from HX.out) hne
      cases e
      rw [add_offT]
      exact hc j u hj
    have hlen := fl_length (f := txC) txC_len l
    clear h HX
    go_enter Try.func35, Try.ntmps35
    go_wp2_with (at_builtin; refine wpList_append_own _ rfl _ _ 22 rfl w.heap.size 9 i0 (.string ⟨#[]⟩) 1 16 Try.underlying22 hi hz0 hz1 hz2 rfl (by omega) _ _ _ rfl (World.ownsRow_made w #[] 0 (Nat.le_refl _) (Nat.zero_le _) (by simp)) ad l.length c (fl txC l) rfl ?qc1 ?qc2 ?qc3 ?qc4 ?qc5 ?qc6 ?_)
    case qc1 => exact hlen
    case qc2 =>
      intro j u hj
      exact Lib.cell?_alloc_some _ (hcl.out j u hj)
    case qc3 => exact fl_one txC_one l
    case qc4 => unfold maxLen; omega
    case qc5 => omega
    case qc6 => simp
    intro v' w1 hown hgrow hnil
    have HO : Hid (OTxs w1 w.heap.size v' l) := by
      show OTxs w1 w.heap.size v' l
      unfold OTxs
      simpa using hown
    have HU : Hid (Up w w1) := ((Below.refl _ w).alloc (Nat.le_refl _) _).grown hgrow (by simp) (by intro k hk; simp [Value.ownBlock] at hk; omega)
    clear hown hgrow hnil hcl hlen
    go_wp2
    go_ret
    exact ⟨v', rfl, HO.out, HU.out⟩

theorem isNaNT_any (x : Int) (w : World) : Calls Try.prog 66 #[.int .i64 x] w fun e w' => e = .returned (.bool false) ∧ w = w' := by
  go_enter Try.func66, Try.ntmps66
  go_wp2
  go_ret
  exact ⟨by simp, rfl⟩

theorem cmpLessT_no (x y : Int) (w : World) (h : y ≤ x) : Calls Try.prog 56 #[.int .i64 x, .int .i64 y] w fun e w' => e = .returned (.bool false) ∧ w = w' := by
  have d : decide (x < y) = false := by rw [decide_eq_false_iff_not]; omega
  go_enter Try.func56, Try.ntmps56
  go_wp2_with (go_at_call 66; refine (isNaNT_any _ _).mono ?_; rintro e w' ⟨rfl, rfl⟩)
  go_ret
  exact ⟨rfl, rfl⟩

def SortTRel (n : Nat) (w : World) (i : Value) (wr : World) : Prop := ∃ K : Nat, K ≤ n ∧ i = .int .i64 ((K : Int) - 1) ∧ Up w wr

set_option maxRecDepth 100000 in
set_option maxHeartbeats 400000 in
theorem isSortedT_yes (v : Value) (b : Nat) (l : List Nat) (w : World) (hl : l.length ≤ 1000) (h : Ints w b v l) (hs : l.Pairwise (· ≤ ·)) :
    Calls Try.prog 34 #[v] w fun e w' => e = .returned (.bool true) ∧ Up w w' := by
  obtain ⟨o, c, rfl⟩ := h.shape
  have H := Lib.hid h
  have HS := Lib.hid hs
  clear h hs
  go_enter Try.func34, Try.ntmps34
  go_wp2_with fail
  go_loopw [3] (fun i wr => SortTRel l.length w i wr) (fun i _ => (intOf i + 1).toNat)
  case atStart => exact ⟨l.length, Nat.le_refl _, rfl, Up.refl w⟩
  case round =>
    obtain ⟨K, hK, rfl, hu⟩ := hrel
    have HU := Lib.hid hu
    clear hu
    by_cases hlt : 2 ≤ K
    · obtain ⟨J, rfl⟩ : ∃ J, K = J + 2 := ⟨K - 2, by omega⟩
      obtain ⟨g, c', hs1, _, _, hc, hm⟩ := H.out.block (by omega)
      simp only [Value.slice.injEq, true_and] at hs1
      obtain ⟨rfl, rfl⟩ := hs1
      have e1 := (H.out.up HU.out).cell (J + 1) (by omega)
      have e2 := (H.out.up HU.out).cell J (by omega)
      have hle : l[J] ≤ l[J + 1] := (List.pairwise_iff_getElem.1 HS.out) J (J + 1) (by omega) (by omega) (by omega)
      have hi : ((J + 2 : Nat) : Int) - 1 = ((J + 1 : Nat) : Int) := by omega
      rw [hi]
      generalize l[J] = x at *
      generalize l[J + 1] = y at *
      unfold maxLen at hm
      clear hi
      have hJ1 : ((J + 1 : Nat) : Int) < (l.length : Int) := by omega
      go_wp2_with fail
      go_quiet ((go_at_call 56; exact Calls.quiet_of_same ((cmpLessT_no _ _ _ (by omega)).mono fun _ _ h => ⟨h.1, h.2.symm⟩)))
      go_wp2_with fail
      go_roundw
      case rel => exact ⟨J + 1, by omega, by go_num, HU.out.trans (Up.drewN _ _)⟩
      case measure => simp only [intOf]; omega
    · have d : decide ((0 : Int) < (K : Int) - 1) = false := by rw [decide_eq_false_iff_not]; omega
      have d' : decide ((1 : Int) < (K : Int)) = false := by rw [decide_eq_false_iff_not]; omega
      go_wp2_with fail
      go_ret
      exact ⟨rfl, HU.out⟩


end Go.Proofs.Ytacbhjjmbepngaa
