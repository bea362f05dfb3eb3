/-
  The law PrimeFactors, walked: for every m the Go text returns true; nothing that was there turns. No condition.
-/
import Derived.Test.YtlplmiaebcgnmaaFacts
namespace Go.Proofs.Ytlplmiaebcgnmaa
open Go.RowKit
open Go.Proofs

theorem isNaN_any (x : Int) (w : World) : Calls Try.prog 66 #[.int .i64 x] w fun e w' => e = .returned (.bool false) ∧ w = w' := by
  go_enter Try.func66, Try.ntmps66
  go_wp2
  go_ret
  exact ⟨by simp, rfl⟩

theorem cmpLess_no (x y : Int) (w : World) (h : y ≤ x) : Calls Try.prog 61 #[.int .i64 x, .int .i64 y] w fun e w' => e = .returned (.bool false) ∧ w = w' := by
  have d : decide (x < y) = false := by rw [decide_eq_false_iff_not]; omega
  go_enter Try.func61, Try.ntmps61
  go_wp2_with (go_at_call 66; refine (isNaN_any _ _).mono ?_; rintro e w' ⟨rfl, rfl⟩)
  go_ret
  exact ⟨rfl, rfl⟩

theorem Up.drewN {w wr : World} (h : Up w wr) (n : Nat) : Up w (wr.drewN n) := Below.trans h ⟨rfl, rfl, rfl, Nat.le_refl _, fun _ _ => rfl⟩

def SortRel (n : Nat) (w : World) (i : Value) (wr : World) : Prop := ∃ K : Nat, K ≤ n ∧ i = .int .i64 ((K : Int) - 1) ∧ Up w wr

set_option maxRecDepth 100000 in
set_option maxHeartbeats 400000 in
theorem isSorted_yes (v : Value) (b : Nat) (l : List Nat) (w : World) (hl : l.length ≤ 1000) (h : Ints w b v l) (hs : l.Pairwise (· ≤ ·)) :
    Calls Try.prog 46 #[v] w fun e w' => e = .returned (.bool true) ∧ Up w w' := by
  obtain ⟨o, c, rfl⟩ := h.shape
  have H := Lib.hid h
  have HS := Lib.hid hs
  clear h hs
  go_enter Try.func46, Try.ntmps46
  go_wp2_with fail
  go_loopw [3] (fun i wr => SortRel l.length w i wr) (fun i _ => (intOf i + 1).toNat)
  case atStart => exact ⟨l.length, Nat.le_refl _, rfl, Up.refl w⟩
  case round =>
    obtain ⟨K, hK, rfl, hu⟩ := hrel
    have HU := Lib.hid hu
    clear hu
    by_cases hlt : 2 ≤ K
    · obtain ⟨J, rfl⟩ : ∃ J, K = J + 2 := ⟨K - 2, by omega⟩
      obtain ⟨g, c', hs1, _, _, hc, hm⟩ := H.out.block (by omega)
      simp only [Value.slice.injEq, true_and] at hs1
      obtain ⟨rfl, rfl⟩ := hs1
      have e1 := (H.out.up HU.out).cell (J + 1) (by omega)
      have e2 := (H.out.up HU.out).cell J (by omega)
      have hle : l[J] ≤ l[J + 1] := (List.pairwise_iff_getElem.1 HS.out) J (J + 1) (by omega) (by omega) (by omega)
      have hi : ((J + 2 : Nat) : Int) - 1 = ((J + 1 : Nat) : Int) := by omega
      rw [hi]
      generalize l[J] = x at *
      generalize l[J + 1] = y at *
      unfold maxLen at hm
      clear hi
      have hJ1 : ((J + 1 : Nat) : Int) < (l.length : Int) := by omega
      go_wp2_with fail
      go_quiet ((go_at_call 61; exact Calls.quiet_of_same ((cmpLess_no _ _ _ (by omega)).mono fun _ _ h => ⟨h.1, h.2.symm⟩)))
      go_wp2_with fail
      go_roundw
      case rel => exact ⟨J + 1, by omega, by go_num, HU.out.drewN _⟩
      case measure => simp only [intOf]; omega
    · have d : decide ((0 : Int) < (K : Int) - 1) = false := by rw [decide_eq_false_iff_not]; omega
      have d' : decide ((1 : Int) < (K : Int)) = false := by rw [decide_eq_false_iff_not]; omega
      go_wp2_with fail
      go_ret
      exact ⟨rfl, HU.out⟩

/-! ytlplmiaebcgnmaa# PrimeFactors -/

theorem prime3 : WoolMath.Prime 3 := WoolMath.prime_of 3 (by decide +kernel)
theorem prime7' : WoolMath.Prime 7 := WoolMath.prime_of 7 (by decide +kernel)

theorem factors27 : WoolMath.IsFactors [3, 3, 7] 27 := by
  refine ⟨fun p hp => ?_, by decide, by simp⟩
  simp only [List.mem_cons, List.not_mem_nil, or_false] at hp
  rcases hp with rfl | rfl | rfl
  · exact prime3
  · exact prime3
  · exact prime7'

theorem prodL_take_dvd (l : List Nat) (k : Nat) : WoolMath.dvd (WoolMath.prodL (l.take k)) (WoolMath.prodL l) := by
  refine ⟨WoolMath.prodL (l.drop k), ?_⟩
  rw [WoolMath.mul_comm, ← WoolMath.prodL_append, List.take_append_drop]

theorem prodL_take_succ (l : List Nat) (k : Nat) (h : k < l.length) : WoolMath.prodL (l.take (k + 1)) = WoolMath.mul (WoolMath.prodL (l.take k)) l[k] := by
  rw [List.take_succ_eq_append_getElem h, WoolMath.prodL_append, WoolMath.prodL_cons, WoolMath.prodL_nil, WoolMath.mul_one]

theorem one_iff {l : List Nat} {M : Nat} (h : WoolMath.IsFactors l M) : WoolMath.Prime M ↔ l.length = 1 := by
  constructor
  · intro hp
    rw [WoolMath.factors_unique h (WoolMath.prime_factors_one hp)]; rfl
  · intro hl
    obtain ⟨p, rfl⟩ := List.length_eq_one_iff.1 hl
    have : WoolMath.prodL [p] = M := h.2.1
    rw [WoolMath.prodL_cons, WoolMath.prodL_nil, WoolMath.mul_one] at this
    rw [← this]
    exact h.1 p (by simp)

def PFRel (l : List Nat) (w : World) (p i : Value) (wr : World) : Prop :=
  ∃ K : Nat, K ≤ l.length ∧ i = .int .i64 K ∧ p = .int .i64 ((WoolMath.prodL (l.take K) : Nat) : Int) ∧ Up w wr

set_option maxRecDepth 100000 in
set_option maxHeartbeats 1000000 in
theorem primeFactors_walk (a0 : Int) (w : World) (_w0 : (Lit.int .i64 a0).wf = true) :
    Calls Try.prog 14 #[.int .i64 a0] w fun e w' => e = .returned (.bool true) ∧ Up w w' := by
  go_enter Try.func14, Try.ntmps14
  go_wp2_with fail
  refine (factors_ok 27 _ (by omega) (by omega)).mono ?_
  rintro e w1 ⟨v, l0, hfac, hl30, rfl, hints, u1⟩
  obtain rfl := WoolMath.factors_unique hfac factors27
  have HINTS := Lib.hid hints
  clear hfac hints
  go_wp2_with fail
  have hlit : Ints (w1.alloc (.cells #[.int .i64 3, .int .i64 3, .int .i64 7] 3)) 0 (.slice (some ⟨w1.heap.size, 0, none⟩) 3 3) [3, 3, 7] :=
    World.ownsRow_lit w1 _ 3 (Nat.zero_le _) (by unfold maxLen; omega) rfl
  refine (equal_yes _ _ _ _ [3, 3, 7] _ (by simp) (HINTS.out.up (Up.alloc _ _)) hlit).mono ?_
  rintro e w2 ⟨rfl, u2⟩
  have HU := Lib.hid ((u1.trans (Up.alloc _ _)).trans u2)
  clear hlit u1 u2 HINTS
  go_wp2_with fail
  refine (less_any _ 24 _ (by omega)).mono ?_
  rintro e w' ⟨rfl, rfl⟩
  have hM : within a0 (2 ^ 24) < 16777216 := within_lt a0 (2 ^ 24) (by omega)
  generalize within a0 (2 ^ 24) = M0 at *
  go_wp2_with fail
  rw [show (1 : Int) + (M0 : Int) = ((1 + M0 : Nat) : Int) by omega]
  have hM1 : 1 ≤ 1 + M0 := by omega
  have hM2 : 1 + M0 ≤ 16777216 := by omega
  clear hM
  generalize 1 + M0 = M at *
  refine (factors_ok M _ hM1 (by omega)).mono ?_
  rintro e w3 ⟨v3, l, hfac, hl, rfl, hints, u3⟩
  obtain ⟨o, c, rfl⟩ := hints.shape
  have HFAC := Lib.hid hfac
  have HINTS := Lib.hid hints
  have HU3 := Lib.hid (HU.out.trans u3)
  clear hfac hints u3 HU
  go_wp2_with fail
  refine (isSorted_yes _ _ l _ (by omega) HINTS.out HFAC.out.2.2).mono ?_
  rintro e w4 ⟨rfl, u4⟩
  have HINTS4 := Lib.hid (HINTS.out.up u4)
  have HU4 := Lib.hid (HU3.out.trans u4)
  clear HINTS HU3 u4
  go_wp2_with fail
  go_loopw [7, 44] (fun p i wr => PFRel l w4 p i wr) (fun _ i _ => l.length - (intOf i).toNat)
  case atStart => exact ⟨0, by omega, rfl, rfl, Up.refl _⟩
  case round =>
    obtain ⟨K, hK, rfl, rfl, hu⟩ := hrel
    have HU := Lib.hid hu
    clear hu
    by_cases hlt : K < l.length
    · obtain ⟨g, c', hs1, _, _, hc, hm⟩ := HINTS4.out.block (by omega)
      simp only [Value.slice.injEq, true_and] at hs1
      obtain ⟨rfl, rfl⟩ := hs1
      have hcell := (HINTS4.out.up HU.out).cell K hlt
      have hpf : WoolMath.Prime l[K] := HFAC.out.1 _ (List.getElem_mem hlt)
      have hsucc := prodL_take_succ l K hlt
      have hM0 : M ≠ 0 := by omega
      have hd1 : WoolMath.prodL (l.take K) ≤ M := by
        have := prodL_take_dvd l K
        rw [HFAC.out.2.1] at this
        exact WoolMath.dvd_le_num this hM0
      have hd2 : WoolMath.prodL (l.take (K + 1)) ≤ M := by
        have := prodL_take_dvd l (K + 1)
        rw [HFAC.out.2.1] at this
        exact WoolMath.dvd_le_num this hM0
      have hd3 : l[K] ≤ M := by
        have h1 : WoolMath.dvd l[K] (WoolMath.prodL (l.take (K + 1))) := by rw [hsucc]; exact WoolMath.dvd_self_mul _ _
        have h2 := WoolMath.dvd_trans h1 (prodL_take_dvd l (K + 1))
        rw [HFAC.out.2.1] at h2
        exact WoolMath.dvd_le_num h2 hM0
      generalize l[K] = f at *
      have HPF := Lib.hid hpf
      have HSU := Lib.hid hsucc
      unfold maxLen at hm
      clear hpf hsucc
      generalize hQ : WoolMath.prodL (l.take (K + 1)) = Q at *
      have HQ := Lib.hid hQ
      clear hQ
      generalize WoolMath.prodL (l.take K) = P at *
      go_wp2_with fail
      refine (is_yes f _ (by omega) HPF.out).mono ?_
      rintro e w5 ⟨rfl, u5⟩
      go_wp2_with fail
      refine (mulN P f _ (by omega) (by omega) (by rw [← HSU.out]; omega)).mono ?_
      rintro e w6 ⟨rfl, u6⟩
      rw [← HSU.out]
      go_wp2_with fail
      go_roundw
      case rel => exact ⟨K + 1, by omega, by go_num, by rw [HQ.out], (HU.out.trans u5).trans u6⟩
      case measure => simp [intOf]; omega
    · have hKe : K = l.length := by omega
      have d : decide (K < l.length) = false := by rw [decide_eq_false_iff_not]; omega
      have hfull : WoolMath.prodL (l.take K) = M := by rw [hKe, List.take_length]; exact HFAC.out.2.1
      rw [hfull]
      have hone := one_iff HFAC.out
      clear hKe hfull
      by_cases hp : WoolMath.Prime M
      · have hl1 := hone.1 hp
        have HP := Lib.hid hp
        have t1 : ((l.length : Int) == 1) = true := by rw [beq_iff_eq]; omega
        clear hp hone hl1
        go_wp2_with fail
        refine (is_yes M _ (by omega) HP.out).mono ?_
        rintro e w5 ⟨rfl, u5⟩
        go_wp2_with fail
        go_ret
        exact ⟨rfl, (HU4.out.trans HU.out).trans u5⟩
      · have hl1 : l.length ≠ 1 := fun h => hp (hone.2 h)
        have HP := Lib.hid hp
        have t1 : ((l.length : Int) == 1) = false := by rw [beq_eq_false_iff_ne]; omega
        clear hp hone hl1
        go_wp2_with fail
        refine (is_no M _ (by omega) HP.out).mono ?_
        rintro e w5 ⟨rfl, u5⟩
        go_wp2_with fail
        go_ret
        exact ⟨rfl, (HU4.out.trans HU.out).trans u5⟩

end Go.Proofs.Ytlplmiaebcgnmaa
