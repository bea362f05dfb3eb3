/-
  What the reference's Gcd, ModMul and ModPow return; the laws PolyDivides and PolyMods, walked: for every input the Go text returns true; nothing that was there turns. No condition.
-/
import Derived.Test.YtlplmiaebcgnmaaRef4
import Derived.OpenShut
namespace Go.Proofs.Ytlplmiaebcgnmaa
open Go.RowKit
open Go.Proofs

def RefGcdPost (a b : Nat) (w : World) (e : Ending) (w' : World) : Prop :=
  ∃ g : Nat, WoolMath.IsGcd g a b ∧ e = .returned (.int .i64 (g : Int)) ∧ Up w w'

set_option maxRecDepth 100000 in
set_option maxHeartbeats 400000 in
theorem refGcd_any (k : Nat) : ∀ (A B : Nat) (w : World), B ≤ k → A ≤ 2147483647 → B ≤ 2147483647 →
    Calls Try.prog 29 #[.int .i64 (A : Int), .int .i64 (B : Int)] w (RefGcdPost A B w) := by
  induction k with
  | zero =>
    intro A B w hk hA hB
    have : B = 0 := by omega
    subst this
    go_enter Try.func29, Try.ntmps29
    go_wp2_with fail
    go_ret
    exact ⟨A, WoolMath.gcd_zero A, rfl, Up.refl w⟩
  | succ k ih =>
    intro A B w hk hA hB
    by_cases hz : B = 0
    · subst hz
      clear ih
      go_enter Try.func29, Try.ntmps29
      go_wp2_with fail
      go_ret
      exact ⟨A, WoolMath.gcd_zero A, rfl, Up.refl w⟩
    · have IH := Lib.hid ih
      have HZ := Lib.hid hz
      have hz' : ((B : Int) == 0) = false := by rw [beq_eq_false_iff_ne]; omega
      have hr := pmod_le A B hz hB
      have hlt : WoolMath.pmod A B < B := by
        have h := WoolMath.pmod_lt A B hz
        have := (WoolMath.top_of B hz).1
        omega
      have hbA := WoolMath.blen_le A 31 (by omega)
      have hbB := WoolMath.blen_le B 31 (by omega)
      clear ih hz
      go_enter Try.func29, Try.ntmps29
      go_wp2_with fail
      refine (coef_any _ _ (by omega)).mono ?_
      rintro e w1 ⟨vx, rfl, hbx, u1⟩
      rw [Int.toNat_natCast] at hbx
      have HBX := Lib.hid hbx
      clear hbx
      go_wp2_with fail
      refine (coef_any _ _ (by omega)).mono ?_
      rintro e w2 ⟨vy, rfl, hby, u2⟩
      rw [Int.toNat_natCast] at hby
      have HBX2 := Lib.hid ((HBX.out.up u2).weak (Nat.zero_le _))
      have HBY := Lib.hid (hby.weak (Nat.zero_le _))
      clear hby HBX
      go_wp2_with fail
      refine (left_any _ _ A B _ _ (by omega) (WoolMath.lt_blen A) HZ.out (by omega) HBX2.out HBY.out).mono ?_
      rintro e w3 ⟨uq, ur, rfl, _, hbr, u3⟩
      have HBR := Lib.hid hbr
      clear hbr
      go_wp2_with fail
      refine (num_any _ _ _ _ _ ?_ (WoolMath.lt_blen _) HBR.out).mono ?_
      · exact Nat.le_trans (WoolMath.blen_le _ 30 hr) (by omega)
      rintro e w' ⟨rfl, rfl⟩
      have HU := Lib.hid ((u1.trans u2).trans u3)
      clear u1 u2 u3
      go_wp2_with fail
      refine (IH.out B _ _ (by omega) hB (by omega)).mono ?_
      rintro e w4 ⟨g, hg, rfl, u4⟩
      have hg2 := WoolMath.gcd_step.2 hg
      have HG := Lib.hid hg2
      clear hg hg2
      go_wp2_with fail
      go_ret
      exact ⟨g, HG.out, rfl, HU.out.trans u4⟩

set_option maxRecDepth 100000 in
set_option maxHeartbeats 400000 in
theorem refModMul_any (A B M : Nat) (w : World) (hA : A ≤ 2147483647) (hB : B ≤ 2147483647) (hM0 : M ≠ 0) (hM : M ≤ 2147483647) :
    Calls Try.prog 33 #[.int .i64 (A : Int), .int .i64 (B : Int), .int .i64 (M : Int)] w fun e w' => e = .returned (.int .i64 (WoolMath.pmod (WoolMath.mul A B) M : Nat)) ∧ Up w w' := by
  have HZ := Lib.hid hM0
  have hr := pmod_le (WoolMath.mul A B) M hM0 hM
  have hf := mul_fits A B hA hB
  have hbA := WoolMath.blen_le A 31 (by omega)
  have hbB := WoolMath.blen_le B 31 (by omega)
  have hbM := WoolMath.blen_le M 31 (by omega)
  have hbP := WoolMath.blen_le (WoolMath.mul A B) 61 hf
  clear hM0
  go_enter Try.func33, Try.ntmps33
  go_wp2_with fail
  refine (coef_any _ _ (by omega)).mono ?_
  rintro e w1 ⟨vx, rfl, hbx, u1⟩
  rw [Int.toNat_natCast] at hbx
  have HBX := Lib.hid hbx
  clear hbx
  go_wp2_with fail
  refine (coef_any _ _ (by omega)).mono ?_
  rintro e w2 ⟨vy, rfl, hby, u2⟩
  rw [Int.toNat_natCast] at hby
  have HBX2 := Lib.hid ((HBX.out.up u2).weak (Nat.zero_le _))
  have HBY := Lib.hid (hby.weak (Nat.zero_le _))
  clear hby HBX
  go_wp2_with fail
  refine (prod_any _ _ A B _ _ _ (by omega) (by omega) (WoolMath.lt_blen A) (WoolMath.lt_blen B) HBX2.out HBY.out).mono ?_
  rintro e w3 ⟨vp, rfl, hbp, u3⟩
  have HBP := Lib.hid hbp
  clear hbp HBX2 HBY
  go_wp2_with fail
  refine (coef_any _ _ (by omega)).mono ?_
  rintro e w4 ⟨vm, rfl, hbm, u4⟩
  rw [Int.toNat_natCast] at hbm
  have HBP2 := Lib.hid ((HBP.out.up u4).weak (Nat.zero_le _))
  have HBM := Lib.hid (hbm.weak (Nat.zero_le _))
  clear hbm HBP
  go_wp2_with fail
  refine (left_any _ _ _ M _ _ (by omega) (WoolMath.lt_blen _) HZ.out (by omega) HBP2.out HBM.out).mono ?_
  rintro e w5 ⟨uq, ur, rfl, _, hbr, u5⟩
  have HBR := Lib.hid hbr
  have HU := Lib.hid ((((u1.trans u2).trans u3).trans u4).trans u5)
  clear hbr u1 u2 u3 u4 u5
  go_wp2_with fail
  refine (num_any _ _ _ _ _ ?_ (WoolMath.lt_blen _) HBR.out).mono ?_
  · exact Nat.le_trans (WoolMath.blen_le _ 30 hr) (by omega)
  rintro e w' ⟨rfl, rfl⟩
  go_wp2_with fail
  go_ret
  exact ⟨rfl, HU.out⟩

theorem pow_half (a n m : Nat) (hm : m ≠ 0) :
    WoolMath.pmod (WoolMath.pw a n) m = if n % 2 = 1 then WoolMath.pmod (WoolMath.mul (WoolMath.pmod (WoolMath.mul (WoolMath.pmod (WoolMath.pw a (n / 2)) m) (WoolMath.pmod (WoolMath.pw a (n / 2)) m)) m) a) m
      else WoolMath.pmod (WoolMath.mul (WoolMath.pmod (WoolMath.pw a (n / 2)) m) (WoolMath.pmod (WoolMath.pw a (n / 2)) m)) m := by
  have key : WoolMath.pmod (WoolMath.mul (WoolMath.pmod (WoolMath.pw a (n / 2)) m) (WoolMath.pmod (WoolMath.pw a (n / 2)) m)) m = WoolMath.pmod (WoolMath.pw a (2 * (n / 2))) m := by
    rw [WoolMath.pmod_mul_left _ _ _ hm, WoolMath.pmod_mul_right _ _ _ hm, WoolMath.pw_twice]
  by_cases h : n % 2 = 1
  · rw [if_pos h, WoolMath.pmod_mul_left _ _ _ hm]
    have e : n = 2 * (n / 2) + 1 := by omega
    rw [← WoolMath.pmod_mul_left _ _ _ hm, key, WoolMath.pmod_mul_left _ _ _ hm, ← WoolMath.pw_succ, ← e]
  · rw [if_neg h, key]
    have e : 2 * (n / 2) = n := by omega
    rw [e]

set_option maxRecDepth 100000 in
set_option maxHeartbeats 400000 in
theorem refModPow_any (k : Nat) : ∀ (A N M : Nat) (w : World), N < 2 ^ k → k ≤ 63 → A ≤ 2147483647 → M ≠ 0 → M ≤ 2147483647 →
    Calls Try.prog 34 #[.int .i64 (A : Int), .int .i64 (N : Int), .int .i64 (M : Int)] w fun e w' => e = .returned (.int .i64 (WoolMath.pmod (WoolMath.pw A N) M : Nat)) ∧ Up w w' := by
  induction k with
  | zero =>
    intro A N M w hN _ hA hM0 hM
    have : N = 0 := by simpa using hN
    subst this
    have HZ := Lib.hid hM0
    clear hM0 hN
    go_enter Try.func34, Try.ntmps34
    go_wp2_with fail
    refine (refModMul_any 1 1 M _ (by omega) (by omega) HZ.out hM).mono ?_
    rintro e w1 ⟨rfl, u1⟩
    rw [WoolMath.mul_one]
    go_wp2_with fail
    go_ret
    exact ⟨rfl, u1⟩
  | succ k ih =>
    intro A N M w hN hk hA hM0 hM
    have HZ := Lib.hid hM0
    have IH := Lib.hid ih
    clear ih
    by_cases hz : N = 0
    · subst hz
      clear hM0 hN
      go_enter Try.func34, Try.ntmps34
      go_wp2_with fail
      refine (refModMul_any 1 1 M _ (by omega) (by omega) HZ.out hM).mono ?_
      rintro e w1 ⟨rfl, u1⟩
      rw [WoolMath.mul_one]
      go_wp2_with fail
      go_ret
      exact ⟨rfl, u1⟩
    · have hz' : ((N : Int) == 0) = false := by rw [beq_eq_false_iff_ne]; omega
      have hN63 : N < 9223372036854775808 := Nat.lt_of_lt_of_le hN (Nat.pow_le_pow_right (n := 2) (j := 63) (by omega) hk)
      have hh : N / 2 < 2 ^ k := by rw [Nat.pow_succ] at hN; omega
      have HH := Lib.hid hh
      have hph := pow_half A N M hM0
      have hr1 := pmod_le (WoolMath.pw A (N / 2)) M hM0 hM
      have hr2 := pmod_le (WoolMath.mul (WoolMath.pmod (WoolMath.pw A (N / 2)) M) (WoolMath.pmod (WoolMath.pw A (N / 2)) M)) M hM0 hM
      clear hN hh hM0 hz
      go_enter Try.func34, Try.ntmps34
      go_wp2_with fail
      rw [show (N : Int) / 2 = ((N / 2 : Nat) : Int) by omega]
      refine (IH.out A (N / 2) M _ HH.out (by omega) hA HZ.out hM).mono ?_
      rintro e w1 ⟨rfl, u1⟩
      generalize WoolMath.pmod (WoolMath.pw A (N / 2)) M = X at *
      by_cases ho : N % 2 = 1
      · rw [if_pos ho] at hph
        have HPH := Lib.hid (congrArg (fun z : Nat => Ending.returned (.int .i64 (z : Int))) hph)
        have t1 : ((N : Int) % 2 == 1) = true := by rw [beq_iff_eq]; omega
        clear hph ho
        go_wp2_with fail
        refine (refModMul_any X X M _ (by omega) (by omega) HZ.out hM).mono ?_
        rintro e w2 ⟨rfl, u2⟩
        generalize WoolMath.pmod (WoolMath.mul X X) M = Y at *
        go_wp2_with fail
        refine (refModMul_any Y A M _ (by omega) hA HZ.out hM).mono ?_
        rintro e w3 ⟨rfl, u3⟩
        go_wp2_with fail
        go_ret
        exact ⟨HPH.out.symm, (u1.trans u2).trans u3⟩
      · rw [if_neg ho] at hph
        have HPH := Lib.hid (congrArg (fun z : Nat => Ending.returned (.int .i64 (z : Int))) hph)
        have t1 : ((N : Int) % 2 == 1) = false := by rw [beq_eq_false_iff_ne]; omega
        clear hph ho
        go_wp2_with fail
        refine (refModMul_any X X M _ (by omega) (by omega) HZ.out hM).mono ?_
        rintro e w2 ⟨rfl, u2⟩
        go_wp2_with fail
        go_ret
        exact ⟨HPH.out.symm, u1.trans u2⟩

/-! ytlplmiaebcgnmaa# PolyDivides -/

set_option maxRecDepth 100000 in
set_option maxHeartbeats 1000000 in
theorem polyDivides_walk (a0 a1 : Int) (w : World) (_w0 : (Lit.int .i64 a0).wf = true) (_w1 : (Lit.int .i64 a1).wf = true) :
    Calls Try.prog 4 #[.int .i64 a0, .int .i64 a1] w fun e w' => e = .returned (.bool true) ∧ Up w w' := by
  by_cases hbad : a0 < 0 ∨ 2147483647 < a0 ∨ a1 < 0 ∨ 2147483647 < a1
  · have HB := Lib.hid hbad
    clear hbad
    go_enter Try.func4, Try.ntmps4
    go_wp2_with fail
    refine (div_bad _ _ _ HB.out).mono ?_
    rintro e w1 ⟨rfl, u1⟩
    go_wp2_with fail
    refine (gcd_bad _ _ _ HB.out).mono ?_
    rintro e w2 ⟨rfl, u2⟩
    go_wp2_with fail
    refine (refPoly_bad [a0, a1] _ 2 _ (by omega) rfl (row2 _ _ _ _) (bad2 a0 a1 HB.out)).mono ?_
    rintro e w' ⟨rfl, rfl⟩
    go_wp2_with fail
    go_ret
    exact ⟨rfl, (u1.trans u2).trans (Up.alloc _ _)⟩
  obtain ⟨A, rfl⟩ := Int.eq_ofNat_of_zero_le (show 0 ≤ a0 by omega)
  obtain ⟨B, rfl⟩ := Int.eq_ofNat_of_zero_le (show 0 ≤ a1 by omega)
  have hA : A ≤ 2147483647 := by omega
  have hB : B ≤ 2147483647 := by omega
  clear hbad
  by_cases hz : B = 0
  · subst hz
    go_enter Try.func4, Try.ntmps4
    go_wp2_with fail
    refine (div_zero _ _ (by omega) (by omega)).mono ?_
    rintro e w1 ⟨rfl, u1⟩
    go_wp2_with fail
    refine (gcdN A 0 _ hA (by omega)).mono ?_
    rintro e w2 ⟨g, hgl, hg, rfl, u2⟩
    have HG := Lib.hid hg
    clear hg
    go_wp2_with fail
    refine (refPoly_ok [(A : Int), 0] _ 2 _ (by omega) rfl (row2 _ _ _ _) (all2 _ _ (by omega) (by omega) (by omega) (by omega))).mono ?_
    rintro e w' ⟨rfl, rfl⟩
    have u3 := Up.alloc w2 (.cells #[.int .i64 (A : Int), .int .i64 0] 3)
    generalize w2.alloc (.cells #[.int .i64 (A : Int), .int .i64 0] 3) = w3 at *
    go_wp2_with fail
    refine (refGcd_any 0 A 0 _ (by omega) hA (by omega)).mono ?_
    rintro e w4 ⟨g2, hg2, rfl, u4⟩
    rw [WoolMath.gcd_unique hg2 HG.out]
    clear hg2 g2
    go_wp2_with fail
    go_ret
    exact ⟨rfl, ((u1.trans u2).trans u3).trans u4⟩
  · have HZ := Lib.hid hz
    have hz' : ((B : Int) == 0) = false := by rw [beq_eq_false_iff_ne]; omega
    have hB0 : 0 < B := by omega
    have hr := pmod_le A B hz hB
    have hq := pdiv_le A B hz hA
    have hbA := WoolMath.blen_le A 31 (by omega)
    have hbB := WoolMath.blen_le B 31 (by omega)
    clear hz
    go_enter Try.func4, Try.ntmps4
    go_wp2_with fail
    refine (divN A B _ hA hB0 hB).mono ?_
    rintro e w1 ⟨rfl, u1⟩
    go_wp2_with fail
    refine (gcdN A B _ hA hB).mono ?_
    rintro e w2 ⟨g, hgl, hg, rfl, u2⟩
    have HG := Lib.hid hg
    clear hg
    go_wp2_with fail
    refine (refPoly_ok [(A : Int), (B : Int)] _ 2 _ (by omega) rfl (row2 _ _ _ _) (all2 _ _ (by omega) (by omega) (by omega) (by omega))).mono ?_
    rintro e w' ⟨rfl, rfl⟩
    have u3 := Up.alloc w2 (.cells #[.int .i64 (A : Int), .int .i64 (B : Int)] 3)
    generalize w2.alloc (.cells #[.int .i64 (A : Int), .int .i64 (B : Int)] 3) = w3 at *
    go_wp2_with fail
    refine (refGcd_any B A B _ (Nat.le_refl _) hA hB).mono ?_
    rintro e w4 ⟨g2, hg2, rfl, u4⟩
    rw [WoolMath.gcd_unique hg2 HG.out]
    clear hg2 g2
    have HU := Lib.hid (((u1.trans u2).trans u3).trans u4)
    clear u1 u2 u3 u4
    go_wp2_with fail
    refine (coef_any _ _ (by omega)).mono ?_
    rintro e w5 ⟨vx, rfl, hbx, u5⟩
    rw [Int.toNat_natCast] at hbx
    have HBX := Lib.hid hbx
    clear hbx
    go_wp2_with fail
    refine (coef_any _ _ (by omega)).mono ?_
    rintro e w6 ⟨vy, rfl, hby, u6⟩
    rw [Int.toNat_natCast] at hby
    have HBX2 := Lib.hid ((HBX.out.up u6).weak (Nat.zero_le _))
    have HBY := Lib.hid (hby.weak (Nat.zero_le _))
    clear hby HBX
    go_wp2_with fail
    refine (left_any _ _ A B _ _ (by omega) (WoolMath.lt_blen A) HZ.out (by omega) HBX2.out HBY.out).mono ?_
    rintro e w7 ⟨uq, ur, rfl, hbq, hbr, u7⟩
    have HBQ := Lib.hid hbq
    have HBR := Lib.hid hbr
    have HV := Lib.hid (((HU.out.trans u5).trans u6).trans u7)
    clear hbq hbr u5 u6 u7
    go_wp2_with fail
    refine (num_any _ _ _ _ _ ?_ (WoolMath.lt_blen _) HBQ.out).mono ?_
    · exact Nat.le_trans (WoolMath.blen_le _ 31 (by omega)) (by omega)
    rintro e w' ⟨rfl, rfl⟩
    go_wp2_with fail
    refine (num_any _ _ _ _ _ ?_ (WoolMath.lt_blen _) HBR.out).mono ?_
    · exact Nat.le_trans (WoolMath.blen_le _ 30 hr) (by omega)
    rintro e w' ⟨rfl, rfl⟩
    go_wp2_with fail
    go_ret
    exact ⟨rfl, HV.out⟩

/-! ytlplmiaebcgnmaa# PolyMods -/

set_option maxRecDepth 100000 in
set_option maxHeartbeats 1000000 in
theorem polyMods_1 (a b n m : Int) (w : World) (h : a < 0 ∨ 2147483647 < a ∨ m < 0 ∨ 2147483647 < m) :
    Calls Try.prog 5 #[.int .i64 a, .int .i64 b, .int .i64 n, .int .i64 m] w fun e w' => e = .returned (.bool true) ∧ Up w w' := by
  have H := Lib.hid h
  clear h
  go_enter Try.func5, Try.ntmps5
  go_wp2_with fail
  refine (modMul_bad _ _ _ _ (by have := H.out; omega)).mono ?_
  rintro e w1 ⟨rfl, u1⟩
  go_wp2_with fail
  refine (modPow_bad _ _ _ _ H.out).mono ?_
  rintro e w2 ⟨rfl, u2⟩
  go_wp2_with fail
  refine (refPoly_bad [a, b, m] _ 3 _ (by omega) rfl (row3 _ _ _ _ _) (bad3 a b m (by have := H.out; omega))).mono ?_
  rintro e w' ⟨rfl, rfl⟩
  have u3 := Up.alloc w2 (.cells #[.int .i64 a, .int .i64 b, .int .i64 m] 3)
  generalize w2.alloc (.cells #[.int .i64 a, .int .i64 b, .int .i64 m] 3) = w3 at *
  go_wp2_with fail
  refine (refPoly_bad [a, m] _ 2 _ (by omega) rfl (row2 _ _ _ _) (bad2 a m H.out)).mono ?_
  rintro e w' ⟨rfl, rfl⟩
  have u4 := Up.alloc w3 (.cells #[.int .i64 a, .int .i64 m] 3)
  generalize w3.alloc (.cells #[.int .i64 a, .int .i64 m] 3) = w4 at *
  have HU := Lib.hid (((u1.trans u2).trans u3).trans u4)
  clear u1 u2 u3 u4
  go_wp2_with fail
  go_ret
  exact ⟨rfl, HU.out⟩

set_option maxRecDepth 100000 in
set_option maxHeartbeats 1000000 in
theorem polyMods_2a (A M : Nat) (b n : Int) (w : World) (hA : A ≤ 2147483647) (h : b < 0 ∨ 2147483647 < b) (hM : M ≤ 2147483647) (hn : n < 0) :
    Calls Try.prog 5 #[.int .i64 (A : Int), .int .i64 b, .int .i64 n, .int .i64 (M : Int)] w fun e w' => e = .returned (.bool true) ∧ Up w w' := by
  have H := Lib.hid h
  clear h
  have dn : decide (n < 0) = true := by rw [decide_eq_true_iff]; omega
  go_enter Try.func5, Try.ntmps5
  go_wp2_with fail
  refine (modMul_bad _ _ _ _ (by have := H.out; omega)).mono ?_
  rintro e w1 ⟨rfl, u1⟩
  go_wp2_with fail
  refine (modPow_neg _ _ _ _ (by omega) (by omega) hn (by omega) (by omega)).mono ?_
  rintro e w2 ⟨rfl, u2⟩
  go_wp2_with fail
  refine (refPoly_bad [(A : Int), b, (M : Int)] _ 3 _ (by omega) rfl (row3 _ _ _ _ _) (bad3 _ _ _ (by have := H.out; omega))).mono ?_
  rintro e w' ⟨rfl, rfl⟩
  have u3 := Up.alloc w2 (.cells #[.int .i64 (A : Int), .int .i64 b, .int .i64 (M : Int)] 3)
  generalize w2.alloc (.cells #[.int .i64 (A : Int), .int .i64 b, .int .i64 (M : Int)] 3) = w3 at *
  go_wp2_with fail
  refine (refPoly_ok [(A : Int), (M : Int)] _ 2 _ (by omega) rfl (row2 _ _ _ _) (all2 _ _ (by omega) (by omega) (by omega) (by omega))).mono ?_
  rintro e w' ⟨rfl, rfl⟩
  have u4 := Up.alloc w3 (.cells #[.int .i64 (A : Int), .int .i64 (M : Int)] 3)
  generalize w3.alloc (.cells #[.int .i64 (A : Int), .int .i64 (M : Int)] 3) = w4 at *
  have HU := Lib.hid (((u1.trans u2).trans u3).trans u4)
  clear u1 u2 u3 u4
  go_wp2_with fail
  go_ret
  exact ⟨rfl, HU.out⟩

set_option maxRecDepth 100000 in
set_option maxHeartbeats 1000000 in
theorem polyMods_2b (A N : Nat) (b : Int) (w : World) (hA : A ≤ 2147483647) (h : b < 0 ∨ 2147483647 < b) :
    Calls Try.prog 5 #[.int .i64 (A : Int), .int .i64 b, .int .i64 (N : Int), .int .i64 0] w fun e w' => e = .returned (.bool true) ∧ Up w w' := by
  have H := Lib.hid h
  clear h
  have dn : decide ((N : Int) < 0) = false := by rw [decide_eq_false_iff_not]; omega
  go_enter Try.func5, Try.ntmps5
  go_wp2_with fail
  refine (modMul_bad _ _ _ _ (by have := H.out; omega)).mono ?_
  rintro e w1 ⟨rfl, u1⟩
  go_wp2_with fail
  refine (modPow_zero _ _ _ (by omega) (by omega) (by omega)).mono ?_
  rintro e w2 ⟨rfl, u2⟩
  go_wp2_with fail
  refine (refPoly_bad [(A : Int), b, 0] _ 3 _ (by omega) rfl (row3 _ _ _ _ _) (bad3 _ _ _ (by have := H.out; omega))).mono ?_
  rintro e w' ⟨rfl, rfl⟩
  have u3 := Up.alloc w2 (.cells #[.int .i64 (A : Int), .int .i64 b, .int .i64 0] 3)
  generalize w2.alloc (.cells #[.int .i64 (A : Int), .int .i64 b, .int .i64 0] 3) = w3 at *
  go_wp2_with fail
  refine (refPoly_ok [(A : Int), 0] _ 2 _ (by omega) rfl (row2 _ _ _ _) (all2 _ _ (by omega) (by omega) (by omega) (by omega))).mono ?_
  rintro e w' ⟨rfl, rfl⟩
  have u4 := Up.alloc w3 (.cells #[.int .i64 (A : Int), .int .i64 0] 3)
  generalize w3.alloc (.cells #[.int .i64 (A : Int), .int .i64 0] 3) = w4 at *
  have HU := Lib.hid (((u1.trans u2).trans u3).trans u4)
  clear u1 u2 u3 u4
  go_wp2_with fail
  go_ret
  exact ⟨rfl, HU.out⟩

set_option maxRecDepth 100000 in
set_option maxHeartbeats 1000000 in
theorem polyMods_2c (A N M : Nat) (b : Int) (w : World) (hA : A ≤ 2147483647) (h : b < 0 ∨ 2147483647 < b) (hM0 : 0 < M) (hM : M ≤ 2147483647) (hN : N < 9223372036854775808) :
    Calls Try.prog 5 #[.int .i64 (A : Int), .int .i64 b, .int .i64 (N : Int), .int .i64 (M : Int)] w fun e w' => e = .returned (.bool true) ∧ Up w w' := by
  have H := Lib.hid h
  clear h
  have dn : decide ((N : Int) < 0) = false := by rw [decide_eq_false_iff_not]; omega
  have dm : ((M : Int) == 0) = false := by rw [beq_eq_false_iff_ne]; omega
  go_enter Try.func5, Try.ntmps5
  go_wp2_with fail
  refine (modMul_bad _ _ _ _ (by have := H.out; omega)).mono ?_
  rintro e w1 ⟨rfl, u1⟩
  go_wp2_with fail
  refine (modPowN A N M _ hA hN hM0 hM).mono ?_
  rintro e w2 ⟨rfl, u2⟩
  go_wp2_with fail
  refine (refPoly_bad [(A : Int), b, (M : Int)] _ 3 _ (by omega) rfl (row3 _ _ _ _ _) (bad3 _ _ _ (by have := H.out; omega))).mono ?_
  rintro e w' ⟨rfl, rfl⟩
  have u3 := Up.alloc w2 (.cells #[.int .i64 (A : Int), .int .i64 b, .int .i64 (M : Int)] 3)
  generalize w2.alloc (.cells #[.int .i64 (A : Int), .int .i64 b, .int .i64 (M : Int)] 3) = w3 at *
  go_wp2_with fail
  refine (refPoly_ok [(A : Int), (M : Int)] _ 2 _ (by omega) rfl (row2 _ _ _ _) (all2 _ _ (by omega) (by omega) (by omega) (by omega))).mono ?_
  rintro e w' ⟨rfl, rfl⟩
  have u4 := Up.alloc w3 (.cells #[.int .i64 (A : Int), .int .i64 (M : Int)] 3)
  generalize w3.alloc (.cells #[.int .i64 (A : Int), .int .i64 (M : Int)] 3) = w4 at *
  have HU := Lib.hid (((u1.trans u2).trans u3).trans u4)
  clear u1 u2 u3 u4
  go_wp2_with fail
  refine (refModPow_any 63 A N M _ hN (by omega) hA (by omega) hM).mono ?_
  rintro e w5 ⟨rfl, u5⟩
  go_wp2_with fail
  go_ret
  exact ⟨rfl, HU.out.trans u5⟩

set_option maxRecDepth 100000 in
set_option maxHeartbeats 1000000 in
theorem polyMods_3a (A B : Nat) (n : Int) (w : World) (hA : A ≤ 2147483647) (hB : B ≤ 2147483647) (hn : n < 0) :
    Calls Try.prog 5 #[.int .i64 (A : Int), .int .i64 (B : Int), .int .i64 n, .int .i64 0] w fun e w' => e = .returned (.bool true) ∧ Up w w' := by
  have dn : decide (n < 0) = true := by rw [decide_eq_true_iff]; omega
  go_enter Try.func5, Try.ntmps5
  go_wp2_with fail
  refine (modMul_zero _ _ _ (by omega) (by omega) (by omega) (by omega)).mono ?_
  rintro e w1 ⟨rfl, u1⟩
  go_wp2_with fail
  refine (modPow_neg _ _ _ _ (by omega) (by omega) hn (by omega) (by omega)).mono ?_
  rintro e w2 ⟨rfl, u2⟩
  go_wp2_with fail
  refine (refPoly_ok [(A : Int), (B : Int), 0] _ 3 _ (by omega) rfl (row3 _ _ _ _ _) (all3 _ _ _ (by omega) (by omega) (by omega) (by omega) (by omega) (by omega))).mono ?_
  rintro e w' ⟨rfl, rfl⟩
  have u3 := Up.alloc w2 (.cells #[.int .i64 (A : Int), .int .i64 (B : Int), .int .i64 0] 3)
  generalize w2.alloc (.cells #[.int .i64 (A : Int), .int .i64 (B : Int), .int .i64 0] 3) = w3 at *
  go_wp2_with fail
  refine (refPoly_ok [(A : Int), 0] _ 2 _ (by omega) rfl (row2 _ _ _ _) (all2 _ _ (by omega) (by omega) (by omega) (by omega))).mono ?_
  rintro e w' ⟨rfl, rfl⟩
  have u4 := Up.alloc w3 (.cells #[.int .i64 (A : Int), .int .i64 0] 3)
  generalize w3.alloc (.cells #[.int .i64 (A : Int), .int .i64 0] 3) = w4 at *
  have HU := Lib.hid (((u1.trans u2).trans u3).trans u4)
  clear u1 u2 u3 u4
  go_wp2_with fail
  go_ret
  exact ⟨rfl, HU.out⟩

set_option maxRecDepth 100000 in
set_option maxHeartbeats 1000000 in
theorem polyMods_3b (A B N : Nat) (w : World) (hA : A ≤ 2147483647) (hB : B ≤ 2147483647) :
    Calls Try.prog 5 #[.int .i64 (A : Int), .int .i64 (B : Int), .int .i64 (N : Int), .int .i64 0] w fun e w' => e = .returned (.bool true) ∧ Up w w' := by
  have dn : decide ((N : Int) < 0) = false := by rw [decide_eq_false_iff_not]; omega
  go_enter Try.func5, Try.ntmps5
  go_wp2_with fail
  refine (modMul_zero _ _ _ (by omega) (by omega) (by omega) (by omega)).mono ?_
  rintro e w1 ⟨rfl, u1⟩
  go_wp2_with fail
  refine (modPow_zero _ _ _ (by omega) (by omega) (by omega)).mono ?_
  rintro e w2 ⟨rfl, u2⟩
  go_wp2_with fail
  refine (refPoly_ok [(A : Int), (B : Int), 0] _ 3 _ (by omega) rfl (row3 _ _ _ _ _) (all3 _ _ _ (by omega) (by omega) (by omega) (by omega) (by omega) (by omega))).mono ?_
  rintro e w' ⟨rfl, rfl⟩
  have u3 := Up.alloc w2 (.cells #[.int .i64 (A : Int), .int .i64 (B : Int), .int .i64 0] 3)
  generalize w2.alloc (.cells #[.int .i64 (A : Int), .int .i64 (B : Int), .int .i64 0] 3) = w3 at *
  go_wp2_with fail
  refine (refPoly_ok [(A : Int), 0] _ 2 _ (by omega) rfl (row2 _ _ _ _) (all2 _ _ (by omega) (by omega) (by omega) (by omega))).mono ?_
  rintro e w' ⟨rfl, rfl⟩
  have u4 := Up.alloc w3 (.cells #[.int .i64 (A : Int), .int .i64 0] 3)
  generalize w3.alloc (.cells #[.int .i64 (A : Int), .int .i64 0] 3) = w4 at *
  have HU := Lib.hid (((u1.trans u2).trans u3).trans u4)
  clear u1 u2 u3 u4
  go_wp2_with fail
  go_ret
  exact ⟨rfl, HU.out⟩

set_option maxRecDepth 100000 in
set_option maxHeartbeats 1000000 in
theorem polyMods_3c (A B M : Nat) (n : Int) (w : World) (hA : A ≤ 2147483647) (hB : B ≤ 2147483647) (hM0 : 0 < M) (hM : M ≤ 2147483647) (hn : n < 0) :
    Calls Try.prog 5 #[.int .i64 (A : Int), .int .i64 (B : Int), .int .i64 n, .int .i64 (M : Int)] w fun e w' => e = .returned (.bool true) ∧ Up w w' := by
  have dn : decide (n < 0) = true := by rw [decide_eq_true_iff]; omega
  have dm : ((M : Int) == 0) = false := by rw [beq_eq_false_iff_ne]; omega
  go_enter Try.func5, Try.ntmps5
  go_wp2_with fail
  refine (modMulN A B M _ hA hB hM0 hM).mono ?_
  rintro e w1 ⟨rfl, u1⟩
  go_wp2_with fail
  refine (modPow_neg _ _ _ _ (by omega) (by omega) hn (by omega) (by omega)).mono ?_
  rintro e w2 ⟨rfl, u2⟩
  go_wp2_with fail
  refine (refPoly_ok [(A : Int), (B : Int), (M : Int)] _ 3 _ (by omega) rfl (row3 _ _ _ _ _) (all3 _ _ _ (by omega) (by omega) (by omega) (by omega) (by omega) (by omega))).mono ?_
  rintro e w' ⟨rfl, rfl⟩
  have u3 := Up.alloc w2 (.cells #[.int .i64 (A : Int), .int .i64 (B : Int), .int .i64 (M : Int)] 3)
  generalize w2.alloc (.cells #[.int .i64 (A : Int), .int .i64 (B : Int), .int .i64 (M : Int)] 3) = w3 at *
  go_wp2_with fail
  refine (refPoly_ok [(A : Int), (M : Int)] _ 2 _ (by omega) rfl (row2 _ _ _ _) (all2 _ _ (by omega) (by omega) (by omega) (by omega))).mono ?_
  rintro e w' ⟨rfl, rfl⟩
  have u4 := Up.alloc w3 (.cells #[.int .i64 (A : Int), .int .i64 (M : Int)] 3)
  generalize w3.alloc (.cells #[.int .i64 (A : Int), .int .i64 (M : Int)] 3) = w4 at *
  have HU := Lib.hid (((u1.trans u2).trans u3).trans u4)
  clear u1 u2 u3 u4
  go_wp2_with fail
  refine (refModMul_any A B M _ hA hB (by omega) hM).mono ?_
  rintro e w5 ⟨rfl, u5⟩
  go_wp2_with fail
  go_ret
  exact ⟨rfl, HU.out.trans u5⟩

set_option maxRecDepth 100000 in
set_option maxHeartbeats 1000000 in
theorem polyMods_3d (A B N M : Nat) (w : World) (hA : A ≤ 2147483647) (hB : B ≤ 2147483647) (hM0 : 0 < M) (hM : M ≤ 2147483647) (hN : N < 9223372036854775808) :
    Calls Try.prog 5 #[.int .i64 (A : Int), .int .i64 (B : Int), .int .i64 (N : Int), .int .i64 (M : Int)] w fun e w' => e = .returned (.bool true) ∧ Up w w' := by
  have dn : decide ((N : Int) < 0) = false := by rw [decide_eq_false_iff_not]; omega
  have dm : ((M : Int) == 0) = false := by rw [beq_eq_false_iff_ne]; omega
  go_enter Try.func5, Try.ntmps5
  go_wp2_with fail
  refine (modMulN A B M _ hA hB hM0 hM).mono ?_
  rintro e w1 ⟨rfl, u1⟩
  go_wp2_with fail
  refine (modPowN A N M _ hA hN hM0 hM).mono ?_
  rintro e w2 ⟨rfl, u2⟩
  go_wp2_with fail
  refine (refPoly_ok [(A : Int), (B : Int), (M : Int)] _ 3 _ (by omega) rfl (row3 _ _ _ _ _) (all3 _ _ _ (by omega) (by omega) (by omega) (by omega) (by omega) (by omega))).mono ?_
  rintro e w' ⟨rfl, rfl⟩
  have u3 := Up.alloc w2 (.cells #[.int .i64 (A : Int), .int .i64 (B : Int), .int .i64 (M : Int)] 3)
  generalize w2.alloc (.cells #[.int .i64 (A : Int), .int .i64 (B : Int), .int .i64 (M : Int)] 3) = w3 at *
  go_wp2_with fail
  refine (refPoly_ok [(A : Int), (M : Int)] _ 2 _ (by omega) rfl (row2 _ _ _ _) (all2 _ _ (by omega) (by omega) (by omega) (by omega))).mono ?_
  rintro e w' ⟨rfl, rfl⟩
  have u4 := Up.alloc w3 (.cells #[.int .i64 (A : Int), .int .i64 (M : Int)] 3)
  generalize w3.alloc (.cells #[.int .i64 (A : Int), .int .i64 (M : Int)] 3) = w4 at *
  have HU := Lib.hid (((u1.trans u2).trans u3).trans u4)
  clear u1 u2 u3 u4
  go_wp2_with fail
  refine (refModMul_any A B M _ hA hB (by omega) hM).mono ?_
  rintro e w5 ⟨rfl, u5⟩
  go_wp2_with fail
  refine (refModPow_any 63 A N M _ hN (by omega) hA (by omega) hM).mono ?_
  rintro e w6 ⟨rfl, u6⟩
  go_wp2_with fail
  go_ret
  exact ⟨rfl, (HU.out.trans u5).trans u6⟩

theorem polyMods_walk (a0 a1 a2 a3 : Int) (w : World) (_w0 : (Lit.int .i64 a0).wf = true) (_w1 : (Lit.int .i64 a1).wf = true) (w2 : (Lit.int .i64 a2).wf = true) (_w3 : (Lit.int .i64 a3).wf = true) :
    Calls Try.prog 5 #[.int .i64 a0, .int .i64 a1, .int .i64 a2, .int .i64 a3] w fun e w' => e = .returned (.bool true) ∧ Up w w' := by
  have b2 := bounds_i64 w2
  by_cases h1 : a0 < 0 ∨ 2147483647 < a0 ∨ a3 < 0 ∨ 2147483647 < a3
  · exact polyMods_1 a0 a1 a2 a3 w h1
  obtain ⟨A, rfl⟩ := Int.eq_ofNat_of_zero_le (show 0 ≤ a0 by omega)
  obtain ⟨M, rfl⟩ := Int.eq_ofNat_of_zero_le (show 0 ≤ a3 by omega)
  have hA : A ≤ 2147483647 := by omega
  have hM : M ≤ 2147483647 := by omega
  by_cases h2 : a1 < 0 ∨ 2147483647 < a1
  · by_cases hn : a2 < 0
    · exact polyMods_2a A M a1 a2 w hA h2 hM hn
    · obtain ⟨N, rfl⟩ := Int.eq_ofNat_of_zero_le (show 0 ≤ a2 by omega)
      by_cases hz : M = 0
      · subst hz; exact polyMods_2b A N a1 w hA h2
      · exact polyMods_2c A N M a1 w hA h2 (by omega) hM (by omega)
  · obtain ⟨B, rfl⟩ := Int.eq_ofNat_of_zero_le (show 0 ≤ a1 by omega)
    have hB : B ≤ 2147483647 := by omega
    by_cases hn : a2 < 0
    · by_cases hz : M = 0
      · subst hz; exact polyMods_3a A B a2 w hA hB hn
      · exact polyMods_3c A B M a2 w hA hB (by omega) hM hn
    · obtain ⟨N, rfl⟩ := Int.eq_ofNat_of_zero_le (show 0 ≤ a2 by omega)
      by_cases hz : M = 0
      · subst hz; exact polyMods_3b A B N w hA hB
      · exact polyMods_3d A B N M w hA hB (by omega) hM (by omega)

end Go.Proofs.Ytlplmiaebcgnmaa
