/-
  The laws PrimeNext, PrimeProduct and PrimeRoots, walked: for every input the Go text returns true; nothing that was there turns. No condition.
-/
import Derived.Test.YtlplmiaebcgnmabPrime
namespace Go.Proofs.Ytlplmiaebcgnmab
open Go.RowKit
open Go.Proofs

theorem mPrime2 : WoolMath.Prime 2 := WoolMath.prime_of 2 (by decide +kernel)
theorem mPrime3 : WoolMath.Prime 3 := WoolMath.prime_of 3 (by decide +kernel)
theorem mNot1 : ¬ WoolMath.Prime 1 := fun h => absurd ((WoolMath.isP_iff 1).2 h) (by decide +kernel)
theorem mPrime24 : WoolMath.Prime 16777243 := WoolMath.prime_of 16777243 (by decide +kernel)
theorem mPrime13 : WoolMath.Prime 8219 := WoolMath.prime_of 8219 (by decide +kernel)

theorem mNext4 : WoolMath.IsNext 7 4 := by
  refine ⟨WoolMath.prime_of 7 (by decide +kernel), by omega, fun q h1 h2 hp => ?_⟩
  have : q = 4 ∨ q = 5 ∨ q = 6 := by omega
  have hb := (WoolMath.isP_iff q).2 hp
  rcases this with rfl | rfl | rfl <;> exact absurd hb (by decide +kernel)

set_option maxRecDepth 100000 in
set_option maxHeartbeats 1000000 in
theorem primeNext_walk (a0 a1 : Int) (w : World) (_w0 : (Lit.int .i64 a0).wf = true) (_w1 : (Lit.int .i64 a1).wf = true) :
    Calls Try.prog 4 #[.int .i64 a0, .int .i64 a1] w fun e w' => e = .returned (.bool true) ∧ Up w w' := by
  go_enter Try.func4, Try.ntmps4
  go_wp2_with fail
  refine (next_ok 4 7 _ mNext4 (by omega)).mono ?_
  rintro e w1 ⟨rfl, u1⟩
  go_wp2_with fail
  refine (less_any _ 24 _ (by omega)).mono ?_
  rintro e w' ⟨rfl, rfl⟩
  have hM : within a0 (2 ^ 24) < 16777216 := within_lt a0 (2 ^ 24) (by omega)
  generalize within a0 (2 ^ 24) = M at *
  obtain ⟨P, hP, hPl⟩ := WoolMath.next_exists mPrime24 (show M ≤ 16777243 by omega)
  have hPM := hP.2.1
  have HP := Lib.hid hP
  clear hP
  have d1 : decide ((P : Int) < (M : Int)) = false := by rw [decide_eq_false_iff_not]; omega
  have d2 : decide (P < M) = false := by rw [decide_eq_false_iff_not]; omega
  go_wp2_with fail
  refine (next_ok M P _ HP.out (by omega)).mono ?_
  rintro e w2 ⟨rfl, u2⟩
  go_wp2_with fail
  refine (is_yes P _ (by omega) HP.out.1).mono ?_
  rintro e w3 ⟨rfl, u3⟩
  have HU := Lib.hid ((u1.trans u2).trans u3)
  clear u1 u2 u3
  go_wp2_with fail
  rw [show (P : Int) - (M : Int) + 1 = ((P - M + 1 : Nat) : Int) by omega]
  refine (within_any _ _ _ (by omega) (by omega)).mono ?_
  rintro e w' ⟨rfl, rfl⟩
  rw [Int.toNat_natCast]
  have hX := within_lt a1 (P - M + 1) (by omega)
  generalize hW : within a1 (P - M + 1) = X at *
  have HW := Lib.hid hW
  clear hW
  go_wp2_with fail
  rw [show (M : Int) + (X : Int) = ((M + X : Nat) : Int) by omega]
  by_cases he : M + X = P
  · have t1 : (((M + X : Nat) : Int) == (P : Int)) = true := by rw [beq_iff_eq, he]
    have t2 : ((M : Int) + (X : Int) == (P : Int)) = true := by rw [beq_iff_eq]; omega
    have hpx : WoolMath.Prime (M + X) := by rw [he]; exact HP.out.1
    have HPX := Lib.hid hpx
    clear he hpx
    refine (is_yes (M + X) _ (by omega) HPX.out).mono ?_
    rintro e w4 ⟨rfl, u4⟩
    go_wp2_with fail
    try rw [show (P : Int) - (M : Int) + 1 = ((P - M + 1 : Nat) : Int) by omega]
    refine (within_any _ _ _ (by omega) (by omega)).mono ?_
    rintro e w' ⟨rfl, rfl⟩
    rw [Int.toNat_natCast, HW.out]
    go_wp2_with fail
    go_ret
    exact ⟨rfl, HU.out.trans u4⟩
  · have hpx : ¬ WoolMath.Prime (M + X) := HP.out.2.2 (M + X) (by omega) (by omega)
    have HPX := Lib.hid hpx
    clear he hpx
    refine (is_no (M + X) _ (by omega) HPX.out).mono ?_
    rintro e w4 ⟨rfl, u4⟩
    go_wp2_with fail
    go_ret
    exact ⟨rfl, HU.out.trans u4⟩

theorem not_prime_mul (a b : Nat) (ha : 2 ≤ a) (hb : 2 ≤ b) : ¬ WoolMath.Prime (WoolMath.mul a b) := by
  intro hp
  have hl := (WoolMath.mul_log2 a b (by omega) (by omega)).2
  have hbl : 1 ≤ b.log2 := (Nat.le_log2 (by omega)).2 (by omega)
  rcases hp.2 a (WoolMath.dvd_mul_self a b) with h | h
  · omega
  · rw [← h] at hl; omega

set_option maxRecDepth 100000 in
set_option maxHeartbeats 1000000 in
theorem primeProduct_walk (a0 a1 : Int) (w : World) (_w0 : (Lit.int .i64 a0).wf = true) (_w1 : (Lit.int .i64 a1).wf = true) :
    Calls Try.prog 6 #[.int .i64 a0, .int .i64 a1] w fun e w' => e = .returned (.bool true) ∧ Up w w' := by
  go_enter Try.func6, Try.ntmps6
  go_wp2_with fail
  refine (is_yes 2 _ (by omega) mPrime2).mono ?_
  rintro e w1 ⟨rfl, u1⟩
  go_wp2_with fail
  refine (is_yes 3 _ (by omega) mPrime3).mono ?_
  rintro e w2 ⟨rfl, u2⟩
  go_wp2_with fail
  refine (is_no 1 _ (by omega) mNot1).mono ?_
  rintro e w3 ⟨rfl, u3⟩
  go_wp2_with fail
  refine (less_any _ 13 _ (by omega)).mono ?_
  rintro e w' ⟨rfl, rfl⟩
  have hA : within a0 (2 ^ 13) < 8192 := within_lt a0 (2 ^ 13) (by omega)
  generalize within a0 (2 ^ 13) = A0 at *
  go_wp2_with fail
  refine (less_any _ 13 _ (by omega)).mono ?_
  rintro e w' ⟨rfl, rfl⟩
  have hB : within a1 (2 ^ 13) < 8192 := within_lt a1 (2 ^ 13) (by omega)
  generalize within a1 (2 ^ 13) = B0 at *
  go_wp2_with fail
  rw [show (2 : Int) + (A0 : Int) = ((2 + A0 : Nat) : Int) by omega, show (2 : Int) + (B0 : Int) = ((2 + B0 : Nat) : Int) by omega]
  have hA2 : 2 ≤ 2 + A0 := by omega
  have hB2 : 2 ≤ 2 + B0 := by omega
  have hA3 : 2 + A0 < 16384 := by omega
  have hB3 : 2 + B0 < 16384 := by omega
  clear hA hB
  generalize 2 + A0 = A at *
  generalize 2 + B0 = B at *
  have hm : WoolMath.mul A B < 2 ^ 27 := WoolMath.mul_lt A B 14 13 (by omega) (by omega)
  have hnp := not_prime_mul A B hA2 hB2
  have HNP := Lib.hid hnp
  clear hnp
  refine (mulN A B _ (by omega) (by omega) (by omega)).mono ?_
  rintro e w4 ⟨rfl, u4⟩
  go_wp2_with fail
  refine (is_no _ _ (by omega) HNP.out).mono ?_
  rintro e w5 ⟨rfl, u5⟩
  go_wp2_with fail
  go_ret
  exact ⟨rfl, (((u1.trans u2).trans u3).trans u4).trans u5⟩

set_option maxRecDepth 100000 in
set_option maxHeartbeats 1000000 in
theorem primeRoots_walk (a0 a1 a2 : Int) (w : World) (_w0 : (Lit.int .i64 a0).wf = true) (_w1 : (Lit.int .i64 a1).wf = true) (_w2 : (Lit.int .i64 a2).wf = true) :
    Calls Try.prog 7 #[.int .i64 a0, .int .i64 a1, .int .i64 a2] w fun e w' => e = .returned (.bool true) ∧ Up w w' := by
  go_enter Try.func7, Try.ntmps7
  go_wp2_with fail
  refine (modPowN 3 2 7 _ (by omega) (by omega) (by omega) (by omega)).mono ?_
  rintro e w1 ⟨rfl, u1⟩
  rw [show WoolMath.pmod (WoolMath.pw 3 2) 7 = 2 from by decide]
  go_wp2_with fail
  refine (less_any _ 12 _ (by omega)).mono ?_
  rintro e w' ⟨rfl, rfl⟩
  have hM : within a0 (2 ^ 12) < 4096 := within_lt a0 (2 ^ 12) (by omega)
  generalize within a0 (2 ^ 12) = M0 at *
  go_wp2_with fail
  rw [show (2 : Int) + (M0 : Int) = ((2 + M0 : Nat) : Int) by omega]
  obtain ⟨P, hP, hPl⟩ := WoolMath.next_exists mPrime13 (show 2 + M0 ≤ 8219 by omega)
  refine (next_ok _ P _ hP (by omega)).mono ?_
  rintro e w2 ⟨rfl, u2⟩
  have hp := hP.1
  have hP0 : 0 < P := by have := hp.1; omega
  have HP := Lib.hid hp
  clear hp hP hM
  go_wp2_with fail
  refine (less_any _ 20 _ (by omega)).mono ?_
  rintro e w' ⟨rfl, rfl⟩
  have hA : within a1 (2 ^ 20) < 1048576 := within_lt a1 (2 ^ 20) (by omega)
  generalize within a1 (2 ^ 20) = A at *
  go_wp2_with fail
  refine (less_any _ 20 _ (by omega)).mono ?_
  rintro e w' ⟨rfl, rfl⟩
  have hB : within a2 (2 ^ 20) < 1048576 := within_lt a2 (2 ^ 20) (by omega)
  generalize within a2 (2 ^ 20) = B at *
  have hroots := WoolMath.roots P A B HP.out
  have HR := Lib.hid hroots
  clear hroots
  go_wp2_with fail
  refine (modMulN A 1 P _ (by omega) (by omega) hP0 (by omega)).mono ?_
  rintro e w3 ⟨rfl, u3⟩
  rw [WoolMath.mul_one]
  go_wp2_with fail
  refine (modMulN B 1 P _ (by omega) (by omega) hP0 (by omega)).mono ?_
  rintro e w4 ⟨rfl, u4⟩
  rw [WoolMath.mul_one]
  go_wp2_with fail
  refine (modPowN A 2 P _ (by omega) (by omega) hP0 (by omega)).mono ?_
  rintro e w5 ⟨rfl, u5⟩
  go_wp2_with fail
  refine (modPowN B 2 P _ (by omega) (by omega) hP0 (by omega)).mono ?_
  rintro e w6 ⟨rfl, u6⟩
  have HU := Lib.hid (((((u1.trans u2).trans u3).trans u4).trans u5).trans u6)
  clear u1 u2 u3 u4 u5 u6
  generalize WoolMath.pmod A P = X at *
  generalize WoolMath.pmod B P = Y at *
  generalize WoolMath.pmod (WoolMath.pw A 2) P = S at *
  generalize WoolMath.pmod (WoolMath.pw B 2) P = T at *
  by_cases hxy : X = Y
  · have hst := HR.out.2 hxy
    have t1 : ((X : Int) == (Y : Int)) = true := by rw [beq_iff_eq, hxy]
    have t2 : ((S : Int) == (T : Int)) = true := by rw [beq_iff_eq, hst]
    clear hxy hst
    go_wp2_with fail
    go_ret
    exact ⟨rfl, HU.out⟩
  · have hst : S ≠ T := fun h => hxy (HR.out.1 h)
    have t1 : ((X : Int) == (Y : Int)) = false := by rw [beq_eq_false_iff_ne]; omega
    have t2 : ((S : Int) == (T : Int)) = false := by rw [beq_eq_false_iff_ne]; omega
    clear hxy hst
    go_wp2_with fail
    go_ret
    exact ⟨rfl, HU.out⟩

end Go.Proofs.Ytlplmiaebcgnmab
