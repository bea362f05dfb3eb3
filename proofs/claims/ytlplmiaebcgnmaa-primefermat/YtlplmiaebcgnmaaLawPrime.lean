/-
  The laws PrimeEuclid and PrimeFermat, walked: for every input the Go text returns true; nothing that was there turns. No condition.
-/
import Derived.Test.YtlplmiaebcgnmaaPrime
namespace Go.Proofs.Ytlplmiaebcgnmaa
open Go.RowKit
open Go.Proofs

theorem prime7 : WoolMath.Prime 7 := WoolMath.prime_of 7 (by decide +kernel)
theorem not_prime5 : ¬ WoolMath.Prime 5 := fun h => absurd ((WoolMath.isP_iff 5).2 h) (by decide +kernel)
theorem prime283 : WoolMath.Prime 283 := WoolMath.prime_of 283 (by decide +kernel)
theorem prime21 : WoolMath.Prime 2097157 := WoolMath.prime_of 2097157 (by decide +kernel)

/-- there is a next one, not beyond a known one -/
theorem next_upto (m q : Nat) (hq : WoolMath.Prime q) (h : m ≤ q) : ∃ p, WoolMath.IsNext p m ∧ p ≤ q := WoolMath.next_exists hq h

set_option maxRecDepth 100000 in
set_option maxHeartbeats 2000000 in
theorem primeEuclid_walk (a0 a1 a2 : Int) (w : World) (_w0 : (Lit.int .i64 a0).wf = true) (_w1 : (Lit.int .i64 a1).wf = true) (_w2 : (Lit.int .i64 a2).wf = true) :
    Calls Try.prog 16 #[.int .i64 a0, .int .i64 a1, .int .i64 a2] w fun e w' => e = .returned (.bool true) ∧ Up w w' := by
  go_enter Try.func16, Try.ntmps16
  go_wp2_with fail
  refine (is_yes 7 _ (by omega) prime7).mono ?_
  rintro e w1 ⟨rfl, u1⟩
  go_wp2_with fail
  refine (is_no 5 _ (by omega) not_prime5).mono ?_
  rintro e w2 ⟨rfl, u2⟩
  go_wp2_with fail
  refine (less_any _ 8 _ (by omega)).mono ?_
  rintro e w' ⟨rfl, rfl⟩
  have hM : within a0 (2 ^ 8) < 256 := within_lt a0 (2 ^ 8) (by omega)
  generalize within a0 (2 ^ 8) = M0 at *
  go_wp2_with fail
  rw [show (2 : Int) + (M0 : Int) = ((2 + M0 : Nat) : Int) by omega]
  obtain ⟨P, hP, hPl⟩ := next_upto (2 + M0) 283 prime283 (by omega)
  refine (next_ok _ P _ hP (by omega)).mono ?_
  rintro e w3 ⟨rfl, u3⟩
  have hp := hP.1
  have hP0 : 0 < P := by have := hp.1; omega
  have HP := Lib.hid hp
  clear hp hP hM
  go_wp2_with fail
  refine (less_any _ 15 _ (by omega)).mono ?_
  rintro e w' ⟨rfl, rfl⟩
  have hA : within a1 (2 ^ 15) < 32768 := within_lt a1 (2 ^ 15) (by omega)
  generalize within a1 (2 ^ 15) = A at *
  go_wp2_with fail
  refine (less_any _ 15 _ (by omega)).mono ?_
  rintro e w' ⟨rfl, rfl⟩
  have hB : within a2 (2 ^ 15) < 32768 := within_lt a2 (2 ^ 15) (by omega)
  generalize within a2 (2 ^ 15) = B at *
  go_wp2_with fail
  refine (modMulN A B P _ (by omega) (by omega) hP0 (by omega)).mono ?_
  rintro e w4 ⟨rfl, u4⟩
  go_wp2_with fail
  refine (modMulN A 1 P _ (by omega) (by omega) hP0 (by omega)).mono ?_
  rintro e w5 ⟨rfl, u5⟩
  rw [WoolMath.mul_one]
  go_wp2_with fail
  refine (modMulN B 1 P _ (by omega) (by omega) hP0 (by omega)).mono ?_
  rintro e w6 ⟨rfl, u6⟩
  rw [WoolMath.mul_one]
  have HU := Lib.hid (((((u1.trans u2).trans u3).trans u4).trans u5).trans u6)
  clear u1 u2 u3 u4 u5 u6
  have key : WoolMath.pmod (WoolMath.mul A B) P = 0 ↔ WoolMath.pmod A P = 0 ∨ WoolMath.pmod B P = 0 := by
    rw [← WoolMath.dvd_iff _ _ (by omega), ← WoolMath.dvd_iff _ _ (by omega), ← WoolMath.dvd_iff _ _ (by omega)]
    constructor
    · exact WoolMath.prime_dvd_mul HP.out
    · rintro (h | h)
      · exact WoolMath.dvd_mul_right _ h
      · exact WoolMath.dvd_mul_left _ h
  generalize WoolMath.pmod (WoolMath.mul A B) P = X at *
  generalize WoolMath.pmod A P = Y at *
  generalize WoolMath.pmod B P = Z at *
  have KEY := Lib.hid key
  clear key
  by_cases hy : Y = 0
  · have z1 : ((Y : Int) == 0) = true := by rw [beq_iff_eq]; omega
    have z2 : ((X : Int) == 0) = true := by rw [beq_iff_eq]; have := KEY.out.2 (.inl hy); omega
    clear hy
    go_wp2_with fail
    go_ret
    exact ⟨rfl, HU.out⟩
  · have z1 : ((Y : Int) == 0) = false := by rw [beq_eq_false_iff_ne]; omega
    by_cases hz : Z = 0
    · have z3 : ((Z : Int) == 0) = true := by rw [beq_iff_eq]; omega
      have z2 : ((X : Int) == 0) = true := by rw [beq_iff_eq]; have := KEY.out.2 (.inr hz); omega
      clear hy hz
      go_wp2_with fail
      go_ret
      exact ⟨rfl, HU.out⟩
    · have z3 : ((Z : Int) == 0) = false := by rw [beq_eq_false_iff_ne]; omega
      have z2 : ((X : Int) == 0) = false := by
        rw [beq_eq_false_iff_ne]
        intro h
        rcases KEY.out.1 (by omega) with h | h
        · exact hy h
        · exact hz h
      clear hy hz
      go_wp2_with fail
      go_ret
      exact ⟨rfl, HU.out⟩

set_option maxRecDepth 100000 in
set_option maxHeartbeats 2000000 in
theorem primeFermat_walk (a0 a1 : Int) (w : World) (_w0 : (Lit.int .i64 a0).wf = true) (_w1 : (Lit.int .i64 a1).wf = true) :
    Calls Try.prog 17 #[.int .i64 a0, .int .i64 a1] w fun e w' => e = .returned (.bool true) ∧ Up w w' := by
  go_enter Try.func17, Try.ntmps17
  go_wp2_with fail
  refine (modPowN 2 8 11 _ (by omega) (by omega) (by omega) (by omega)).mono ?_
  rintro e w1 ⟨rfl, u1⟩
  rw [show WoolMath.pmod (WoolMath.pw 2 8) 11 = 2 from by decide +kernel]
  go_wp2_with fail
  refine (less_any _ 20 _ (by omega)).mono ?_
  rintro e w' ⟨rfl, rfl⟩
  have hM : within a0 (2 ^ 20) < 1048576 := within_lt a0 (2 ^ 20) (by omega)
  generalize within a0 (2 ^ 20) = M0 at *
  go_wp2_with fail
  rw [show (2 : Int) + (M0 : Int) = ((2 + M0 : Nat) : Int) by omega]
  obtain ⟨P, hP, hPl⟩ := next_upto (2 + M0) 2097157 prime21 (by omega)
  refine (next_ok _ P _ hP (by omega)).mono ?_
  rintro e w2 ⟨rfl, u2⟩
  have hp := hP.1
  have hP0 : 0 < P := by have := hp.1; omega
  have HP := Lib.hid hp
  clear hp hP hM
  go_wp2_with fail
  refine (within_any _ _ _ (by omega) (by omega)).mono ?_
  rintro e w' ⟨rfl, rfl⟩
  have hA : within a1 (2147483647 : Int).toNat < 2147483647 := within_lt a1 2147483647 (by omega)
  generalize within a1 (2147483647 : Int).toNat = A at *
  go_wp2_with fail
  refine (degN P _ (by omega)).mono ?_
  rintro e w' ⟨rfl, rfl⟩
  rw [WoolMath.blen_pos P (by omega), show ((P.log2 + 1 : Nat) : Int) - 1 = (P.log2 : Int) by omega]
  have hl : P.log2 ≤ 21 := by
    have := (Nat.log2_lt (show P ≠ 0 by omega)).2 (show P < 2 ^ 22 by omega)
    omega
  have hpw : wrap64 (2 ^ P.log2) = ((2 ^ P.log2 : Nat) : Int) := by
    have hp : 2 ^ P.log2 ≤ 2 ^ 21 := Nat.pow_le_pow_right (by omega) hl
    rw [pow_cast]
    generalize 2 ^ P.log2 = z at *
    unfold wrap64
    omega
  have f1 := WoolMath.fermat_all P A HP.out
  have f2 := WoolMath.fermat P A HP.out
  have f3 := WoolMath.fermat_zero P A (2 ^ P.log2 - 1) HP.out
  have hle : 2 ^ P.log2 ≤ 2 ^ 21 := Nat.pow_le_pow_right (by omega) hl
  have hge : 2 ≤ 2 ^ P.log2 := by
    have : 1 ≤ P.log2 := (Nat.le_log2 (by omega)).2 HP.out.1
    exact Nat.pow_le_pow_right (n := 2) (i := 1) (by omega) this
  generalize 2 ^ P.log2 = N at *
  have F1 := Lib.hid f1
  have F2 := Lib.hid f2
  have F3 := Lib.hid f3
  have hN2 : N ≤ 2097152 := hle
  clear f1 f2 f3 hle
  go_wp2_with fail
  refine (modMulN A 1 P _ (by omega) (by omega) hP0 (by omega)).mono ?_
  rintro e w3 ⟨rfl, u3⟩
  rw [WoolMath.mul_one]
  go_wp2_with fail
  try rw [hpw]
  refine (modPowN A N P _ (by omega) (by omega) hP0 (by omega)).mono ?_
  rintro e w4 ⟨rfl, u4⟩
  rw [F1.out]
  go_wp2_with fail
  rw [show (N : Int) - 1 = ((N - 1 : Nat) : Int) by omega]
  refine (modPowN A (N - 1) P _ (by omega) (by omega) hP0 (by omega)).mono ?_
  rintro e w5 ⟨rfl, u5⟩
  have HU := Lib.hid ((((u1.trans u2).trans u3).trans u4).trans u5)
  clear u1 u2 u3 u4 u5
  have hlr := pmod_le A P (by omega) (by omega)
  by_cases hr : WoolMath.pmod A P = 0
  · rw [F3.out hr (by omega), hr]
    clear hr
    go_wp2_with fail
    go_ret
    exact ⟨rfl, HU.out⟩
  · rw [F2.out hr]
    have z1 : ((WoolMath.pmod A P : Int) == 0) = false := by rw [beq_eq_false_iff_ne]; omega
    have z2 : ((WoolMath.pmod A P : Int) != 0) = true := by rw [bne_iff_ne]; omega
    clear hr
    generalize WoolMath.pmod A P = R at *
    go_wp2_with fail
    go_ret
    exact ⟨rfl, HU.out⟩

end Go.Proofs.Ytlplmiaebcgnmaa
