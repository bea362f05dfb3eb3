/-
  What the reference's Gcd, ModMul and ModPow return; the laws PolyDivides and PolyMods, walked: for every input the Go text returns true; nothing that was there turns. No condition.
-/
import Derived.Test.YtidofplebkbbmaaRef4
import Derived.OpenShut
namespace Go.Proofs.Ytidofplebkbbmaa
open Go.RowKit
open Go.Proofs

def RefGcdPost (a b : Nat) (w : World) (e : Ending) (w' : World) : Prop :=
  ∃ g : Nat, WoolMath.IsGcd g a b ∧ e = .returned (.int .i64 (g : Int)) ∧ Up w w'

set_option maxRecDepth 100000 in
set_option maxHeartbeats 400000 in
theorem refModMul_any (A B M : Nat) (w : World) (hA : A ≤ 2147483647) (hB : B ≤ 2147483647) (hM0 : M ≠ 0) (hM : M ≤ 2147483647) :
    Calls Try.prog 27 #[.int .i64 (A : Int), .int .i64 (B : Int), .int .i64 (M : Int)] w fun e w' => e = .returned (.int .i64 (WoolMath.pmod (WoolMath.mul A B) M : Nat)) ∧ Up w w' := by
  have HZ := Lib.hid hM0
  have hr := pmod_le (WoolMath.mul A B) M hM0 hM
  have hf := mul_fits A B hA hB
  have hbA := WoolMath.blen_le A 31 (by omega)
  have hbB := WoolMath.blen_le B 31 (by omega)
  have hbM := WoolMath.blen_le M 31 (by omega)
  have hbP := WoolMath.blen_le (WoolMath.mul A B) 61 hf
  clear hM0
  go_enter Try.func27, Try.ntmps27
  go_wp2_with fail
  refine (coef_any _ _ (by omega)).mono ?_
  rintro e w1 ⟨vx, rfl, hbx, u1⟩
  rw [Int.toNat_natCast] at hbx
  have HBX := Lib.hid hbx
  clear hbx
  go_wp2_with fail
  refine (coef_any _ _ (by omega)).mono ?_
  rintro e w2 ⟨vy, rfl, hby, u2⟩
  rw [Int.toNat_natCast] at hby
  have HBX2 := Lib.hid ((HBX.out.up u2).weak (Nat.zero_le _))
  have HBY := Lib.hid (hby.weak (Nat.zero_le _))
  clear hby HBX
  go_wp2_with fail
  refine (prod_any _ _ A B _ _ _ (by omega) (by omega) (WoolMath.lt_blen A) (WoolMath.lt_blen B) HBX2.out HBY.out).mono ?_
  rintro e w3 ⟨vp, rfl, hbp, u3⟩
  have HBP := Lib.hid hbp
  clear hbp HBX2 HBY
  go_wp2_with fail
  refine (coef_any _ _ (by omega)).mono ?_
  rintro e w4 ⟨vm, rfl, hbm, u4⟩
  rw [Int.toNat_natCast] at hbm
  have HBP2 := Lib.hid ((HBP.out.up u4).weak (Nat.zero_le _))
  have HBM := Lib.hid (hbm.weak (Nat.zero_le _))
  clear hbm HBP
  go_wp2_with fail
  refine (left_any _ _ _ M _ _ (by omega) (WoolMath.lt_blen _) HZ.out (by omega) HBP2.out HBM.out).mono ?_
  rintro e w5 ⟨uq, ur, rfl, _, hbr, u5⟩
  have HBR := Lib.hid hbr
  have HU := Lib.hid ((((u1.trans u2).trans u3).trans u4).trans u5)
  clear hbr u1 u2 u3 u4 u5
  go_wp2_with fail
  refine (num_any _ _ _ _ _ ?_ (WoolMath.lt_blen _) HBR.out).mono ?_
  · exact Nat.le_trans (WoolMath.blen_le _ 30 hr) (by omega)
  rintro e w' ⟨rfl, rfl⟩
  go_wp2_with fail
  go_ret
  exact ⟨rfl, HU.out⟩

theorem pow_half (a n m : Nat) (hm : m ≠ 0) :
    WoolMath.pmod (WoolMath.pw a n) m = if n % 2 = 1 then WoolMath.pmod (WoolMath.mul (WoolMath.pmod (WoolMath.mul (WoolMath.pmod (WoolMath.pw a (n / 2)) m) (WoolMath.pmod (WoolMath.pw a (n / 2)) m)) m) a) m
      else WoolMath.pmod (WoolMath.mul (WoolMath.pmod (WoolMath.pw a (n / 2)) m) (WoolMath.pmod (WoolMath.pw a (n / 2)) m)) m := by
  have key : WoolMath.pmod (WoolMath.mul (WoolMath.pmod (WoolMath.pw a (n / 2)) m) (WoolMath.pmod (WoolMath.pw a (n / 2)) m)) m = WoolMath.pmod (WoolMath.pw a (2 * (n / 2))) m := by
    rw [WoolMath.pmod_mul_left _ _ _ hm, WoolMath.pmod_mul_right _ _ _ hm, WoolMath.pw_twice]
  by_cases h : n % 2 = 1
  · rw [if_pos h, WoolMath.pmod_mul_left _ _ _ hm]
    have e : n = 2 * (n / 2) + 1 := by omega
    rw [← WoolMath.pmod_mul_left _ _ _ hm, key, WoolMath.pmod_mul_left _ _ _ hm, ← WoolMath.pw_succ, ← e]
  · rw [if_neg h, key]
    have e : 2 * (n / 2) = n := by omega
    rw [e]

set_option maxRecDepth 100000 in
set_option maxHeartbeats 400000 in
theorem refModPow_any (k : Nat) : ∀ (A N M : Nat) (w : World), N < 2 ^ k → k ≤ 63 → A ≤ 2147483647 → M ≠ 0 → M ≤ 2147483647 →
    Calls Try.prog 28 #[.int .i64 (A : Int), .int .i64 (N : Int), .int .i64 (M : Int)] w fun e w' => e = .returned (.int .i64 (WoolMath.pmod (WoolMath.pw A N) M : Nat)) ∧ Up w w' := by
  induction k with
  | zero =>
    intro A N M w hN _ hA hM0 hM
    have : N = 0 := by simpa using hN
    subst this
    have HZ := Lib.hid hM0
    clear hM0 hN
    go_enter Try.func28, Try.ntmps28
    go_wp2_with fail
    refine (refModMul_any 1 1 M _ (by omega) (by omega) HZ.out hM).mono ?_
    rintro e w1 ⟨rfl, u1⟩
    rw [WoolMath.mul_one]
    go_wp2_with fail
    go_ret
    exact ⟨rfl, u1⟩
  | succ k ih =>
    intro A N M w hN hk hA hM0 hM
    have HZ := Lib.hid hM0
    have IH := Lib.hid ih
    clear ih
    by_cases hz : N = 0
    · subst hz
      clear hM0 hN
      go_enter Try.func28, Try.ntmps28
      go_wp2_with fail
      refine (refModMul_any 1 1 M _ (by omega) (by omega) HZ.out hM).mono ?_
      rintro e w1 ⟨rfl, u1⟩
      rw [WoolMath.mul_one]
      go_wp2_with fail
      go_ret
      exact ⟨rfl, u1⟩
    · have hz' : ((N : Int) == 0) = false := by rw [beq_eq_false_iff_ne]; omega
      have hN63 : N < 9223372036854775808 := Nat.lt_of_lt_of_le hN (Nat.pow_le_pow_right (n := 2) (j := 63) (by omega) hk)
      have hh : N / 2 < 2 ^ k := by rw [Nat.pow_succ] at hN; omega
      have HH := Lib.hid hh
      have hph := pow_half A N M hM0
      have hr1 := pmod_le (WoolMath.pw A (N / 2)) M hM0 hM
      have hr2 := pmod_le (WoolMath.mul (WoolMath.pmod (WoolMath.pw A (N / 2)) M) (WoolMath.pmod (WoolMath.pw A (N / 2)) M)) M hM0 hM
      clear hN hh hM0 hz
      go_enter Try.func28, Try.ntmps28
      go_wp2_with fail
      rw [show (N : Int) / 2 = ((N / 2 : Nat) : Int) by omega]
      refine (IH.out A (N / 2) M _ HH.out (by omega) hA HZ.out hM).mono ?_
      rintro e w1 ⟨rfl, u1⟩
      generalize WoolMath.pmod (WoolMath.pw A (N / 2)) M = X at *
      by_cases ho : N % 2 = 1
      · rw [if_pos ho] at hph
        have HPH := Lib.hid (congrArg (fun z : Nat => Ending.returned (.int .i64 (z : Int))) hph)
        have t1 : ((N : Int) % 2 == 1) = true := by rw [beq_iff_eq]; omega
        clear hph ho
        go_wp2_with fail
        refine (refModMul_any X X M _ (by omega) (by omega) HZ.out hM).mono ?_
        rintro e w2 ⟨rfl, u2⟩
        generalize WoolMath.pmod (WoolMath.mul X X) M = Y at *
        go_wp2_with fail
        refine (refModMul_any Y A M _ (by omega) hA HZ.out hM).mono ?_
        rintro e w3 ⟨rfl, u3⟩
        go_wp2_with fail
        go_ret
        exact ⟨HPH.out.symm, (u1.trans u2).trans u3⟩
      · rw [if_neg ho] at hph
        have HPH := Lib.hid (congrArg (fun z : Nat => Ending.returned (.int .i64 (z : Int))) hph)
        have t1 : ((N : Int) % 2 == 1) = false := by rw [beq_eq_false_iff_ne]; omega
        clear hph ho
        go_wp2_with fail
        refine (refModMul_any X X M _ (by omega) (by omega) HZ.out hM).mono ?_
        rintro e w2 ⟨rfl, u2⟩
        go_wp2_with fail
        go_ret
        exact ⟨HPH.out.symm, u1.trans u2⟩

/-! ytidofplebkbbmaa# PolyDivides -/

/-! ytidofplebkbbmaa# PolyMods -/

end Go.Proofs.Ytidofplebkbbmaa
