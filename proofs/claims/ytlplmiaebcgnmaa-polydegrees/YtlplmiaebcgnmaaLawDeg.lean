/-
  The law PolyDegrees, walked: for every a, b the Go text returns true; nothing that was there turns. No condition.
-/
import Derived.Test.YtlplmiaebcgnmaaKeep
namespace Go.Proofs.Ytlplmiaebcgnmaa
open Go.RowKit
open Go.Proofs

theorem blen_mul (a b : Nat) (ha : a ≠ 0) (hb : b ≠ 0) : WoolMath.blen (WoolMath.mul a b) + 1 = WoolMath.blen a + WoolMath.blen b := by
  obtain ⟨m1, m2⟩ := WoolMath.mul_log2 a b ha hb
  rw [WoolMath.blen_pos _ m1, WoolMath.blen_pos _ ha, WoolMath.blen_pos _ hb, m2]; omega

theorem lt_of_blen_le (a k : Nat) (h : WoolMath.blen a ≤ k) : a < 2 ^ k :=
  Nat.lt_of_lt_of_le (WoolMath.lt_blen a) (Nat.pow_le_pow_right (by omega) h)

theorem blen_xor_le (a b k : Nat) (ha : WoolMath.blen a ≤ k) (hb : WoolMath.blen b ≤ k) : WoolMath.blen (a ^^^ b) ≤ k :=
  WoolMath.blen_le _ _ (Nat.xor_lt_two_pow (lt_of_blen_le a k ha) (lt_of_blen_le b k hb))

theorem blen_xor_top (a b : Nat) (h : WoolMath.blen b < WoolMath.blen a) : WoolMath.blen (a ^^^ b) = WoolMath.blen a := by
  have ha : a ≠ 0 := by intro e; subst e; rw [WoolMath.blen_zero] at h; omega
  obtain ⟨t1, t2⟩ := WoolMath.top_of a ha
  have e := WoolMath.blen_pos a ha
  have hx := WoolMath.xor_top _ _ b t1 t2 (lt_of_blen_le b _ (by omega))
  have h0 : a ^^^ b ≠ 0 := by have := Nat.pow_pos (n := a.log2) (show 0 < 2 by omega); omega
  rw [WoolMath.blen_pos _ h0, WoolMath.log2_of _ _ hx.1 hx.2, e]

set_option maxRecDepth 100000 in
set_option maxHeartbeats 1000000 in
theorem polyDegrees_walk (a0 a1 : Int) (w : World) (_w0 : (Lit.int .i64 a0).wf = true) (_w1 : (Lit.int .i64 a1).wf = true) :
    Calls Try.prog 9 #[.int .i64 a0, .int .i64 a1] w fun e w' => e = .returned (.bool true) ∧ Up w w' := by
  go_enter Try.func9, Try.ntmps9
  go_wp2_with fail
  refine (deg_ok _ _ (by omega) (by omega)).mono ?_
  rintro e w' ⟨rfl, rfl⟩
  rw [show (WoolMath.blen (0 : Int).toNat : Int) - 1 = -1 from rfl]
  go_wp2_with fail
  refine (less_any _ 14 _ (by omega)).mono ?_
  rintro e w' ⟨rfl, rfl⟩
  have hA := within_lt a0 (2 ^ 14) (by omega)
  generalize within a0 (2 ^ 14) = A at *
  go_wp2_with fail
  refine (less_any _ 14 _ (by omega)).mono ?_
  rintro e w' ⟨rfl, rfl⟩
  have hB := within_lt a1 (2 ^ 14) (by omega)
  generalize within a1 (2 ^ 14) = B at *
  go_wp2_with fail
  rw [show (1 : Int) + (A : Int) = ((1 + A : Nat) : Int) by omega, show (1 : Int) + (B : Int) = ((1 + B : Nat) : Int) by omega]
  have hA0 : 1 + A ≠ 0 := by omega
  have hB0 : 1 + B ≠ 0 := by omega
  have hA1 : 1 + A ≤ 16384 := by omega
  have hB1 : 1 + B ≤ 16384 := by omega
  clear hA hB
  generalize 1 + A = A at *
  generalize 1 + B = B at *
  have hx := blen_mul A B hA0 hB0
  have hla := WoolMath.blen_le A 15 (by omega)
  have hlb := WoolMath.blen_le B 15 (by omega)
  have hM : WoolMath.mul A B < 2 ^ 29 := lt_of_blen_le _ _ (by omega)
  have hS : A ^^^ B < 2 ^ 15 := Nat.xor_lt_two_pow (by omega) (by omega)
  refine (mul_ok _ _ _ (by omega) (by omega) (by omega) (by omega) (by rw [Int.toNat_natCast, Int.toNat_natCast]; omega)).mono ?_
  rintro e w1 ⟨rfl, u1⟩
  rw [Int.toNat_natCast, Int.toNat_natCast]
  generalize hMM : WoolMath.mul A B = M at *
  go_wp2_with fail
  refine (add_ok _ _ _ (by omega) (by omega) (by omega) (by omega)).mono ?_
  rintro e w2 ⟨rfl, u2⟩
  rw [Int.toNat_natCast, Int.toNat_natCast]
  have hs1 := blen_xor_le A B
  have hs2 := blen_xor_top A B
  have hs3 := blen_xor_top B A
  rw [Nat.xor_comm B A] at hs3
  generalize A ^^^ B = S at *
  have hs4 := hs1 (max (WoolMath.blen A) (WoolMath.blen B)) (by omega) (by omega)
  have hs5 : WoolMath.blen A = WoolMath.blen B ∨ WoolMath.blen S = max (WoolMath.blen A) (WoolMath.blen B) := by omega
  have HX := Lib.hid hx
  have HS := Lib.hid hs5
  clear hx hs1 hs2 hs3 hs5 hMM hA0 hB0
  go_wp2_with fail
  refine (deg_ok _ _ (by omega) (by omega)).mono ?_
  rintro e w' ⟨rfl, rfl⟩
  rw [Int.toNat_natCast]
  go_wp2_with fail
  refine (deg_ok _ _ (by omega) (by omega)).mono ?_
  rintro e w' ⟨rfl, rfl⟩
  rw [Int.toNat_natCast]
  go_wp2_with fail
  refine (deg_ok _ _ (by omega) (by omega)).mono ?_
  rintro e w' ⟨rfl, rfl⟩
  rw [Int.toNat_natCast]
  go_wp2_with fail
  refine (deg_ok _ _ (by omega) (by omega)).mono ?_
  rintro e w' ⟨rfl, rfl⟩
  rw [Int.toNat_natCast]
  have hx := HX.out
  have hlm := WoolMath.blen_le M 31 (by omega)
  generalize WoolMath.blen A = X at *
  generalize WoolMath.blen B = Y at *
  generalize WoolMath.blen S = T at *
  generalize WoolMath.blen M = Z at *
  have t1 : ((Z : Int) - 1 == (X : Int) - 1 + ((Y : Int) - 1)) = true := by rw [beq_iff_eq]; omega
  have t2 : decide ((T : Int) - 1 ≤ max ((X : Int) - 1) ((Y : Int) - 1)) = true := by rw [decide_eq_true_iff]; omega
  have hs5 := HS.out
  clear hx
  by_cases hxy : X = Y
  · have t3 : ((X : Int) - 1 == (Y : Int) - 1) = true := by rw [beq_iff_eq]; omega
    clear hxy hs5
    go_wp2_with fail
    go_ret
    exact ⟨rfl, u1.trans u2⟩
  · have t3 : ((X : Int) - 1 == (Y : Int) - 1) = false := by rw [beq_eq_false_iff_ne]; omega
    have t4 : ((T : Int) - 1 == max ((X : Int) - 1) ((Y : Int) - 1)) = true := by rw [beq_iff_eq]; omega
    clear hxy hs5
    go_wp2_with fail
    go_ret
    exact ⟨rfl, u1.trans u2⟩

end Go.Proofs.Ytlplmiaebcgnmaa
