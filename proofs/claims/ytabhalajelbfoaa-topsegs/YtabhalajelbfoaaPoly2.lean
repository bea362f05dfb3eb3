/-
  What Div, Gcd, ModMul and ModPow of package poly return, at every argument. Conditions: the arguments are ints.
-/
import Derived.Test.YtabhalajelbfoaaPoly
namespace Go.Proofs.Ytabhalajelbfoaa
open Go.RowKit
open Go.Proofs

theorem pmod_le (a b : Nat) (hb : b ≠ 0) (hb2 : b ≤ 2147483647) : WoolMath.pmod a b < 1073741824 := by
  have h := WoolMath.pmod_lt a b hb
  have hl : b.log2 ≤ 30 := by
    have := (Nat.log2_lt hb).2 (show b < 2 ^ 31 by omega)
    omega
  exact Nat.lt_of_lt_of_le h (Nat.pow_le_pow_right (n := 2) (by omega) hl)

theorem pdiv_le (a b : Nat) (hb : b ≠ 0) (ha : a ≤ 2147483647) : WoolMath.pdiv a b ≤ 2147483647 := by
  by_cases hq : WoolMath.pdiv a b = 0
  · rw [hq]; omega
  have e := WoolMath.pdiv_eq a b
  have hr := WoolMath.pmod_lt a b hb
  obtain ⟨m1, m2⟩ := WoolMath.mul_log2 _ _ hq hb
  obtain ⟨t1, t2⟩ := WoolMath.top_of _ m1
  have h2 := WoolMath.xor_top _ _ _ t1 t2 (Nat.lt_of_lt_of_le hr (Nat.pow_le_pow_right (by omega) (by omega)))
  rw [← e] at h2
  have hal : a.log2 = (WoolMath.mul (WoolMath.pdiv a b) b).log2 := WoolMath.log2_of _ _ h2.1 h2.2
  have ha0 : a ≠ 0 := by intro h; subst h; simp [WoolMath.pdiv, WoolMath.divF] at hq
  have := (Nat.log2_lt ha0).2 (show a < 2 ^ 31 by omega)
  have hlt := WoolMath.lt_log2 (WoolMath.pdiv a b)
  have := Nat.pow_le_pow_right (n := 2) (by omega) (show (WoolMath.pdiv a b).log2 + 1 ≤ 31 by omega)
  omega

set_option maxRecDepth 100000 in
theorem div_ok (a b : Int) (w : World) (h0 : 0 ≤ a) (h1 : a ≤ 2147483647) (h2 : 0 < b) (h3 : b ≤ 2147483647) :
    Calls Try.prog 68 #[.int .i64 a, .int .i64 b] w fun e w' => e = .returned (.tuple #[.int .i64 (WoolMath.pdiv a.toNat b.toNat), .int .i64 (WoolMath.pmod a.toNat b.toNat), .int .i64 0]) ∧ Up w w' := by
  have hq := pdiv_le a.toNat b.toNat (by omega) (by omega)
  have hr := pmod_le a.toNat b.toNat (by omega) (by omega)
  have hz : (b == 0) = false := by rw [beq_eq_false_iff_ne]; omega
  go_enter Try.func68, Try.ntmps68
  go_wp2_with (first
    | (go_at_call 35; refine (checkAll_ok [a, b] _ 2 _ (by omega) rfl (row2 _ _ _ _) (all2 a b h0 h1 (by omega) h3)).mono ?_; rintro e w' ⟨rfl, rfl⟩)
    | (go_at_call 71; refine (divide_any _ _ _ h0 (by omega) h2 (by omega)).mono ?_; rintro e w' ⟨rfl, rfl⟩))
  go_ret3
  exact ⟨rfl, Up.alloc _ _⟩

set_option maxRecDepth 100000 in
theorem div_zero (a : Int) (w : World) (h0 : 0 ≤ a) (h1 : a ≤ 2147483647) :
    Calls Try.prog 68 #[.int .i64 a, .int .i64 0] w fun e w' => e = .returned (.tuple #[.int .i64 0, .int .i64 0, .int .i64 10]) ∧ Up w w' := by
  go_enter Try.func68, Try.ntmps68
  go_wp2_with (go_at_call 35; refine (checkAll_ok [a, 0] _ 2 _ (by omega) rfl (row2 _ _ _ _) (all2 a 0 h0 h1 (by omega) (by omega))).mono ?_; rintro e w' ⟨rfl, rfl⟩)
  go_ret3
  exact ⟨rfl, Up.alloc _ _⟩

set_option maxRecDepth 100000 in
theorem div_bad (a b : Int) (w : World) (h : a < 0 ∨ 2147483647 < a ∨ b < 0 ∨ 2147483647 < b) :
    Calls Try.prog 68 #[.int .i64 a, .int .i64 b] w fun e w' => e = .returned (.tuple #[.int .i64 0, .int .i64 0, .int .i64 1]) ∧ Up w w' := by
  have H := Lib.hid h
  clear h
  go_enter Try.func68, Try.ntmps68
  go_wp2_with (go_at_call 35; refine (checkAll_bad [a, b] _ 2 _ (by omega) rfl (row2 _ _ _ _) (bad2 a b H.out)).mono ?_; rintro e w' ⟨rfl, rfl⟩)
  go_ret3
  exact ⟨rfl, Up.alloc _ _⟩

/-! ytabhalajelbfoaa# Gcd -/

def GcdRel (a b : Nat) (x y : Value) : Prop :=
  ∃ X Y : Nat, X ≤ 2147483647 ∧ Y ≤ 2147483647 ∧ (∀ g, WoolMath.IsGcd g X Y ↔ WoolMath.IsGcd g a b) ∧ x = .int .u64 X ∧ y = .int .u64 Y

/-- what Gcd hands back -/
def GcdPost (a b : Nat) (w : World) (e : Ending) (w' : World) : Prop :=
  ∃ g : Nat, g ≤ 2147483647 ∧ WoolMath.IsGcd g a b ∧ e = .returned (.tuple #[.int .i64 (g : Int), .int .i64 0]) ∧ Up w w'

/-! ytabhalajelbfoaa# ModMul -/

set_option maxRecDepth 100000 in
theorem modMul_ok (a b m : Int) (w : World) (h0 : 0 ≤ a) (h1 : a ≤ 2147483647) (h2 : 0 ≤ b) (h3 : b ≤ 2147483647) (h4 : 0 < m) (h5 : m ≤ 2147483647) :
    Calls Try.prog 67 #[.int .i64 a, .int .i64 b, .int .i64 m] w fun e w' => e = .returned (.tuple #[.int .i64 (WoolMath.pmod (WoolMath.mul a.toNat b.toNat) m.toNat), .int .i64 0]) ∧ Up w w' := by
  have hf := mul_fits a.toNat b.toNat (by omega) (by omega)
  have hr := pmod_le (WoolMath.mul a.toNat b.toNat) m.toNat (by omega) (by omega)
  have hz : (m == 0) = false := by rw [beq_eq_false_iff_ne]; omega
  generalize hM : WoolMath.mul a.toNat b.toNat = M at *
  have HM := Lib.hid hM
  clear hM
  go_enter Try.func67, Try.ntmps67
  go_wp2_with (first
    | (go_at_call 35; refine (checkAll_ok [a, b, m] _ 3 _ (by omega) rfl (row3 _ _ _ _ _) (all3 a b m h0 h1 h2 h3 (by omega) h5)).mono ?_; rintro e w' ⟨rfl, rfl⟩)
    | (go_at_call 36; refine (product_any _ _ _ h0 (by omega) h2 (by omega)).mono ?_; rintro e w' ⟨rfl, rfl⟩; rw [HM.out])
    | (go_at_call 70; refine (remainder_any _ _ _ (by omega) (by omega) (by omega) (by omega)).mono ?_; rintro e w' ⟨rfl, rfl⟩; rw [Int.toNat_natCast]))
  go_ret2
  exact ⟨rfl, Up.alloc _ _⟩

set_option maxRecDepth 100000 in
theorem modMul_zero (a b : Int) (w : World) (h0 : 0 ≤ a) (h1 : a ≤ 2147483647) (h2 : 0 ≤ b) (h3 : b ≤ 2147483647) :
    Calls Try.prog 67 #[.int .i64 a, .int .i64 b, .int .i64 0] w fun e w' => e = .returned (.tuple #[.int .i64 0, .int .i64 10]) ∧ Up w w' := by
  go_enter Try.func67, Try.ntmps67
  go_wp2_with (go_at_call 35; refine (checkAll_ok [a, b, 0] _ 3 _ (by omega) rfl (row3 _ _ _ _ _) (all3 a b 0 h0 h1 h2 h3 (by omega) (by omega))).mono ?_; rintro e w' ⟨rfl, rfl⟩)
  go_ret2
  exact ⟨rfl, Up.alloc _ _⟩

set_option maxRecDepth 100000 in
theorem modMul_bad (a b m : Int) (w : World) (h : a < 0 ∨ 2147483647 < a ∨ b < 0 ∨ 2147483647 < b ∨ m < 0 ∨ 2147483647 < m) :
    Calls Try.prog 67 #[.int .i64 a, .int .i64 b, .int .i64 m] w fun e w' => e = .returned (.tuple #[.int .i64 0, .int .i64 1]) ∧ Up w w' := by
  have H := Lib.hid h
  clear h
  go_enter Try.func67, Try.ntmps67
  go_wp2_with (go_at_call 35; refine (checkAll_bad [a, b, m] _ 3 _ (by omega) rfl (row3 _ _ _ _ _) (bad3 a b m H.out)).mono ?_; rintro e w' ⟨rfl, rfl⟩)
  go_ret2
  exact ⟨rfl, Up.alloc _ _⟩

/-! ytabhalajelbfoaa# ModPow -/

def PowRel (a n m : Nat) (x k p : Value) : Prop :=
  ∃ X N P : Nat, X < 1073741824 ∧ N < 9223372036854775808 ∧ P < 1073741824 ∧ WoolMath.pmod (WoolMath.mul P (WoolMath.pw X N)) m = WoolMath.pmod (WoolMath.pw a n) m ∧
    WoolMath.pmod P m = P ∧ x = .int .u64 X ∧ k = .int .i64 N ∧ p = .int .u64 P

theorem pow_turn (a n m X N P Y Q : Nat) (hm : m ≠ 0) (h : WoolMath.pmod (WoolMath.mul P (WoolMath.pw X N)) m = WoolMath.pmod (WoolMath.pw a n) m)
    (hY : Y = WoolMath.pmod (WoolMath.mul X X) m) (hQ : Q = if N % 2 = 1 then WoolMath.pmod (WoolMath.mul P X) m else P) :
    WoolMath.pmod (WoolMath.mul Q (WoolMath.pw Y (N / 2))) m = WoolMath.pmod (WoolMath.pw a n) m := by
  rw [← h, ← WoolMath.pmod_mul_right _ _ _ hm, hY, WoolMath.pmod_pw _ _ _ hm, WoolMath.pmod_mul_right _ _ _ hm, ← WoolMath.pw_double]
  by_cases ho : N % 2 = 1
  · rw [hQ, if_pos ho, WoolMath.pmod_mul_left _ _ _ hm]
    congr 1
    have e : N = 2 * (N / 2) + 1 := by omega
    generalize N / 2 = K at *
    subst e
    rw [WoolMath.pw_succ, WoolMath.mul_assoc, WoolMath.mul_comm X]
  · rw [hQ, if_neg ho]
    congr 2
    congr 1
    omega

end Go.Proofs.Ytabhalajelbfoaa
