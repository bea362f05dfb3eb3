/-
  What Div, Gcd, ModMul and ModPow of package poly return, at every argument. Conditions: the arguments are ints.
-/
import Derived.Test.YtbeigaanlhaolaaDoorPoly
namespace Go.Proofs.YtbeigaanlhaolaaDoor
open Go.RowKit
open Go.Proofs

theorem pmod_le (a b : Nat) (hb : b ≠ 0) (hb2 : b ≤ 2147483647) : WoolMath.pmod a b < 1073741824 := by
  have h := WoolMath.pmod_lt a b hb
  have hl : b.log2 ≤ 30 := by
    have := (Nat.log2_lt hb).2 (show b < 2 ^ 31 by omega)
    omega
  exact Nat.lt_of_lt_of_le h (Nat.pow_le_pow_right (n := 2) (by omega) hl)

theorem pdiv_le (a b : Nat) (hb : b ≠ 0) (ha : a ≤ 2147483647) : WoolMath.pdiv a b ≤ 2147483647 := by
  by_cases hq : WoolMath.pdiv a b = 0
  · rw [hq]; omega
  have e := WoolMath.pdiv_eq a b
  have hr := WoolMath.pmod_lt a b hb
  obtain ⟨m1, m2⟩ := WoolMath.mul_log2 _ _ hq hb
  obtain ⟨t1, t2⟩ := WoolMath.top_of _ m1
  have h2 := WoolMath.xor_top _ _ _ t1 t2 (Nat.lt_of_lt_of_le hr (Nat.pow_le_pow_right (by omega) (by omega)))
  rw [← e] at h2
  have hal : a.log2 = (WoolMath.mul (WoolMath.pdiv a b) b).log2 := WoolMath.log2_of _ _ h2.1 h2.2
  have ha0 : a ≠ 0 := by intro h; subst h; simp [WoolMath.pdiv, WoolMath.divF] at hq
  have := (Nat.log2_lt ha0).2 (show a < 2 ^ 31 by omega)
  have hlt := WoolMath.lt_log2 (WoolMath.pdiv a b)
  have := Nat.pow_le_pow_right (n := 2) (by omega) (show (WoolMath.pdiv a b).log2 + 1 ≤ 31 by omega)
  omega

/-! ytbeigaanlhaolaadoor# Gcd -/

def GcdRel (a b : Nat) (x y : Value) : Prop :=
  ∃ X Y : Nat, X ≤ 2147483647 ∧ Y ≤ 2147483647 ∧ (∀ g, WoolMath.IsGcd g X Y ↔ WoolMath.IsGcd g a b) ∧ x = .int .u64 X ∧ y = .int .u64 Y

/-- what Gcd hands back -/
def GcdPost (a b : Nat) (w : World) (e : Ending) (w' : World) : Prop :=
  ∃ g : Nat, g ≤ 2147483647 ∧ WoolMath.IsGcd g a b ∧ e = .returned (.tuple #[.int .i64 (g : Int), .int .i64 0]) ∧ Up w w'

/-! ytbeigaanlhaolaadoor# ModMul -/

/-! ytbeigaanlhaolaadoor# ModPow -/

def PowRel (a n m : Nat) (x k p : Value) : Prop :=
  ∃ X N P : Nat, X < 1073741824 ∧ N < 9223372036854775808 ∧ P < 1073741824 ∧ WoolMath.pmod (WoolMath.mul P (WoolMath.pw X N)) m = WoolMath.pmod (WoolMath.pw a n) m ∧
    WoolMath.pmod P m = P ∧ x = .int .u64 X ∧ k = .int .i64 N ∧ p = .int .u64 P

theorem pow_turn (a n m X N P Y Q : Nat) (hm : m ≠ 0) (h : WoolMath.pmod (WoolMath.mul P (WoolMath.pw X N)) m = WoolMath.pmod (WoolMath.pw a n) m)
    (hY : Y = WoolMath.pmod (WoolMath.mul X X) m) (hQ : Q = if N % 2 = 1 then WoolMath.pmod (WoolMath.mul P X) m else P) :
    WoolMath.pmod (WoolMath.mul Q (WoolMath.pw Y (N / 2))) m = WoolMath.pmod (WoolMath.pw a n) m := by
  rw [← h, ← WoolMath.pmod_mul_right _ _ _ hm, hY, WoolMath.pmod_pw _ _ _ hm, WoolMath.pmod_mul_right _ _ _ hm, ← WoolMath.pw_double]
  by_cases ho : N % 2 = 1
  · rw [hQ, if_pos ho, WoolMath.pmod_mul_left _ _ _ hm]
    congr 1
    have e : N = 2 * (N / 2) + 1 := by omega
    generalize N / 2 = K at *
    subst e
    rw [WoolMath.pw_succ, WoolMath.mul_assoc, WoolMath.mul_comm X]
  · rw [hQ, if_neg ho]
    congr 2
    congr 1
    omega

end Go.Proofs.YtbeigaanlhaolaaDoor
