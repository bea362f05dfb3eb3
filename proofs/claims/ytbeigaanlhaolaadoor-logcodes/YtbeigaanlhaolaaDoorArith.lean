/-
  What poly.product, poly.divide and poly.remainder return: the product without carries of two numbers below 2^31; quotient and remainder of a number below 2^62 by one below 2^31 that is not 0.
-/
import Derived.Test.YtbeigaanlhaolaaDoorLen
import Derived.Lib.Hide
import Derived.Laws.BitsAllLaws
namespace Go.Proofs.YtbeigaanlhaolaaDoor
open Go.RowKit
open Go.Proofs

theorem and_one (B : Nat) (h : B < 18446744073709551616) : bits .and .u64 (B : Int) 1 = ((B % 2 : Nat) : Int) := by
  have := u64_and_nat B 1 h (by omega)
  rw [nat_mask1] at this
  exact this

theorem wrap_nat (n : Nat) (h : n < 18446744073709551616) : IntKind.u64.wrap (n : Int) = n := by rw [IntKind.wrap_u64]; omega

theorem pow_cast (s : Nat) : (2 : Int) ^ s = ((2 ^ s : Nat) : Int) := by rw [Int.natCast_pow]; rfl

def ProdRel (M : Nat) (a b p : Value) : Prop :=
  ∃ k A B P : Nat, k ≤ 31 ∧ A < 2 ^ (31 + k) ∧ B < 2 ^ (31 - k) ∧ P < 2 ^ 62 ∧ P ^^^ WoolMath.mul A B = M ∧ a = .int .u64 A ∧ b = .int .u64 B ∧ p = .int .u64 P

theorem prod_turn (M k A B P : Nat) (hk : k ≤ 31) (hA : A < 2 ^ (31 + k)) (hB : B < 2 ^ (31 - k)) (hP : P < 2 ^ 62) (hM : P ^^^ WoolMath.mul A B = M) (h0 : B ≠ 0) (p : Value)
    (hp : p = .int .u64 ((if B % 2 = 1 then P ^^^ A else P : Nat) : Int)) :
    ProdRel M (.int .u64 ((A * 2 : Nat) : Int)) (.int .u64 ((B / 2 : Nat) : Int)) p := by
  have hk1 : k < 31 := by
    apply Nat.lt_of_not_le
    intro h
    have : k = 31 := by omega
    subst this
    simp at hB; omega
  have e : 31 - k = (31 - (k + 1)) + 1 := by omega
  refine ⟨k + 1, A * 2, B / 2, if B % 2 = 1 then P ^^^ A else P, by omega, ?_, ?_, ?_, ?_, rfl, rfl, hp⟩
  · rw [← Nat.add_assoc, Nat.pow_succ]; omega
  · rw [e, Nat.pow_succ] at hB; omega
  · split
    · exact Nat.xor_lt_two_pow hP (Nat.lt_of_lt_of_le hA (Nat.pow_le_pow_right (by omega) (by omega)))
    · exact hP
  · rw [← hM, WoolMath.mul_step A B, Nat.mul_comm A 2, WoolMath.even_mul]
    split
    · rw [Nat.xor_assoc]
    · rw [Nat.zero_xor]

/-! ytbeigaanlhaolaadoor# division -/

def DivRel (a0 b : Nat) (a q s : Value) : Prop :=
  ∃ R Q : Nat, R < 2 ^ 62 ∧ Q < 2 ^ 62 ∧ a0 = WoolMath.mul Q b ^^^ R ∧ (∀ i, i + WoolMath.blen b ≤ WoolMath.blen R → Q.testBit i = false) ∧
    a = .int .u64 R ∧ q = .int .u64 Q ∧ s = .int .i64 ((WoolMath.blen R : Int) - WoolMath.blen b)

theorem div_turn (a0 b R Q s : Nat) (hb : b ≠ 0) (hR : R < 2 ^ 62) (hQ : Q < 2 ^ 62) (h : a0 = WoolMath.mul Q b ^^^ R)
    (hi : ∀ i, i + WoolMath.blen b ≤ WoolMath.blen R → Q.testBit i = false) (hs : s + WoolMath.blen b = WoolMath.blen R) :
    (R ^^^ (b <<< s)) < 2 ^ 62 ∧ (Q ||| 2 ^ s) < 2 ^ 62 ∧ WoolMath.blen (R ^^^ (b <<< s)) < WoolMath.blen R ∧
    ∀ v, v = .int .i64 ((WoolMath.blen (R ^^^ (b <<< s)) : Int) - WoolMath.blen b) →
      DivRel a0 b (.int .u64 ((R ^^^ (b <<< s) : Nat) : Int)) (.int .u64 ((Q ||| 2 ^ s : Nat) : Int)) v := by
  have hl := WoolMath.blen_le R 62 hR
  have e : s = WoolMath.blen R - WoolMath.blen b := by omega
  have hbl : 1 ≤ WoolMath.blen b := by rw [WoolMath.blen_pos b hb]; omega
  obtain ⟨t1, t2⟩ := WoolMath.turn_blen R b hb (by omega)
  rw [← e] at t1 t2
  have hq : Q.testBit s = false := hi s (by omega)
  have r1 : (R ^^^ (b <<< s)) < 2 ^ 62 := Nat.lt_of_lt_of_le t2 (Nat.pow_le_pow_right (by omega) hl)
  have r2 : (Q ||| 2 ^ s) < 2 ^ 62 := Nat.or_lt_two_pow hQ (Nat.pow_lt_pow_right (by omega) (by omega))
  refine ⟨r1, r2, t1, fun v hv => ⟨_, _, r1, r2, ?_, ?_, rfl, rfl, hv⟩⟩
  · rw [WoolMath.or_bit Q s hq, WoolMath.xor_mul, WoolMath.mul_comm (2 ^ s), ← WoolMath.mul_shift, h, Nat.xor_comm R, Nat.xor_assoc, WoolMath.xor_cancel_left]
  · intro i hle
    rw [Nat.testBit_or, hi i (by omega), Nat.testBit_two_pow]
    have : s ≠ i := by omega
    simp [this]

end Go.Proofs.YtbeigaanlhaolaaDoor
