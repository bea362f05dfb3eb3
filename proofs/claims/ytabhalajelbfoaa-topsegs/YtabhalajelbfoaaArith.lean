/-
  What poly.product, poly.divide and poly.remainder return: the product without carries of two numbers below 2^31; quotient and remainder of a number below 2^62 by one below 2^31 that is not 0.
-/
import Derived.Test.YtabhalajelbfoaaLen
import Derived.Lib.Hide
import Derived.Laws.BitsAllLaws
namespace Go.Proofs.Ytabhalajelbfoaa
open Go.RowKit
open Go.Proofs

theorem and_one (B : Nat) (h : B < 18446744073709551616) : bits .and .u64 (B : Int) 1 = ((B % 2 : Nat) : Int) := by
  have := u64_and_nat B 1 h (by omega)
  rw [nat_mask1] at this
  exact this

theorem wrap_nat (n : Nat) (h : n < 18446744073709551616) : IntKind.u64.wrap (n : Int) = n := by rw [IntKind.wrap_u64]; omega

theorem pow_cast (s : Nat) : (2 : Int) ^ s = ((2 ^ s : Nat) : Int) := by rw [Int.natCast_pow]; rfl

def ProdRel (M : Nat) (a b p : Value) : Prop :=
  ∃ k A B P : Nat, k ≤ 31 ∧ A < 2 ^ (31 + k) ∧ B < 2 ^ (31 - k) ∧ P < 2 ^ 62 ∧ P ^^^ WoolMath.mul A B = M ∧ a = .int .u64 A ∧ b = .int .u64 B ∧ p = .int .u64 P

theorem prod_turn (M k A B P : Nat) (hk : k ≤ 31) (hA : A < 2 ^ (31 + k)) (hB : B < 2 ^ (31 - k)) (hP : P < 2 ^ 62) (hM : P ^^^ WoolMath.mul A B = M) (h0 : B ≠ 0) (p : Value)
    (hp : p = .int .u64 ((if B % 2 = 1 then P ^^^ A else P : Nat) : Int)) :
    ProdRel M (.int .u64 ((A * 2 : Nat) : Int)) (.int .u64 ((B / 2 : Nat) : Int)) p := by
  have hk1 : k < 31 := by
    apply Nat.lt_of_not_le
    intro h
    have : k = 31 := by omega
    subst this
    simp at hB; omega
  have e : 31 - k = (31 - (k + 1)) + 1 := by omega
  refine ⟨k + 1, A * 2, B / 2, if B % 2 = 1 then P ^^^ A else P, by omega, ?_, ?_, ?_, ?_, rfl, rfl, hp⟩
  · rw [← Nat.add_assoc, Nat.pow_succ]; omega
  · rw [e, Nat.pow_succ] at hB; omega
  · split
    · exact Nat.xor_lt_two_pow hP (Nat.lt_of_lt_of_le hA (Nat.pow_le_pow_right (by omega) (by omega)))
    · exact hP
  · rw [← hM, WoolMath.mul_step A B, Nat.mul_comm A 2, WoolMath.even_mul]
    split
    · rw [Nat.xor_assoc]
    · rw [Nat.zero_xor]

set_option maxRecDepth 100000 in
set_option maxHeartbeats 400000 in
theorem product_any (a b : Int) (w : World) (h0 : 0 ≤ a) (h1 : a < 2147483648) (h2 : 0 ≤ b) (h3 : b < 2147483648) :
    Calls Try.prog 36 #[.int .u64 a, .int .u64 b] w fun e w' => e = .returned (.int .u64 (WoolMath.mul a.toNat b.toNat)) ∧ w = w' := by
  obtain ⟨A0, rfl⟩ := Int.eq_ofNat_of_zero_le h0
  obtain ⟨B0, rfl⟩ := Int.eq_ofNat_of_zero_le h2
  rw [Int.toNat_natCast, Int.toNat_natCast]
  go_enter Try.func36, Try.ntmps36
  go_wp2
  go_loop [0, 1, 5] (fun a b p => ProdRel (WoolMath.mul A0 B0) a b p) (fun _ b _ => (intOf b).toNat)
  case atStart => exact ⟨0, A0, B0, 0, by omega, by omega, by omega, by omega, by rw [Nat.zero_xor], rfl, rfl, rfl⟩
  case round =>
    obtain ⟨k, A, B, P, hk, hA, hB, hP, hM, rfl, rfl, rfl⟩ := hrel
    have hA' : A < 4611686018427387904 := Nat.lt_of_lt_of_le hA (Nat.pow_le_pow_right (n := 2) (j := 62) (by omega) (by omega))
    have hB' : B < 2147483648 := Nat.lt_of_lt_of_le hB (Nat.pow_le_pow_right (n := 2) (j := 31) (by omega) (by omega))
    have hP' : P < 4611686018427387904 := hP
    by_cases hz : B = 0
    · subst hz
      rw [WoolMath.mul_zero, Nat.xor_zero] at hM
      subst hM
      clear hA hB hP
      go_wp2
      go_ret
      exact ⟨rfl, rfl⟩
    · have ht := prod_turn _ k A B P hk hA hB hP hM hz
      have hb := and_one B (by omega)
      have hz' : ((B : Int) != 0) = true := by rw [bne_iff_ne]; omega
      have hx := u64_xor_nat P A (by omega) (by omega)
      have HX := Lib.hid hx
      clear hM hA hB hP hk hx
      by_cases ho : B % 2 = 1
      · have hb' : (bits .and .u64 (B : Int) 1 == 1) = true := by rw [hb, ho]; rfl
        rw [if_pos ho] at ht
        have H := Lib.hid ht
        have HZ := Lib.hid hz
        clear hb ho ht hz
        go_wp2
        go_round
        case rel => rw [HX.out]; exact H.out _ rfl
        case measure => have := HZ.out; simp only [intOf]; omega
      · have hb' : (bits .and .u64 (B : Int) 1 == 1) = false := by
          rw [hb]
          have : B % 2 = 0 := by omega
          rw [this]; rfl
        rw [if_neg ho] at ht
        have H := Lib.hid ht
        have HZ := Lib.hid hz
        clear hb ho ht hz
        go_wp2
        go_round
        case rel => exact H.out _ rfl
        case measure => have := HZ.out; simp only [intOf]; omega

/-! ytabhalajelbfoaa# division -/

def DivRel (a0 b : Nat) (a q s : Value) : Prop :=
  ∃ R Q : Nat, R < 2 ^ 62 ∧ Q < 2 ^ 62 ∧ a0 = WoolMath.mul Q b ^^^ R ∧ (∀ i, i + WoolMath.blen b ≤ WoolMath.blen R → Q.testBit i = false) ∧
    a = .int .u64 R ∧ q = .int .u64 Q ∧ s = .int .i64 ((WoolMath.blen R : Int) - WoolMath.blen b)

theorem div_turn (a0 b R Q s : Nat) (hb : b ≠ 0) (hR : R < 2 ^ 62) (hQ : Q < 2 ^ 62) (h : a0 = WoolMath.mul Q b ^^^ R)
    (hi : ∀ i, i + WoolMath.blen b ≤ WoolMath.blen R → Q.testBit i = false) (hs : s + WoolMath.blen b = WoolMath.blen R) :
    (R ^^^ (b <<< s)) < 2 ^ 62 ∧ (Q ||| 2 ^ s) < 2 ^ 62 ∧ WoolMath.blen (R ^^^ (b <<< s)) < WoolMath.blen R ∧
    ∀ v, v = .int .i64 ((WoolMath.blen (R ^^^ (b <<< s)) : Int) - WoolMath.blen b) →
      DivRel a0 b (.int .u64 ((R ^^^ (b <<< s) : Nat) : Int)) (.int .u64 ((Q ||| 2 ^ s : Nat) : Int)) v := by
  have hl := WoolMath.blen_le R 62 hR
  have e : s = WoolMath.blen R - WoolMath.blen b := by omega
  have hbl : 1 ≤ WoolMath.blen b := by rw [WoolMath.blen_pos b hb]; omega
  obtain ⟨t1, t2⟩ := WoolMath.turn_blen R b hb (by omega)
  rw [← e] at t1 t2
  have hq : Q.testBit s = false := hi s (by omega)
  have r1 : (R ^^^ (b <<< s)) < 2 ^ 62 := Nat.lt_of_lt_of_le t2 (Nat.pow_le_pow_right (by omega) hl)
  have r2 : (Q ||| 2 ^ s) < 2 ^ 62 := Nat.or_lt_two_pow hQ (Nat.pow_lt_pow_right (by omega) (by omega))
  refine ⟨r1, r2, t1, fun v hv => ⟨_, _, r1, r2, ?_, ?_, rfl, rfl, hv⟩⟩
  · rw [WoolMath.or_bit Q s hq, WoolMath.xor_mul, WoolMath.mul_comm (2 ^ s), ← WoolMath.mul_shift, h, Nat.xor_comm R, Nat.xor_assoc, WoolMath.xor_cancel_left]
  · intro i hle
    rw [Nat.testBit_or, hi i (by omega), Nat.testBit_two_pow]
    have : s ≠ i := by omega
    simp [this]

set_option maxRecDepth 100000 in
set_option maxHeartbeats 400000 in
theorem divide_any (a b : Int) (w : World) (h0 : 0 ≤ a) (h1 : a < 4611686018427387904) (h2 : 0 < b) (h3 : b < 2147483648) :
    Calls Try.prog 71 #[.int .u64 a, .int .u64 b] w fun e w' => e = .returned (.tuple #[.int .u64 (WoolMath.pdiv a.toNat b.toNat), .int .u64 (WoolMath.pmod a.toNat b.toNat)]) ∧ w = w' := by
  obtain ⟨A0, rfl⟩ := Int.eq_ofNat_of_zero_le h0
  obtain ⟨B0, rfl⟩ := Int.eq_ofNat_of_zero_le (show 0 ≤ b by omega)
  rw [Int.toNat_natCast, Int.toNat_natCast]
  have hb0 : B0 ≠ 0 := by omega
  have hbl := WoolMath.blen_le B0 31 (by omega)
  have hal := WoolMath.blen_le A0 62 (by omega)
  have HB := Lib.hid hb0
  clear hb0
  go_enter Try.func71, Try.ntmps71
  go_wp2_with (go_at_call 37; refine (degree_any _ _ (by omega) (by omega)).mono ?_; rintro e w' ⟨rfl, rfl⟩; rw [Int.toNat_natCast])
  go_loop [0, 4, 7] (fun a q s => DivRel A0 B0 a q s) (fun a _ _ => WoolMath.blen (intOf a).toNat)
  case atStart =>
    refine ⟨A0, 0, by omega, by omega, by rw [WoolMath.zero_mul, Nat.zero_xor], fun i _ => Nat.zero_testBit i, rfl, rfl, ?_⟩
    congr 1; omega
  case round =>
    obtain ⟨R, Q, hR, hQ, hq, hi, rfl, rfl, hs⟩ := hrel
    have hR' : R < 4611686018427387904 := hR
    have hQ' : Q < 4611686018427387904 := hQ
    have hrl := WoolMath.blen_le R 62 hR
    by_cases hlt : WoolMath.blen R < WoolMath.blen B0
    · subst hs
      have hr := WoolMath.lt_of_blen R B0 HB.out hlt
      have e1 := WoolMath.pdiv_of A0 B0 Q R HB.out hq hr
      have e2 := WoolMath.pmod_of A0 B0 Q R HB.out hq hr
      have fin : Ending.returned (.tuple #[.int .u64 (Q : Int), .int .u64 (R : Int)]) = .returned (.tuple #[.int .u64 (WoolMath.pdiv A0 B0 : Int), .int .u64 (WoolMath.pmod A0 B0 : Int)]) := by rw [e1, e2]
      have FIN := Lib.hid fin
      have d1 : decide ((0 : Int) ≤ (WoolMath.blen R : Int) - WoolMath.blen B0) = false := by rw [decide_eq_false_iff_not]; omega
      have d2 : decide (WoolMath.blen B0 ≤ WoolMath.blen R) = false := by rw [decide_eq_false_iff_not]; omega
      clear hr e1 e2 hi hq hR hQ fin
      go_wp2
      go_ret2
      exact ⟨FIN.out, rfl⟩
    · obtain ⟨s, hs'⟩ : ∃ s : Nat, s + WoolMath.blen B0 = WoolMath.blen R := ⟨WoolMath.blen R - WoolMath.blen B0, by omega⟩
      have es : (WoolMath.blen R : Int) - WoolMath.blen B0 = (s : Int) := by omega
      rw [es] at hs
      subst hs
      obtain ⟨r1, r2, r3, r4⟩ := div_turn A0 B0 R Q s HB.out hR hQ hq hi hs'
      have hs62 : s ≤ 61 := by have := WoolMath.blen_pos B0 HB.out; omega
      have hsh : B0 <<< s < 2 ^ 62 := by
        have := Nat.xor_lt_two_pow hR r1
        rwa [WoolMath.xor_cancel_left] at this
      have hw1 : IntKind.u64.wrap ((B0 : Int) * 2 ^ s) = ((B0 <<< s : Nat) : Int) := by
        rw [pow_cast, ← Int.natCast_mul, ← Nat.shiftLeft_eq]
        exact wrap_nat _ (by omega)
      have hp2 : 2 ^ s < 2 ^ 62 := Nat.pow_lt_pow_right (by omega) (by omega)
      have hw2 : IntKind.u64.wrap (2 ^ s) = ((2 ^ s : Nat) : Int) := by
        rw [pow_cast]
        exact wrap_nat _ (Nat.lt_of_lt_of_le hp2 (by decide))
      have hx : bits .xor .u64 (R : Int) (IntKind.u64.wrap ((B0 : Int) * 2 ^ s)) = ((R ^^^ (B0 <<< s) : Nat) : Int) := by
        rw [hw1]; exact u64_xor_nat _ _ (by omega) (by omega)
      have ho : bits .or .u64 (Q : Int) (IntKind.u64.wrap (2 ^ s)) = ((Q ||| 2 ^ s : Nat) : Int) := by
        rw [hw2]; exact u64_or_nat _ _ (by omega) (Nat.lt_of_lt_of_le hp2 (by decide))
      generalize R ^^^ (B0 <<< s) = X at *
      generalize Q ||| 2 ^ s = Y at *
      have R4 := Lib.hid r4
      have HS := Lib.hid hs'
      have hX : X < 4611686018427387904 := r1
      have hxl := WoolMath.blen_le X 62 hX
      clear es hi hq hR hQ r4 hs' hw1 hw2 hp2 hsh r1 r2
      go_wp2_with (go_at_call 37; refine (degree_any _ _ (by omega) (by omega)).mono ?_; rintro e w' ⟨rfl, rfl⟩; rw [Int.toNat_natCast])
      go_round
      case rel => exact R4.out _ (by congr 1; omega)
      case measure => simp only [intOf, Int.toNat_natCast]; omega

theorem remainder_any (a b : Int) (w : World) (h0 : 0 ≤ a) (h1 : a < 4611686018427387904) (h2 : 0 < b) (h3 : b < 2147483648) :
    Calls Try.prog 70 #[.int .u64 a, .int .u64 b] w fun e w' => e = .returned (.int .u64 (WoolMath.pmod a.toNat b.toNat)) ∧ w = w' := by
  go_enter Try.func70, Try.ntmps70
  go_wp2_with (go_at_call 71; refine (divide_any _ _ _ h0 h1 h2 h3).mono ?_; rintro e w' ⟨rfl, rfl⟩)
  go_ret
  exact ⟨rfl, rfl⟩

end Go.Proofs.Ytabhalajelbfoaa
