/-
  The texts Len, Arith, Poly, one behind the other; each says below what it holds and on what conditions.
-/
import Derived.Test.YtnmdfdkagkpcaaaChecked
import Derived.Test.YtnmdfdkagkpcaaaJVolOwn02
import Derived.WalkKit
import Derived.WalkSpells
import Derived.Lib.Walk
import Derived.Lib.Tables
import Derived.Lib.Hide
import Derived.Laws.BitsAllLaws
import Derived.Below
import Derived.Test.YtnmdfdkagkpcaaaJVolOwn01

/-
  What bits.Len64, bits.Len and poly.degree return: for every uint64 how many bits it has (one less for the degree). Conditions: none but the kind's own bounds.
-/
namespace Go.Proofs.Ytnmdfdkagkpcaaa
open Go.RowKit
open Go.Proofs

theorem tab_size : Lib.len8tab.size = 256 := by decide +kernel

theorem tab_all : ∀ n : Fin 256, ((Lib.len8tab[n.val]?).map UInt8.toNat) = some (WoolMath.blen n.val) := by decide +kernel

theorem tab_get (n : Nat) (h : n < Lib.len8tab.size) : (Lib.len8tab[n]'h).toNat = WoolMath.blen n := by
  have e := tab_all ⟨n, by rw [← tab_size]; exact h⟩
  simp only [getElem?_pos Lib.len8tab n h, Option.map_some, Option.some.injEq] at e
  exact e

theorem blen_shift (k : Nat) : ∀ x : Nat, 2 ^ k ≤ x → WoolMath.blen x = k + WoolMath.blen (x / 2 ^ k) := by
  induction k with
  | zero => intro x _; simp
  | succ k ih =>
    intro x h
    rw [Nat.pow_succ] at h
    have hp : 0 < 2 ^ k := Nat.pow_pos (by omega)
    rw [WoolMath.blen_half x (by omega), ih (x / 2) (by omega), Nat.div_div_eq_div_mul, Nat.pow_succ, Nat.mul_comm 2]
    omega

theorem len_close (k : Nat) (x y : Int) (hx1 : x ≤ 18446744073709551615) (h : y.toNat < Lib.len8tab.size)
    (hy : y.toNat = x.toNat / 2 ^ k) (hk : k = 0 ∨ 2 ^ k ≤ x.toNat) :
    (k : Int) + ((Lib.len8tab[y.toNat]'h).toNat : Int) = (WoolMath.blen x.toNat : Int) ∧ WoolMath.blen x.toNat ≤ 64 := by
  have h64 : x.toNat < 2 ^ 64 := by omega
  have hl := WoolMath.blen_le x.toNat 64 h64
  refine ⟨?_, hl⟩
  rw [tab_get, hy]
  rcases hk with rfl | hk
  · simp
  · rw [blen_shift k _ hk]; omega

theorem len_wrap (k : Nat) (x y : Int) (hx1 : x ≤ 18446744073709551615) (h : y.toNat < Lib.len8tab.size)
    (hy : y.toNat = x.toNat / 2 ^ k) (hk : k = 0 ∨ 2 ^ k ≤ x.toNat) :
    Ending.returned (.int .i64 (wrap64 ((k : Int) + wrap64 ((Lib.len8tab[y.toNat]'h).toNat : Int)))) = .returned (.int .i64 (WoolMath.blen x.toNat : Int)) := by
  obtain ⟨e, l⟩ := len_close k x y hx1 h hy hk
  have e1 : wrap64 ((Lib.len8tab[y.toNat]'h).toNat : Int) = ((Lib.len8tab[y.toNat]'h).toNat : Int) := by
    unfold wrap64; omega
  rw [e1, e]
  have e2 : wrap64 (WoolMath.blen x.toNat : Int) = (WoolMath.blen x.toNat : Int) := by unfold wrap64; omega
  rw [e2]

theorem len_wrap0 (x : Int) (hx1 : x ≤ 18446744073709551615) (h : x.toNat < Lib.len8tab.size) :
    Ending.returned (.int .i64 (wrap64 (wrap64 ((Lib.len8tab[x.toNat]'h).toNat : Int)))) = .returned (.int .i64 (WoolMath.blen x.toNat : Int)) := by
  have := len_wrap 0 x x hx1 h (by simp) (.inl rfl)
  simpa using this

set_option maxHeartbeats 4000000 in
set_option maxRecDepth 100000 in
theorem len64 (x : Int) (w : World) (h0 : 0 ≤ x) (h1 : x ≤ 18446744073709551615) :
    Calls Try.prog 109 #[.int .u64 x] w fun e w' => e = .returned (.int .i64 (WoolMath.blen x.toNat)) ∧ w = w' := by
  have hz : (Lib.len8tab.size : Int) = 256 := by rw [tab_size]; rfl
  go_enter Try.func109, Try.ntmps109
  go_wp2
  all_goals go_ret
  · exact ⟨len_wrap 56 x _ h1 _ (by omega) (.inr (by omega)), rfl⟩
  · exact ⟨len_wrap 48 x _ h1 _ (by omega) (.inr (by omega)), rfl⟩
  · exact ⟨len_wrap 40 x _ h1 _ (by omega) (.inr (by omega)), rfl⟩
  · exact ⟨len_wrap 32 x _ h1 _ (by omega) (.inr (by omega)), rfl⟩
  · exact ⟨len_wrap 24 x _ h1 _ (by omega) (.inr (by omega)), rfl⟩
  · exact ⟨len_wrap 16 x _ h1 _ (by omega) (.inr (by omega)), rfl⟩
  · exact ⟨len_wrap 8 x _ h1 _ (by omega) (.inr (by omega)), rfl⟩
  · exact ⟨len_wrap0 x h1 _, rfl⟩

/-- poly.degree: one less than the bits -/
theorem degree_any (x : Int) (w : World) (h0 : 0 ≤ x) (h1 : x ≤ 18446744073709551615) :
    Calls Try.prog 108 #[.int .u64 x] w fun e w' => e = .returned (.int .i64 ((WoolMath.blen x.toNat : Int) - 1)) ∧ w = w' := by
  have hl := WoolMath.blen_le x.toNat 64 (by omega)
  go_enter Try.func108, Try.ntmps108
  go_wp2_with (go_at_call 109; refine (len64 _ _ h0 h1).mono ?_; rintro e w' ⟨rfl, rfl⟩)
  go_ret
  exact ⟨rfl, rfl⟩

end Go.Proofs.Ytnmdfdkagkpcaaa

/-
  What poly.product, poly.divide and poly.remainder return: the product without carries of two numbers below 2^31; quotient and remainder of a number below 2^62 by one below 2^31 that is not 0.
-/
namespace Go.Proofs.Ytnmdfdkagkpcaaa
open Go.RowKit
open Go.Proofs

theorem and_one (B : Nat) (h : B < 18446744073709551616) : bits .and .u64 (B : Int) 1 = ((B % 2 : Nat) : Int) := by
  have := u64_and_nat B 1 h (by omega)
  rw [nat_mask1] at this
  exact this

theorem wrap_nat (n : Nat) (h : n < 18446744073709551616) : IntKind.u64.wrap (n : Int) = n := by rw [IntKind.wrap_u64]; omega

theorem pow_cast (s : Nat) : (2 : Int) ^ s = ((2 ^ s : Nat) : Int) := by rw [Int.natCast_pow]; rfl

def ProdRel (M : Nat) (a b p : Value) : Prop :=
  ∃ k A B P : Nat, k ≤ 31 ∧ A < 2 ^ (31 + k) ∧ B < 2 ^ (31 - k) ∧ P < 2 ^ 62 ∧ P ^^^ WoolMath.mul A B = M ∧ a = .int .u64 A ∧ b = .int .u64 B ∧ p = .int .u64 P

theorem prod_turn (M k A B P : Nat) (hk : k ≤ 31) (hA : A < 2 ^ (31 + k)) (hB : B < 2 ^ (31 - k)) (hP : P < 2 ^ 62) (hM : P ^^^ WoolMath.mul A B = M) (h0 : B ≠ 0) (p : Value)
    (hp : p = .int .u64 ((if B % 2 = 1 then P ^^^ A else P : Nat) : Int)) :
    ProdRel M (.int .u64 ((A * 2 : Nat) : Int)) (.int .u64 ((B / 2 : Nat) : Int)) p := by
  have hk1 : k < 31 := by
    apply Nat.lt_of_not_le
    intro h
    have : k = 31 := by omega
    subst this
    simp at hB; omega
  have e : 31 - k = (31 - (k + 1)) + 1 := by omega
  refine ⟨k + 1, A * 2, B / 2, if B % 2 = 1 then P ^^^ A else P, by omega, ?_, ?_, ?_, ?_, rfl, rfl, hp⟩
  · rw [← Nat.add_assoc, Nat.pow_succ]; omega
  · rw [e, Nat.pow_succ] at hB; omega
  · split
    · exact Nat.xor_lt_two_pow hP (Nat.lt_of_lt_of_le hA (Nat.pow_le_pow_right (by omega) (by omega)))
    · exact hP
  · rw [← hM, WoolMath.mul_step A B, Nat.mul_comm A 2, WoolMath.even_mul]
    split
    · rw [Nat.xor_assoc]
    · rw [Nat.zero_xor]

set_option maxRecDepth 100000 in
set_option maxHeartbeats 400000 in
theorem product_any (a b : Int) (w : World) (h0 : 0 ≤ a) (h1 : a < 2147483648) (h2 : 0 ≤ b) (h3 : b < 2147483648) :
    Calls Try.prog 106 #[.int .u64 a, .int .u64 b] w fun e w' => e = .returned (.int .u64 (WoolMath.mul a.toNat b.toNat)) ∧ w = w' := by
  obtain ⟨A0, rfl⟩ := Int.eq_ofNat_of_zero_le h0
  obtain ⟨B0, rfl⟩ := Int.eq_ofNat_of_zero_le h2
  rw [Int.toNat_natCast, Int.toNat_natCast]
  go_enter Try.func106, Try.ntmps106
  go_wp2
  go_loop [0, 1, 5] (fun a b p => ProdRel (WoolMath.mul A0 B0) a b p) (fun _ b _ => (intOf b).toNat)
  case atStart => exact ⟨0, A0, B0, 0, by omega, by omega, by omega, by omega, by rw [Nat.zero_xor], rfl, rfl, rfl⟩
  case round =>
    obtain ⟨k, A, B, P, hk, hA, hB, hP, hM, rfl, rfl, rfl⟩ := hrel
    have hA' : A < 4611686018427387904 := Nat.lt_of_lt_of_le hA (Nat.pow_le_pow_right (n := 2) (j := 62) (by omega) (by omega))
    have hB' : B < 2147483648 := Nat.lt_of_lt_of_le hB (Nat.pow_le_pow_right (n := 2) (j := 31) (by omega) (by omega))
    have hP' : P < 4611686018427387904 := hP
    by_cases hz : B = 0
    · subst hz
      rw [WoolMath.mul_zero, Nat.xor_zero] at hM
      subst hM
      clear hA hB hP
      go_wp2
      go_ret
      exact ⟨rfl, rfl⟩
    · have ht := prod_turn _ k A B P hk hA hB hP hM hz
      have hb := and_one B (by omega)
      have hz' : ((B : Int) != 0) = true := by rw [bne_iff_ne]; omega
      have hx := u64_xor_nat P A (by omega) (by omega)
      have HX := Lib.hid hx
      clear hM hA hB hP hk hx
      by_cases ho : B % 2 = 1
      · have hb' : (bits .and .u64 (B : Int) 1 == 1) = true := by rw [hb, ho]; rfl
        rw [if_pos ho] at ht
        have H := Lib.hid ht
        have HZ := Lib.hid hz
        clear hb ho ht hz
        go_wp2
        go_round
        case rel => rw [HX.out]; exact H.out _ rfl
        case measure => have := HZ.out; simp only [intOf]; omega
      · have hb' : (bits .and .u64 (B : Int) 1 == 1) = false := by
          rw [hb]
          have : B % 2 = 0 := by omega
          rw [this]; rfl
        rw [if_neg ho] at ht
        have H := Lib.hid ht
        have HZ := Lib.hid hz
        clear hb ho ht hz
        go_wp2
        go_round
        case rel => exact H.out _ rfl
        case measure => have := HZ.out; simp only [intOf]; omega

/-! ytnmdfdkagkpcaaa# division -/

def DivRel (a0 b : Nat) (a q s : Value) : Prop :=
  ∃ R Q : Nat, R < 2 ^ 62 ∧ Q < 2 ^ 62 ∧ a0 = WoolMath.mul Q b ^^^ R ∧ (∀ i, i + WoolMath.blen b ≤ WoolMath.blen R → Q.testBit i = false) ∧
    a = .int .u64 R ∧ q = .int .u64 Q ∧ s = .int .i64 ((WoolMath.blen R : Int) - WoolMath.blen b)

theorem div_turn (a0 b R Q s : Nat) (hb : b ≠ 0) (hR : R < 2 ^ 62) (hQ : Q < 2 ^ 62) (h : a0 = WoolMath.mul Q b ^^^ R)
    (hi : ∀ i, i + WoolMath.blen b ≤ WoolMath.blen R → Q.testBit i = false) (hs : s + WoolMath.blen b = WoolMath.blen R) :
    (R ^^^ (b <<< s)) < 2 ^ 62 ∧ (Q ||| 2 ^ s) < 2 ^ 62 ∧ WoolMath.blen (R ^^^ (b <<< s)) < WoolMath.blen R ∧
    ∀ v, v = .int .i64 ((WoolMath.blen (R ^^^ (b <<< s)) : Int) - WoolMath.blen b) →
      DivRel a0 b (.int .u64 ((R ^^^ (b <<< s) : Nat) : Int)) (.int .u64 ((Q ||| 2 ^ s : Nat) : Int)) v := by
  have hl := WoolMath.blen_le R 62 hR
  have e : s = WoolMath.blen R - WoolMath.blen b := by omega
  have hbl : 1 ≤ WoolMath.blen b := by rw [WoolMath.blen_pos b hb]; omega
  obtain ⟨t1, t2⟩ := WoolMath.turn_blen R b hb (by omega)
  rw [← e] at t1 t2
  have hq : Q.testBit s = false := hi s (by omega)
  have r1 : (R ^^^ (b <<< s)) < 2 ^ 62 := Nat.lt_of_lt_of_le t2 (Nat.pow_le_pow_right (by omega) hl)
  have r2 : (Q ||| 2 ^ s) < 2 ^ 62 := Nat.or_lt_two_pow hQ (Nat.pow_lt_pow_right (by omega) (by omega))
  refine ⟨r1, r2, t1, fun v hv => ⟨_, _, r1, r2, ?_, ?_, rfl, rfl, hv⟩⟩
  · rw [WoolMath.or_bit Q s hq, WoolMath.xor_mul, WoolMath.mul_comm (2 ^ s), ← WoolMath.mul_shift, h, Nat.xor_comm R, Nat.xor_assoc, WoolMath.xor_cancel_left]
  · intro i hle
    rw [Nat.testBit_or, hi i (by omega), Nat.testBit_two_pow]
    have : s ≠ i := by omega
    simp [this]

set_option maxRecDepth 100000 in
set_option maxHeartbeats 400000 in
theorem divide_any (a b : Int) (w : World) (h0 : 0 ≤ a) (h1 : a < 4611686018427387904) (h2 : 0 < b) (h3 : b < 2147483648) :
    Calls Try.prog 107 #[.int .u64 a, .int .u64 b] w fun e w' => e = .returned (.tuple #[.int .u64 (WoolMath.pdiv a.toNat b.toNat), .int .u64 (WoolMath.pmod a.toNat b.toNat)]) ∧ w = w' := by
  obtain ⟨A0, rfl⟩ := Int.eq_ofNat_of_zero_le h0
  obtain ⟨B0, rfl⟩ := Int.eq_ofNat_of_zero_le (show 0 ≤ b by omega)
  rw [Int.toNat_natCast, Int.toNat_natCast]
  have hb0 : B0 ≠ 0 := by omega
  have hbl := WoolMath.blen_le B0 31 (by omega)
  have hal := WoolMath.blen_le A0 62 (by omega)
  have HB := Lib.hid hb0
  clear hb0
  go_enter Try.func107, Try.ntmps107
  go_wp2_with (go_at_call 108; refine (degree_any _ _ (by omega) (by omega)).mono ?_; rintro e w' ⟨rfl, rfl⟩; rw [Int.toNat_natCast])
  go_loop [0, 4, 7] (fun a q s => DivRel A0 B0 a q s) (fun a _ _ => WoolMath.blen (intOf a).toNat)
  case atStart =>
    refine ⟨A0, 0, by omega, by omega, by rw [WoolMath.zero_mul, Nat.zero_xor], fun i _ => Nat.zero_testBit i, rfl, rfl, ?_⟩
    congr 1; omega
  case round =>
    obtain ⟨R, Q, hR, hQ, hq, hi, rfl, rfl, hs⟩ := hrel
    have hR' : R < 4611686018427387904 := hR
    have hQ' : Q < 4611686018427387904 := hQ
    have hrl := WoolMath.blen_le R 62 hR
    by_cases hlt : WoolMath.blen R < WoolMath.blen B0
    · subst hs
      have hr := WoolMath.lt_of_blen R B0 HB.out hlt
      have e1 := WoolMath.pdiv_of A0 B0 Q R HB.out hq hr
      have e2 := WoolMath.pmod_of A0 B0 Q R HB.out hq hr
      have fin : Ending.returned (.tuple #[.int .u64 (Q : Int), .int .u64 (R : Int)]) = .returned (.tuple #[.int .u64 (WoolMath.pdiv A0 B0 : Int), .int .u64 (WoolMath.pmod A0 B0 : Int)]) := by rw [e1, e2]
      have FIN := Lib.hid fin
      have d1 : decide ((0 : Int) ≤ (WoolMath.blen R : Int) - WoolMath.blen B0) = false := by rw [decide_eq_false_iff_not]; omega
      have d2 : decide (WoolMath.blen B0 ≤ WoolMath.blen R) = false := by rw [decide_eq_false_iff_not]; omega
      clear hr e1 e2 hi hq hR hQ fin
      go_wp2
      go_ret2
      exact ⟨FIN.out, rfl⟩
    · obtain ⟨s, hs'⟩ : ∃ s : Nat, s + WoolMath.blen B0 = WoolMath.blen R := ⟨WoolMath.blen R - WoolMath.blen B0, by omega⟩
      have es : (WoolMath.blen R : Int) - WoolMath.blen B0 = (s : Int) := by omega
      rw [es] at hs
      subst hs
      obtain ⟨r1, r2, r3, r4⟩ := div_turn A0 B0 R Q s HB.out hR hQ hq hi hs'
      have hs62 : s ≤ 61 := by have := WoolMath.blen_pos B0 HB.out; omega
      have hsh : B0 <<< s < 2 ^ 62 := by
        have := Nat.xor_lt_two_pow hR r1
        rwa [WoolMath.xor_cancel_left] at this
      have hw1 : IntKind.u64.wrap ((B0 : Int) * 2 ^ s) = ((B0 <<< s : Nat) : Int) := by
        rw [pow_cast, ← Int.natCast_mul, ← Nat.shiftLeft_eq]
        exact wrap_nat _ (by omega)
      have hp2 : 2 ^ s < 2 ^ 62 := Nat.pow_lt_pow_right (by omega) (by omega)
      have hw2 : IntKind.u64.wrap (2 ^ s) = ((2 ^ s : Nat) : Int) := by
        rw [pow_cast]
        exact wrap_nat _ (Nat.lt_of_lt_of_le hp2 (by decide))
      have hx : bits .xor .u64 (R : Int) (IntKind.u64.wrap ((B0 : Int) * 2 ^ s)) = ((R ^^^ (B0 <<< s) : Nat) : Int) := by
        rw [hw1]; exact u64_xor_nat _ _ (by omega) (by omega)
      have ho : bits .or .u64 (Q : Int) (IntKind.u64.wrap (2 ^ s)) = ((Q ||| 2 ^ s : Nat) : Int) := by
        rw [hw2]; exact u64_or_nat _ _ (by omega) (Nat.lt_of_lt_of_le hp2 (by decide))
      generalize R ^^^ (B0 <<< s) = X at *
      generalize Q ||| 2 ^ s = Y at *
      have R4 := Lib.hid r4
      have HS := Lib.hid hs'
      have hX : X < 4611686018427387904 := r1
      have hxl := WoolMath.blen_le X 62 hX
      clear es hi hq hR hQ r4 hs' hw1 hw2 hp2 hsh r1 r2
      go_wp2_with (go_at_call 108; refine (degree_any _ _ (by omega) (by omega)).mono ?_; rintro e w' ⟨rfl, rfl⟩; rw [Int.toNat_natCast])
      go_round
      case rel => exact R4.out _ (by congr 1; omega)
      case measure => simp only [intOf, Int.toNat_natCast]; omega

theorem remainder_any (a b : Int) (w : World) (h0 : 0 ≤ a) (h1 : a < 4611686018427387904) (h2 : 0 < b) (h3 : b < 2147483648) :
    Calls Try.prog 105 #[.int .u64 a, .int .u64 b] w fun e w' => e = .returned (.int .u64 (WoolMath.pmod a.toNat b.toNat)) ∧ w = w' := by
  go_enter Try.func105, Try.ntmps105
  go_wp2_with (go_at_call 107; refine (divide_any _ _ _ h0 h1 h2 h3).mono ?_; rintro e w' ⟨rfl, rfl⟩)
  go_ret
  exact ⟨rfl, rfl⟩

end Go.Proofs.Ytnmdfdkagkpcaaa

/-
  What the functions of package poly return, at every argument: the error of Check for the first argument that is no polynomial, else what the plain mathematics says. Conditions: the arguments are ints.
-/
namespace Go.Proofs.Ytnmdfdkagkpcaaa
open Go.RowKit
open Go.Proofs

/-- is a number a polynomial? -/
def okP (a : Int) : Prop := 0 ≤ a ∧ a ≤ 2147483647

theorem check_ok (a : Int) (w : World) (h0 : 0 ≤ a) (h1 : a ≤ 2147483647) :
    Calls Try.prog 100 #[.int .i64 a] w fun e w' => e = .returned (.int .i64 0) ∧ w = w' := by
  have d1 : decide (a < 0) = false := by rw [decide_eq_false_iff_not]; omega
  have d2 : decide (2147483647 < a) = false := by rw [decide_eq_false_iff_not]; omega
  go_enter Try.func100, Try.ntmps100
  go_wp2
  go_ret
  exact ⟨rfl, rfl⟩

theorem check_bad (a : Int) (w : World) (h : a < 0 ∨ 2147483647 < a) :
    Calls Try.prog 100 #[.int .i64 a] w fun e w' => e = .returned (.int .i64 1) ∧ w = w' := by
  by_cases h0 : a < 0
  · have d1 : decide (a < 0) = true := by rw [decide_eq_true_iff]; omega
    go_enter Try.func100, Try.ntmps100
    go_wp2
    go_ret
    exact ⟨rfl, rfl⟩
  · have d1 : decide (a < 0) = false := by rw [decide_eq_false_iff_not]; omega
    have d2 : decide (2147483647 < a) = true := by rw [decide_eq_true_iff]; omega
    go_enter Try.func100, Try.ntmps100
    go_wp2
    go_ret
    exact ⟨rfl, rfl⟩

/-- a row of numbers in memory, from a block's first cell -/
def Row (w : World) (b : Nat) (zs : List Int) : Prop := ∀ i, i < zs.length → w.cell? ⟨b, i, none⟩ = some (.int .i64 (zs[i]?.getD 0))

/-- each of them is a polynomial -/
def AllP (zs : List Int) : Prop := ∀ j, j < zs.length → 0 ≤ zs[j]?.getD 0 ∧ zs[j]?.getD 0 ≤ 2147483647

def ChkRel (zs : List Int) (i : Value) : Prop := ∃ k : Nat, k ≤ zs.length ∧ i = .int .i64 k ∧ ∀ j, j < k → 0 ≤ zs[j]?.getD 0 ∧ zs[j]?.getD 0 ≤ 2147483647

set_option maxRecDepth 100000 in
theorem checkAll_ok (zs : List Int) (b : Nat) (n : Nat) (w : World) (hn : n ≤ 1000) (hL : zs.length = n) (hr : Row w b zs) (hall : AllP zs) :
    Calls Try.prog 104 #[.slice (some ⟨b, 0, none⟩) n n] w fun e w' => e = .returned (.int .i64 0) ∧ w = w' := by
  have HR := Lib.hid hr
  have HA := Lib.hid hall
  have HL := Lib.hid hL
  clear hr hall hL
  go_enter Try.func104, Try.ntmps104
  go_wp2
  go_loop [8] (fun i => ∃ k : Nat, k ≤ n ∧ i = .int .i64 k) (fun i => n - (intOf i).toNat)
  case atStart => exact ⟨0, by omega, rfl⟩
  case round =>
    obtain ⟨k, hk, rfl⟩ := hrel
    by_cases hlt : k < n
    · have hc := HR.out k (by rw [HL.out]; exact hlt)
      have ha := HA.out k (by rw [HL.out]; exact hlt)
      obtain ⟨ha0, ha1⟩ := ha
      generalize zs[k]?.getD 0 = z at *
      go_wp2_with (go_at_call 100; refine (check_ok _ _ ha0 ha1).mono ?_; rintro e w' ⟨rfl, rfl⟩)
      go_round
      case rel => exact ⟨k + 1, by omega, by go_num⟩
      case measure => simp [intOf]; omega
    · have d : decide (k < n) = false := by rw [decide_eq_false_iff_not]; omega
      go_wp2
      go_ret
      exact ⟨rfl, rfl⟩

set_option maxRecDepth 100000 in
theorem checkAll_bad (zs : List Int) (b : Nat) (n : Nat) (w : World) (hn : n ≤ 1000) (hL : zs.length = n) (hr : Row w b zs) (hall : ¬ AllP zs) :
    Calls Try.prog 104 #[.slice (some ⟨b, 0, none⟩) n n] w fun e w' => e = .returned (.int .i64 1) ∧ w = w' := by
  have HR := Lib.hid hr
  have HA := Lib.hid hall
  have HL := Lib.hid hL
  clear hr hall hL
  go_enter Try.func104, Try.ntmps104
  go_wp2
  go_loop [8] (fun i => ChkRel zs i) (fun i => n - (intOf i).toNat)
  case atStart => exact ⟨0, by omega, rfl, fun j hj => by omega⟩
  case round =>
    obtain ⟨k, hk, rfl, hj⟩ := hrel
    rw [HL.out] at hk
    have HJ := Lib.hid hj
    clear hj
    by_cases hlt : k < n
    · have hc := HR.out k (by rw [HL.out]; exact hlt)
      by_cases hb : 0 ≤ zs[k]?.getD 0 ∧ zs[k]?.getD 0 ≤ 2147483647
      · have hnext : ChkRel zs (.int .i64 ((k + 1 : Nat) : Int)) := ⟨k + 1, by rw [HL.out]; omega, rfl, fun j hj => by
          by_cases e : j = k
          · subst e; exact hb
          · exact HJ.out j (by omega)⟩
        have HN := Lib.hid hnext
        obtain ⟨ha0, ha1⟩ := hb
        clear hnext
        generalize zs[k]?.getD 0 = z at *
        go_wp2_with (go_at_call 100; refine (check_ok _ _ ha0 ha1).mono ?_; rintro e w' ⟨rfl, rfl⟩)
        go_round
        case rel => exact HN.out
        case measure => simp [intOf]; omega
      · have hb' : zs[k]?.getD 0 < 0 ∨ 2147483647 < zs[k]?.getD 0 := by omega
        have HB := Lib.hid hb'
        clear hb hb'
        generalize zs[k]?.getD 0 = z at *
        go_wp2_with (go_at_call 100; refine (check_bad _ _ HB.out).mono ?_; rintro e w' ⟨rfl, rfl⟩)
        go_ret
        exact ⟨rfl, rfl⟩
    · exfalso
      have : k = n := by omega
      subst this
      exact HA.out (fun j hj => HJ.out j (by rw [← HL.out]; exact hj))

/-! ytnmdfdkagkpcaaa# Deg, Add, Mul -/

theorem conv_u64 (a : Int) (h0 : 0 ≤ a) (h1 : a ≤ 2147483647) : IntKind.u64.wrap a = a := by rw [IntKind.wrap_u64]; omega

theorem row2 (w : World) (a b : Int) (t : TypeId) : Row (w.alloc (.cells #[.int .i64 a, .int .i64 b] t)) w.heap.size [a, b] := by
  intro i hi
  simp at hi
  match i, hi with
  | 0, _ => go_simp
  | 1, _ => go_simp

theorem ofInt64 (a : Nat) (ha : a < 9223372036854775808) : (BitVec.ofInt 64 (a : Int)).toNat = a := by
  rw [BitVec.ofInt_natCast, BitVec.toNat_ofNat]; exact Nat.mod_eq_of_lt (by omega)

theorem wrap_i64_nat (n : Nat) (h : n < 9223372036854775808) : IntKind.i64.wrap (n : Int) = n := by
  simp only [IntKind.wrap, IntKind.bits, IntKind.signed]
  simp
  omega

theorem i64_xor_nat (a b : Nat) (ha : a < 9223372036854775808) (hb : b < 9223372036854775808) : bits .xor .i64 (a : Int) (b : Int) = ((a ^^^ b : Nat) : Int) := by
  have hx : a ^^^ b < 2 ^ 63 := Nat.xor_lt_two_pow (by omega) (by omega)
  show IntKind.i64.wrap ((BitVec.ofInt 64 (a : Int) ^^^ BitVec.ofInt 64 (b : Int)).toNat : Int) = _
  rw [BitVec.toNat_xor, ofInt64 a ha, ofInt64 b hb]
  exact wrap_i64_nat _ hx

theorem i64_and_nat (a b : Nat) (ha : a < 9223372036854775808) (hb : b < 9223372036854775808) : bits .and .i64 (a : Int) (b : Int) = ((a &&& b : Nat) : Int) := by
  have hx : a &&& b < 2 ^ 63 := Nat.and_lt_two_pow _ (by omega)
  show IntKind.i64.wrap ((BitVec.ofInt 64 (a : Int) &&& BitVec.ofInt 64 (b : Int)).toNat : Int) = _
  rw [BitVec.toNat_and, ofInt64 a ha, ofInt64 b hb]
  exact wrap_i64_nat _ hx

theorem i64_xor_int (a b : Int) (h0 : 0 ≤ a) (h1 : a ≤ 2147483647) (h2 : 0 ≤ b) (h3 : b ≤ 2147483647) : bits .xor .i64 a b = ((a.toNat ^^^ b.toNat : Nat) : Int) := by
  have := i64_xor_nat a.toNat b.toNat (by omega) (by omega)
  rwa [Int.toNat_of_nonneg h0, Int.toNat_of_nonneg h2] at this

theorem all2 (a b : Int) (h0 : 0 ≤ a) (h1 : a ≤ 2147483647) (h2 : 0 ≤ b) (h3 : b ≤ 2147483647) : AllP [a, b] := by
  intro j hj
  simp at hj
  match j, hj with
  | 0, _ => exact ⟨h0, h1⟩
  | 1, _ => exact ⟨h2, h3⟩

theorem bad2 (a b : Int) (h : a < 0 ∨ 2147483647 < a ∨ b < 0 ∨ 2147483647 < b) : ¬ AllP [a, b] := by
  intro hall
  have x0 : 0 ≤ a ∧ a ≤ 2147483647 := hall 0 (by simp)
  have x1 : 0 ≤ b ∧ b ≤ 2147483647 := hall 1 (by simp)
  omega

theorem row3 (w : World) (a b c : Int) (t : TypeId) : Row (w.alloc (.cells #[.int .i64 a, .int .i64 b, .int .i64 c] t)) w.heap.size [a, b, c] := by
  intro i hi
  simp at hi
  match i, hi with
  | 0, _ => go_simp
  | 1, _ => go_simp
  | 2, _ => go_simp

theorem all3 (a b c : Int) (h0 : 0 ≤ a) (h1 : a ≤ 2147483647) (h2 : 0 ≤ b) (h3 : b ≤ 2147483647) (h4 : 0 ≤ c) (h5 : c ≤ 2147483647) : AllP [a, b, c] := by
  intro j hj
  simp at hj
  match j, hj with
  | 0, _ => exact ⟨h0, h1⟩
  | 1, _ => exact ⟨h2, h3⟩
  | 2, _ => exact ⟨h4, h5⟩

theorem bad3 (a b c : Int) (h : a < 0 ∨ 2147483647 < a ∨ b < 0 ∨ 2147483647 < b ∨ c < 0 ∨ 2147483647 < c) : ¬ AllP [a, b, c] := by
  intro hall
  have x0 : 0 ≤ a ∧ a ≤ 2147483647 := hall 0 (by simp)
  have x1 : 0 ≤ b ∧ b ≤ 2147483647 := hall 1 (by simp)
  have x2 : 0 ≤ c ∧ c ≤ 2147483647 := hall 2 (by simp)
  omega

/-- the product fits -/
theorem mul_fits (a b : Nat) (ha : a ≤ 2147483647) (hb : b ≤ 2147483647) : WoolMath.mul a b < 2305843009213693952 :=
  WoolMath.mul_lt a b 31 30 (by omega) (by omega)

end Go.Proofs.Ytnmdfdkagkpcaaa
