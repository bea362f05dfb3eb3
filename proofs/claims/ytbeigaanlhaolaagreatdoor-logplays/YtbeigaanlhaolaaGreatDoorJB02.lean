/-
  The texts Len, Arith, Poly, Poly2, Within, Keep, Math2, Prime, Facts, one behind the other; each says below what it holds and on what conditions.
-/
import Derived.Test.YtbeigaanlhaolaaGreatDoorChecked
import Derived.Test.YtbeigaanlhaolaaGreatDoorJB01
import Derived.WalkKit
import Derived.WalkSpells
import Derived.Lib.Walk
import Derived.Lib.Tables
import Derived.Lib.Hide
import Derived.Laws.BitsAllLaws
import Derived.Below
import Derived.OwnWalk
import Derived.Laws.OwnMore
import Derived.BigRegion
import Derived.BigQuiet

/-
  What bits.Len64, bits.Len and poly.degree return: for every uint64 how many bits it has (one less for the degree). Conditions: none but the kind's own bounds.
-/
namespace Go.Proofs.YtbeigaanlhaolaaGreatDoor
open Go.RowKit
open Go.Proofs

theorem tab_size : Lib.len8tab.size = 256 := by decide +kernel

theorem tab_all : ∀ n : Fin 256, ((Lib.len8tab[n.val]?).map UInt8.toNat) = some (WoolMath.blen n.val) := by decide +kernel

theorem tab_get (n : Nat) (h : n < Lib.len8tab.size) : (Lib.len8tab[n]'h).toNat = WoolMath.blen n := by
  have e := tab_all ⟨n, by rw [← tab_size]; exact h⟩
  simp only [getElem?_pos Lib.len8tab n h, Option.map_some, Option.some.injEq] at e
  exact e

theorem blen_shift (k : Nat) : ∀ x : Nat, 2 ^ k ≤ x → WoolMath.blen x = k + WoolMath.blen (x / 2 ^ k) := by
  induction k with
  | zero => intro x _; simp
  | succ k ih =>
    intro x h
    rw [Nat.pow_succ] at h
    have hp : 0 < 2 ^ k := Nat.pow_pos (by omega)
    rw [WoolMath.blen_half x (by omega), ih (x / 2) (by omega), Nat.div_div_eq_div_mul, Nat.pow_succ, Nat.mul_comm 2]
    omega

theorem len_close (k : Nat) (x y : Int) (hx1 : x ≤ 18446744073709551615) (h : y.toNat < Lib.len8tab.size)
    (hy : y.toNat = x.toNat / 2 ^ k) (hk : k = 0 ∨ 2 ^ k ≤ x.toNat) :
    (k : Int) + ((Lib.len8tab[y.toNat]'h).toNat : Int) = (WoolMath.blen x.toNat : Int) ∧ WoolMath.blen x.toNat ≤ 64 := by
  have h64 : x.toNat < 2 ^ 64 := by omega
  have hl := WoolMath.blen_le x.toNat 64 h64
  refine ⟨?_, hl⟩
  rw [tab_get, hy]
  rcases hk with rfl | hk
  · simp
  · rw [blen_shift k _ hk]; omega

theorem len_wrap (k : Nat) (x y : Int) (hx1 : x ≤ 18446744073709551615) (h : y.toNat < Lib.len8tab.size)
    (hy : y.toNat = x.toNat / 2 ^ k) (hk : k = 0 ∨ 2 ^ k ≤ x.toNat) :
    Ending.returned (.int .i64 (wrap64 ((k : Int) + wrap64 ((Lib.len8tab[y.toNat]'h).toNat : Int)))) = .returned (.int .i64 (WoolMath.blen x.toNat : Int)) := by
  obtain ⟨e, l⟩ := len_close k x y hx1 h hy hk
  have e1 : wrap64 ((Lib.len8tab[y.toNat]'h).toNat : Int) = ((Lib.len8tab[y.toNat]'h).toNat : Int) := by
    unfold wrap64; omega
  rw [e1, e]
  have e2 : wrap64 (WoolMath.blen x.toNat : Int) = (WoolMath.blen x.toNat : Int) := by unfold wrap64; omega
  rw [e2]

theorem len_wrap0 (x : Int) (hx1 : x ≤ 18446744073709551615) (h : x.toNat < Lib.len8tab.size) :
    Ending.returned (.int .i64 (wrap64 (wrap64 ((Lib.len8tab[x.toNat]'h).toNat : Int)))) = .returned (.int .i64 (WoolMath.blen x.toNat : Int)) := by
  have := len_wrap 0 x x hx1 h (by simp) (.inl rfl)
  simpa using this

set_option maxHeartbeats 4000000 in
set_option maxRecDepth 100000 in
theorem len64 (x : Int) (w : World) (h0 : 0 ≤ x) (h1 : x ≤ 18446744073709551615) :
    Calls Tryz.prog 145 #[.int .u64 x] w fun e w' => e = .returned (.int .i64 (WoolMath.blen x.toNat)) ∧ w = w' := by
  have hz : (Lib.len8tab.size : Int) = 256 := by rw [tab_size]; rfl
  go_enter Tryz.func145, Tryz.ntmps145
  go_wp2
  all_goals go_ret
  · exact ⟨len_wrap 56 x _ h1 _ (by omega) (.inr (by omega)), rfl⟩
  · exact ⟨len_wrap 48 x _ h1 _ (by omega) (.inr (by omega)), rfl⟩
  · exact ⟨len_wrap 40 x _ h1 _ (by omega) (.inr (by omega)), rfl⟩
  · exact ⟨len_wrap 32 x _ h1 _ (by omega) (.inr (by omega)), rfl⟩
  · exact ⟨len_wrap 24 x _ h1 _ (by omega) (.inr (by omega)), rfl⟩
  · exact ⟨len_wrap 16 x _ h1 _ (by omega) (.inr (by omega)), rfl⟩
  · exact ⟨len_wrap 8 x _ h1 _ (by omega) (.inr (by omega)), rfl⟩
  · exact ⟨len_wrap0 x h1 _, rfl⟩

/-- poly.degree: one less than the bits -/
theorem degree_any (x : Int) (w : World) (h0 : 0 ≤ x) (h1 : x ≤ 18446744073709551615) :
    Calls Tryz.prog 159 #[.int .u64 x] w fun e w' => e = .returned (.int .i64 ((WoolMath.blen x.toNat : Int) - 1)) ∧ w = w' := by
  have hl := WoolMath.blen_le x.toNat 64 (by omega)
  go_enter Tryz.func159, Tryz.ntmps159
  go_wp2_with (go_at_call 145; refine (len64 _ _ h0 h1).mono ?_; rintro e w' ⟨rfl, rfl⟩)
  go_ret
  exact ⟨rfl, rfl⟩

end Go.Proofs.YtbeigaanlhaolaaGreatDoor

/-
  What poly.product, poly.divide and poly.remainder return: the product without carries of two numbers below 2^31; quotient and remainder of a number below 2^62 by one below 2^31 that is not 0.
-/
namespace Go.Proofs.YtbeigaanlhaolaaGreatDoor
open Go.RowKit
open Go.Proofs

theorem and_one (B : Nat) (h : B < 18446744073709551616) : bits .and .u64 (B : Int) 1 = ((B % 2 : Nat) : Int) := by
  have := u64_and_nat B 1 h (by omega)
  rw [nat_mask1] at this
  exact this

theorem wrap_nat (n : Nat) (h : n < 18446744073709551616) : IntKind.u64.wrap (n : Int) = n := by rw [IntKind.wrap_u64]; omega

theorem pow_cast (s : Nat) : (2 : Int) ^ s = ((2 ^ s : Nat) : Int) := by rw [Int.natCast_pow]; rfl

def ProdRel (M : Nat) (a b p : Value) : Prop :=
  ∃ k A B P : Nat, k ≤ 31 ∧ A < 2 ^ (31 + k) ∧ B < 2 ^ (31 - k) ∧ P < 2 ^ 62 ∧ P ^^^ WoolMath.mul A B = M ∧ a = .int .u64 A ∧ b = .int .u64 B ∧ p = .int .u64 P

theorem prod_turn (M k A B P : Nat) (hk : k ≤ 31) (hA : A < 2 ^ (31 + k)) (hB : B < 2 ^ (31 - k)) (hP : P < 2 ^ 62) (hM : P ^^^ WoolMath.mul A B = M) (h0 : B ≠ 0) (p : Value)
    (hp : p = .int .u64 ((if B % 2 = 1 then P ^^^ A else P : Nat) : Int)) :
    ProdRel M (.int .u64 ((A * 2 : Nat) : Int)) (.int .u64 ((B / 2 : Nat) : Int)) p := by
  have hk1 : k < 31 := by
    apply Nat.lt_of_not_le
    intro h
    have : k = 31 := by omega
    subst this
    simp at hB; omega
  have e : 31 - k = (31 - (k + 1)) + 1 := by omega
  refine ⟨k + 1, A * 2, B / 2, if B % 2 = 1 then P ^^^ A else P, by omega, ?_, ?_, ?_, ?_, rfl, rfl, hp⟩
  · rw [← Nat.add_assoc, Nat.pow_succ]; omega
  · rw [e, Nat.pow_succ] at hB; omega
  · split
    · exact Nat.xor_lt_two_pow hP (Nat.lt_of_lt_of_le hA (Nat.pow_le_pow_right (by omega) (by omega)))
    · exact hP
  · rw [← hM, WoolMath.mul_step A B, Nat.mul_comm A 2, WoolMath.even_mul]
    split
    · rw [Nat.xor_assoc]
    · rw [Nat.zero_xor]

set_option maxRecDepth 100000 in
set_option maxHeartbeats 400000 in
theorem product_any (a b : Int) (w : World) (h0 : 0 ≤ a) (h1 : a < 2147483648) (h2 : 0 ≤ b) (h3 : b < 2147483648) :
    Calls Tryz.prog 157 #[.int .u64 a, .int .u64 b] w fun e w' => e = .returned (.int .u64 (WoolMath.mul a.toNat b.toNat)) ∧ w = w' := by
  obtain ⟨A0, rfl⟩ := Int.eq_ofNat_of_zero_le h0
  obtain ⟨B0, rfl⟩ := Int.eq_ofNat_of_zero_le h2
  rw [Int.toNat_natCast, Int.toNat_natCast]
  go_enter Tryz.func157, Tryz.ntmps157
  go_wp2
  go_loop [0, 1, 5] (fun a b p => ProdRel (WoolMath.mul A0 B0) a b p) (fun _ b _ => (intOf b).toNat)
  case atStart => exact ⟨0, A0, B0, 0, by omega, by omega, by omega, by omega, by rw [Nat.zero_xor], rfl, rfl, rfl⟩
  case round =>
    obtain ⟨k, A, B, P, hk, hA, hB, hP, hM, rfl, rfl, rfl⟩ := hrel
    have hA' : A < 4611686018427387904 := Nat.lt_of_lt_of_le hA (Nat.pow_le_pow_right (n := 2) (j := 62) (by omega) (by omega))
    have hB' : B < 2147483648 := Nat.lt_of_lt_of_le hB (Nat.pow_le_pow_right (n := 2) (j := 31) (by omega) (by omega))
    have hP' : P < 4611686018427387904 := hP
    by_cases hz : B = 0
    · subst hz
      rw [WoolMath.mul_zero, Nat.xor_zero] at hM
      subst hM
      clear hA hB hP
      go_wp2
      go_ret
      exact ⟨rfl, rfl⟩
    · have ht := prod_turn _ k A B P hk hA hB hP hM hz
      have hb := and_one B (by omega)
      have hz' : ((B : Int) != 0) = true := by rw [bne_iff_ne]; omega
      have hx := u64_xor_nat P A (by omega) (by omega)
      have HX := Lib.hid hx
      clear hM hA hB hP hk hx
      by_cases ho : B % 2 = 1
      · have hb' : (bits .and .u64 (B : Int) 1 == 1) = true := by rw [hb, ho]; rfl
        rw [if_pos ho] at ht
        have H := Lib.hid ht
        have HZ := Lib.hid hz
        clear hb ho ht hz
        go_wp2
        go_round
        case rel => rw [HX.out]; exact H.out _ rfl
        case measure => have := HZ.out; simp only [intOf]; omega
      · have hb' : (bits .and .u64 (B : Int) 1 == 1) = false := by
          rw [hb]
          have : B % 2 = 0 := by omega
          rw [this]; rfl
        rw [if_neg ho] at ht
        have H := Lib.hid ht
        have HZ := Lib.hid hz
        clear hb ho ht hz
        go_wp2
        go_round
        case rel => exact H.out _ rfl
        case measure => have := HZ.out; simp only [intOf]; omega

/-! ytbeigaanlhaolaagreatdoor# division -/

def DivRel (a0 b : Nat) (a q s : Value) : Prop :=
  ∃ R Q : Nat, R < 2 ^ 62 ∧ Q < 2 ^ 62 ∧ a0 = WoolMath.mul Q b ^^^ R ∧ (∀ i, i + WoolMath.blen b ≤ WoolMath.blen R → Q.testBit i = false) ∧
    a = .int .u64 R ∧ q = .int .u64 Q ∧ s = .int .i64 ((WoolMath.blen R : Int) - WoolMath.blen b)

theorem div_turn (a0 b R Q s : Nat) (hb : b ≠ 0) (hR : R < 2 ^ 62) (hQ : Q < 2 ^ 62) (h : a0 = WoolMath.mul Q b ^^^ R)
    (hi : ∀ i, i + WoolMath.blen b ≤ WoolMath.blen R → Q.testBit i = false) (hs : s + WoolMath.blen b = WoolMath.blen R) :
    (R ^^^ (b <<< s)) < 2 ^ 62 ∧ (Q ||| 2 ^ s) < 2 ^ 62 ∧ WoolMath.blen (R ^^^ (b <<< s)) < WoolMath.blen R ∧
    ∀ v, v = .int .i64 ((WoolMath.blen (R ^^^ (b <<< s)) : Int) - WoolMath.blen b) →
      DivRel a0 b (.int .u64 ((R ^^^ (b <<< s) : Nat) : Int)) (.int .u64 ((Q ||| 2 ^ s : Nat) : Int)) v := by
  have hl := WoolMath.blen_le R 62 hR
  have e : s = WoolMath.blen R - WoolMath.blen b := by omega
  have hbl : 1 ≤ WoolMath.blen b := by rw [WoolMath.blen_pos b hb]; omega
  obtain ⟨t1, t2⟩ := WoolMath.turn_blen R b hb (by omega)
  rw [← e] at t1 t2
  have hq : Q.testBit s = false := hi s (by omega)
  have r1 : (R ^^^ (b <<< s)) < 2 ^ 62 := Nat.lt_of_lt_of_le t2 (Nat.pow_le_pow_right (by omega) hl)
  have r2 : (Q ||| 2 ^ s) < 2 ^ 62 := Nat.or_lt_two_pow hQ (Nat.pow_lt_pow_right (by omega) (by omega))
  refine ⟨r1, r2, t1, fun v hv => ⟨_, _, r1, r2, ?_, ?_, rfl, rfl, hv⟩⟩
  · rw [WoolMath.or_bit Q s hq, WoolMath.xor_mul, WoolMath.mul_comm (2 ^ s), ← WoolMath.mul_shift, h, Nat.xor_comm R, Nat.xor_assoc, WoolMath.xor_cancel_left]
  · intro i hle
    rw [Nat.testBit_or, hi i (by omega), Nat.testBit_two_pow]
    have : s ≠ i := by omega
    simp [this]

set_option maxRecDepth 100000 in
set_option maxHeartbeats 400000 in
theorem divide_any (a b : Int) (w : World) (h0 : 0 ≤ a) (h1 : a < 4611686018427387904) (h2 : 0 < b) (h3 : b < 2147483648) :
    Calls Tryz.prog 158 #[.int .u64 a, .int .u64 b] w fun e w' => e = .returned (.tuple #[.int .u64 (WoolMath.pdiv a.toNat b.toNat), .int .u64 (WoolMath.pmod a.toNat b.toNat)]) ∧ w = w' := by
  obtain ⟨A0, rfl⟩ := Int.eq_ofNat_of_zero_le h0
  obtain ⟨B0, rfl⟩ := Int.eq_ofNat_of_zero_le (show 0 ≤ b by omega)
  rw [Int.toNat_natCast, Int.toNat_natCast]
  have hb0 : B0 ≠ 0 := by omega
  have hbl := WoolMath.blen_le B0 31 (by omega)
  have hal := WoolMath.blen_le A0 62 (by omega)
  have HB := Lib.hid hb0
  clear hb0
  go_enter Tryz.func158, Tryz.ntmps158
  go_wp2_with (go_at_call 159; refine (degree_any _ _ (by omega) (by omega)).mono ?_; rintro e w' ⟨rfl, rfl⟩; rw [Int.toNat_natCast])
  go_loop [0, 4, 7] (fun a q s => DivRel A0 B0 a q s) (fun a _ _ => WoolMath.blen (intOf a).toNat)
  case atStart =>
    refine ⟨A0, 0, by omega, by omega, by rw [WoolMath.zero_mul, Nat.zero_xor], fun i _ => Nat.zero_testBit i, rfl, rfl, ?_⟩
    congr 1; omega
  case round =>
    obtain ⟨R, Q, hR, hQ, hq, hi, rfl, rfl, hs⟩ := hrel
    have hR' : R < 4611686018427387904 := hR
    have hQ' : Q < 4611686018427387904 := hQ
    have hrl := WoolMath.blen_le R 62 hR
    by_cases hlt : WoolMath.blen R < WoolMath.blen B0
    · subst hs
      have hr := WoolMath.lt_of_blen R B0 HB.out hlt
      have e1 := WoolMath.pdiv_of A0 B0 Q R HB.out hq hr
      have e2 := WoolMath.pmod_of A0 B0 Q R HB.out hq hr
      have fin : Ending.returned (.tuple #[.int .u64 (Q : Int), .int .u64 (R : Int)]) = .returned (.tuple #[.int .u64 (WoolMath.pdiv A0 B0 : Int), .int .u64 (WoolMath.pmod A0 B0 : Int)]) := by rw [e1, e2]
      have FIN := Lib.hid fin
      have d1 : decide ((0 : Int) ≤ (WoolMath.blen R : Int) - WoolMath.blen B0) = false := by rw [decide_eq_false_iff_not]; omega
      have d2 : decide (WoolMath.blen B0 ≤ WoolMath.blen R) = false := by rw [decide_eq_false_iff_not]; omega
      clear hr e1 e2 hi hq hR hQ fin
      go_wp2
      go_ret2
      exact ⟨FIN.out, rfl⟩
    · obtain ⟨s, hs'⟩ : ∃ s : Nat, s + WoolMath.blen B0 = WoolMath.blen R := ⟨WoolMath.blen R - WoolMath.blen B0, by omega⟩
      have es : (WoolMath.blen R : Int) - WoolMath.blen B0 = (s : Int) := by omega
      rw [es] at hs
      subst hs
      obtain ⟨r1, r2, r3, r4⟩ := div_turn A0 B0 R Q s HB.out hR hQ hq hi hs'
      have hs62 : s ≤ 61 := by have := WoolMath.blen_pos B0 HB.out; omega
      have hsh : B0 <<< s < 2 ^ 62 := by
        have := Nat.xor_lt_two_pow hR r1
        rwa [WoolMath.xor_cancel_left] at this
      have hw1 : IntKind.u64.wrap ((B0 : Int) * 2 ^ s) = ((B0 <<< s : Nat) : Int) := by
        rw [pow_cast, ← Int.natCast_mul, ← Nat.shiftLeft_eq]
        exact wrap_nat _ (by omega)
      have hp2 : 2 ^ s < 2 ^ 62 := Nat.pow_lt_pow_right (by omega) (by omega)
      have hw2 : IntKind.u64.wrap (2 ^ s) = ((2 ^ s : Nat) : Int) := by
        rw [pow_cast]
        exact wrap_nat _ (Nat.lt_of_lt_of_le hp2 (by decide))
      have hx : bits .xor .u64 (R : Int) (IntKind.u64.wrap ((B0 : Int) * 2 ^ s)) = ((R ^^^ (B0 <<< s) : Nat) : Int) := by
        rw [hw1]; exact u64_xor_nat _ _ (by omega) (by omega)
      have ho : bits .or .u64 (Q : Int) (IntKind.u64.wrap (2 ^ s)) = ((Q ||| 2 ^ s : Nat) : Int) := by
        rw [hw2]; exact u64_or_nat _ _ (by omega) (Nat.lt_of_lt_of_le hp2 (by decide))
      generalize R ^^^ (B0 <<< s) = X at *
      generalize Q ||| 2 ^ s = Y at *
      have R4 := Lib.hid r4
      have HS := Lib.hid hs'
      have hX : X < 4611686018427387904 := r1
      have hxl := WoolMath.blen_le X 62 hX
      clear es hi hq hR hQ r4 hs' hw1 hw2 hp2 hsh r1 r2
      go_wp2_with (go_at_call 159; refine (degree_any _ _ (by omega) (by omega)).mono ?_; rintro e w' ⟨rfl, rfl⟩; rw [Int.toNat_natCast])
      go_round
      case rel => exact R4.out _ (by congr 1; omega)
      case measure => simp only [intOf, Int.toNat_natCast]; omega

theorem remainder_any (a b : Int) (w : World) (h0 : 0 ≤ a) (h1 : a < 4611686018427387904) (h2 : 0 < b) (h3 : b < 2147483648) :
    Calls Tryz.prog 156 #[.int .u64 a, .int .u64 b] w fun e w' => e = .returned (.int .u64 (WoolMath.pmod a.toNat b.toNat)) ∧ w = w' := by
  go_enter Tryz.func156, Tryz.ntmps156
  go_wp2_with (go_at_call 158; refine (divide_any _ _ _ h0 h1 h2 h3).mono ?_; rintro e w' ⟨rfl, rfl⟩)
  go_ret
  exact ⟨rfl, rfl⟩

end Go.Proofs.YtbeigaanlhaolaaGreatDoor

/-
  What the functions of package poly return, at every argument: the error of Check for the first argument that is no polynomial, else what the plain mathematics says. Conditions: the arguments are ints.
-/
namespace Go.Proofs.YtbeigaanlhaolaaGreatDoor
open Go.RowKit
open Go.Proofs

theorem check_ok (a : Int) (w : World) (h0 : 0 ≤ a) (h1 : a ≤ 2147483647) :
    Calls Tryz.prog 111 #[.int .i64 a] w fun e w' => e = .returned (.int .i64 0) ∧ w = w' := by
  have d1 : decide (a < 0) = false := by rw [decide_eq_false_iff_not]; omega
  have d2 : decide (2147483647 < a) = false := by rw [decide_eq_false_iff_not]; omega
  go_enter Tryz.func111, Tryz.ntmps111
  go_wp2
  go_ret
  exact ⟨rfl, rfl⟩

/-- a row of numbers in memory, from a block's first cell -/
def Row (w : World) (b : Nat) (zs : List Int) : Prop := ∀ i, i < zs.length → w.cell? ⟨b, i, none⟩ = some (.int .i64 (zs[i]?.getD 0))

/-- each of them is a polynomial -/
def AllP (zs : List Int) : Prop := ∀ j, j < zs.length → 0 ≤ zs[j]?.getD 0 ∧ zs[j]?.getD 0 ≤ 2147483647

set_option maxRecDepth 100000 in
theorem checkAll_ok (zs : List Int) (b : Nat) (n : Nat) (w : World) (hn : n ≤ 1000) (hL : zs.length = n) (hr : Row w b zs) (hall : AllP zs) :
    Calls Tryz.prog 155 #[.slice (some ⟨b, 0, none⟩) n n] w fun e w' => e = .returned (.int .i64 0) ∧ w = w' := by
  have HR := Lib.hid hr
  have HA := Lib.hid hall
  have HL := Lib.hid hL
  clear hr hall hL
  go_enter Tryz.func155, Tryz.ntmps155
  go_wp2
  go_loop [8] (fun i => ∃ k : Nat, k ≤ n ∧ i = .int .i64 k) (fun i => n - (intOf i).toNat)
  case atStart => exact ⟨0, by omega, rfl⟩
  case round =>
    obtain ⟨k, hk, rfl⟩ := hrel
    by_cases hlt : k < n
    · have hc := HR.out k (by rw [HL.out]; exact hlt)
      have ha := HA.out k (by rw [HL.out]; exact hlt)
      obtain ⟨ha0, ha1⟩ := ha
      generalize zs[k]?.getD 0 = z at *
      go_wp2_with (go_at_call 111; refine (check_ok _ _ ha0 ha1).mono ?_; rintro e w' ⟨rfl, rfl⟩)
      go_round
      case rel => exact ⟨k + 1, by omega, by go_num⟩
      case measure => simp [intOf]; omega
    · have d : decide (k < n) = false := by rw [decide_eq_false_iff_not]; omega
      go_wp2
      go_ret
      exact ⟨rfl, rfl⟩

/-! ytbeigaanlhaolaagreatdoor# Deg, Add, Mul -/

set_option maxRecDepth 100000 in
theorem deg_ok (a : Int) (w : World) (h0 : 0 ≤ a) (h1 : a ≤ 2147483647) :
    Calls Tryz.prog 114 #[.int .i64 a] w fun e w' => e = .returned (.tuple #[.int .i64 ((WoolMath.blen a.toNat : Int) - 1), .int .i64 0]) ∧ w = w' := by
  go_enter Tryz.func114, Tryz.ntmps114
  go_wp2_with (first | (go_at_call 111; refine (check_ok _ _ h0 h1).mono ?_; rintro e w' ⟨rfl, rfl⟩) | (go_at_call 159; refine (degree_any _ _ (by omega) (by omega)).mono ?_; rintro e w' ⟨rfl, rfl⟩))
  go_ret2
  exact ⟨rfl, rfl⟩

theorem row2 (w : World) (a b : Int) (t : TypeId) : Row (w.alloc (.cells #[.int .i64 a, .int .i64 b] t)) w.heap.size [a, b] := by
  intro i hi
  simp at hi
  match i, hi with
  | 0, _ => go_simp
  | 1, _ => go_simp

theorem ofInt64 (a : Nat) (ha : a < 9223372036854775808) : (BitVec.ofInt 64 (a : Int)).toNat = a := by
  rw [BitVec.ofInt_natCast, BitVec.toNat_ofNat]; exact Nat.mod_eq_of_lt (by omega)

theorem wrap_i64_nat (n : Nat) (h : n < 9223372036854775808) : IntKind.i64.wrap (n : Int) = n := by
  simp only [IntKind.wrap, IntKind.bits, IntKind.signed]
  simp
  omega

theorem i64_xor_nat (a b : Nat) (ha : a < 9223372036854775808) (hb : b < 9223372036854775808) : bits .xor .i64 (a : Int) (b : Int) = ((a ^^^ b : Nat) : Int) := by
  have hx : a ^^^ b < 2 ^ 63 := Nat.xor_lt_two_pow (by omega) (by omega)
  show IntKind.i64.wrap ((BitVec.ofInt 64 (a : Int) ^^^ BitVec.ofInt 64 (b : Int)).toNat : Int) = _
  rw [BitVec.toNat_xor, ofInt64 a ha, ofInt64 b hb]
  exact wrap_i64_nat _ hx

theorem i64_and_nat (a b : Nat) (ha : a < 9223372036854775808) (hb : b < 9223372036854775808) : bits .and .i64 (a : Int) (b : Int) = ((a &&& b : Nat) : Int) := by
  have hx : a &&& b < 2 ^ 63 := Nat.and_lt_two_pow _ (by omega)
  show IntKind.i64.wrap ((BitVec.ofInt 64 (a : Int) &&& BitVec.ofInt 64 (b : Int)).toNat : Int) = _
  rw [BitVec.toNat_and, ofInt64 a ha, ofInt64 b hb]
  exact wrap_i64_nat _ hx

theorem all2 (a b : Int) (h0 : 0 ≤ a) (h1 : a ≤ 2147483647) (h2 : 0 ≤ b) (h3 : b ≤ 2147483647) : AllP [a, b] := by
  intro j hj
  simp at hj
  match j, hj with
  | 0, _ => exact ⟨h0, h1⟩
  | 1, _ => exact ⟨h2, h3⟩

theorem row3 (w : World) (a b c : Int) (t : TypeId) : Row (w.alloc (.cells #[.int .i64 a, .int .i64 b, .int .i64 c] t)) w.heap.size [a, b, c] := by
  intro i hi
  simp at hi
  match i, hi with
  | 0, _ => go_simp
  | 1, _ => go_simp
  | 2, _ => go_simp

theorem all3 (a b c : Int) (h0 : 0 ≤ a) (h1 : a ≤ 2147483647) (h2 : 0 ≤ b) (h3 : b ≤ 2147483647) (h4 : 0 ≤ c) (h5 : c ≤ 2147483647) : AllP [a, b, c] := by
  intro j hj
  simp at hj
  match j, hj with
  | 0, _ => exact ⟨h0, h1⟩
  | 1, _ => exact ⟨h2, h3⟩
  | 2, _ => exact ⟨h4, h5⟩

/-- the product fits -/
theorem mul_fits (a b : Nat) (ha : a ≤ 2147483647) (hb : b ≤ 2147483647) : WoolMath.mul a b < 2305843009213693952 :=
  WoolMath.mul_lt a b 31 30 (by omega) (by omega)

end Go.Proofs.YtbeigaanlhaolaaGreatDoor

/-
  What Div, Gcd, ModMul and ModPow of package poly return, at every argument. Conditions: the arguments are ints.
-/
namespace Go.Proofs.YtbeigaanlhaolaaGreatDoor
open Go.RowKit
open Go.Proofs

theorem pmod_le (a b : Nat) (hb : b ≠ 0) (hb2 : b ≤ 2147483647) : WoolMath.pmod a b < 1073741824 := by
  have h := WoolMath.pmod_lt a b hb
  have hl : b.log2 ≤ 30 := by
    have := (Nat.log2_lt hb).2 (show b < 2 ^ 31 by omega)
    omega
  exact Nat.lt_of_lt_of_le h (Nat.pow_le_pow_right (n := 2) (by omega) hl)

theorem pdiv_le (a b : Nat) (hb : b ≠ 0) (ha : a ≤ 2147483647) : WoolMath.pdiv a b ≤ 2147483647 := by
  by_cases hq : WoolMath.pdiv a b = 0
  · rw [hq]; omega
  have e := WoolMath.pdiv_eq a b
  have hr := WoolMath.pmod_lt a b hb
  obtain ⟨m1, m2⟩ := WoolMath.mul_log2 _ _ hq hb
  obtain ⟨t1, t2⟩ := WoolMath.top_of _ m1
  have h2 := WoolMath.xor_top _ _ _ t1 t2 (Nat.lt_of_lt_of_le hr (Nat.pow_le_pow_right (by omega) (by omega)))
  rw [← e] at h2
  have hal : a.log2 = (WoolMath.mul (WoolMath.pdiv a b) b).log2 := WoolMath.log2_of _ _ h2.1 h2.2
  have ha0 : a ≠ 0 := by intro h; subst h; simp [WoolMath.pdiv, WoolMath.divF] at hq
  have := (Nat.log2_lt ha0).2 (show a < 2 ^ 31 by omega)
  have hlt := WoolMath.lt_log2 (WoolMath.pdiv a b)
  have := Nat.pow_le_pow_right (n := 2) (by omega) (show (WoolMath.pdiv a b).log2 + 1 ≤ 31 by omega)
  omega

set_option maxRecDepth 100000 in
theorem div_ok (a b : Int) (w : World) (h0 : 0 ≤ a) (h1 : a ≤ 2147483647) (h2 : 0 < b) (h3 : b ≤ 2147483647) :
    Calls Tryz.prog 113 #[.int .i64 a, .int .i64 b] w fun e w' => e = .returned (.tuple #[.int .i64 (WoolMath.pdiv a.toNat b.toNat), .int .i64 (WoolMath.pmod a.toNat b.toNat), .int .i64 0]) ∧ Up w w' := by
  have hq := pdiv_le a.toNat b.toNat (by omega) (by omega)
  have hr := pmod_le a.toNat b.toNat (by omega) (by omega)
  have hz : (b == 0) = false := by rw [beq_eq_false_iff_ne]; omega
  go_enter Tryz.func113, Tryz.ntmps113
  go_wp2_with (first
    | (go_at_call 155; refine (checkAll_ok [a, b] _ 2 _ (by omega) rfl (row2 _ _ _ _) (all2 a b h0 h1 (by omega) h3)).mono ?_; rintro e w' ⟨rfl, rfl⟩)
    | (go_at_call 158; refine (divide_any _ _ _ h0 (by omega) h2 (by omega)).mono ?_; rintro e w' ⟨rfl, rfl⟩))
  go_ret3
  exact ⟨rfl, Up.alloc _ _⟩

/-! ytbeigaanlhaolaagreatdoor# Gcd -/

/-! ytbeigaanlhaolaagreatdoor# ModMul -/

set_option maxRecDepth 100000 in
theorem modMul_ok (a b m : Int) (w : World) (h0 : 0 ≤ a) (h1 : a ≤ 2147483647) (h2 : 0 ≤ b) (h3 : b ≤ 2147483647) (h4 : 0 < m) (h5 : m ≤ 2147483647) :
    Calls Tryz.prog 112 #[.int .i64 a, .int .i64 b, .int .i64 m] w fun e w' => e = .returned (.tuple #[.int .i64 (WoolMath.pmod (WoolMath.mul a.toNat b.toNat) m.toNat), .int .i64 0]) ∧ Up w w' := by
  have hf := mul_fits a.toNat b.toNat (by omega) (by omega)
  have hr := pmod_le (WoolMath.mul a.toNat b.toNat) m.toNat (by omega) (by omega)
  have hz : (m == 0) = false := by rw [beq_eq_false_iff_ne]; omega
  generalize hM : WoolMath.mul a.toNat b.toNat = M at *
  have HM := Lib.hid hM
  clear hM
  go_enter Tryz.func112, Tryz.ntmps112
  go_wp2_with (first
    | (go_at_call 155; refine (checkAll_ok [a, b, m] _ 3 _ (by omega) rfl (row3 _ _ _ _ _) (all3 a b m h0 h1 h2 h3 (by omega) h5)).mono ?_; rintro e w' ⟨rfl, rfl⟩)
    | (go_at_call 157; refine (product_any _ _ _ h0 (by omega) h2 (by omega)).mono ?_; rintro e w' ⟨rfl, rfl⟩; rw [HM.out])
    | (go_at_call 156; refine (remainder_any _ _ _ (by omega) (by omega) (by omega) (by omega)).mono ?_; rintro e w' ⟨rfl, rfl⟩; rw [Int.toNat_natCast]))
  go_ret2
  exact ⟨rfl, Up.alloc _ _⟩

/-! ytbeigaanlhaolaagreatdoor# ModPow -/

def PowRel (a n m : Nat) (x k p : Value) : Prop :=
  ∃ X N P : Nat, X < 1073741824 ∧ N < 9223372036854775808 ∧ P < 1073741824 ∧ WoolMath.pmod (WoolMath.mul P (WoolMath.pw X N)) m = WoolMath.pmod (WoolMath.pw a n) m ∧
    WoolMath.pmod P m = P ∧ x = .int .u64 X ∧ k = .int .i64 N ∧ p = .int .u64 P

theorem pow_turn (a n m X N P Y Q : Nat) (hm : m ≠ 0) (h : WoolMath.pmod (WoolMath.mul P (WoolMath.pw X N)) m = WoolMath.pmod (WoolMath.pw a n) m)
    (hY : Y = WoolMath.pmod (WoolMath.mul X X) m) (hQ : Q = if N % 2 = 1 then WoolMath.pmod (WoolMath.mul P X) m else P) :
    WoolMath.pmod (WoolMath.mul Q (WoolMath.pw Y (N / 2))) m = WoolMath.pmod (WoolMath.pw a n) m := by
  rw [← h, ← WoolMath.pmod_mul_right _ _ _ hm, hY, WoolMath.pmod_pw _ _ _ hm, WoolMath.pmod_mul_right _ _ _ hm, ← WoolMath.pw_double]
  by_cases ho : N % 2 = 1
  · rw [hQ, if_pos ho, WoolMath.pmod_mul_left _ _ _ hm]
    congr 1
    have e : N = 2 * (N / 2) + 1 := by omega
    generalize N / 2 = K at *
    subst e
    rw [WoolMath.pw_succ, WoolMath.mul_assoc, WoolMath.mul_comm X]
  · rw [hQ, if_neg ho]
    congr 2
    congr 1
    omega

set_option maxRecDepth 100000 in
set_option maxHeartbeats 400000 in
theorem power_any (a n m : Int) (w : World) (h0 : 0 ≤ a) (h1 : a ≤ 2147483647) (h2 : 0 ≤ n) (h3 : n < 9223372036854775808) (h4 : 0 < m) (h5 : m ≤ 2147483647) :
    Calls Tryz.prog 160 #[.int .u64 a, .int .i64 n, .int .u64 m] w fun e w' => e = .returned (.int .u64 (WoolMath.pmod (WoolMath.pw a.toNat n.toNat) m.toNat)) ∧ w = w' := by
  obtain ⟨A, rfl⟩ := Int.eq_ofNat_of_zero_le h0
  obtain ⟨N0, rfl⟩ := Int.eq_ofNat_of_zero_le h2
  obtain ⟨M, rfl⟩ := Int.eq_ofNat_of_zero_le (show 0 ≤ m by omega)
  rw [Int.toNat_natCast, Int.toNat_natCast, Int.toNat_natCast]
  have hM0 : M ≠ 0 := by omega
  have hr1 := pmod_le 1 M hM0 (by omega)
  have hr2 := pmod_le A M hM0 (by omega)
  generalize hP1 : WoolMath.pmod 1 M = P1 at *
  generalize hP2 : WoolMath.pmod A M = P2 at *
  have HM := Lib.hid hM0
  have HP1 := Lib.hid hP1
  have HP2 := Lib.hid hP2
  clear hM0 hP1 hP2
  go_enter Tryz.func160, Tryz.ntmps160
  go_wp2_with fail
  refine (remainder_any _ _ _ (by omega) (by omega) (by omega) (by omega)).mono ?_
  rintro e w' ⟨rfl, rfl⟩
  rw [Int.toNat_natCast, show (1 : Int).toNat = 1 from rfl, HP1.out]
  go_wp2_with fail
  refine (remainder_any _ _ _ (by omega) (by omega) (by omega) (by omega)).mono ?_
  rintro e w' ⟨rfl, rfl⟩
  rw [Int.toNat_natCast, Int.toNat_natCast, HP2.out]
  go_wp2_with fail
  go_loop [0, 1, 7] (fun x k p => PowRel A N0 M x k p) (fun _ k _ => (intOf k).toNat)
  case atStart =>
    refine ⟨P2, N0, P1, by omega, by omega, by omega, ?_, ?_, rfl, rfl, rfl⟩
    · rw [← HP1.out, ← HP2.out, WoolMath.pmod_mul_left _ _ _ HM.out, WoolMath.one_mul, WoolMath.pmod_pw _ _ _ HM.out]
    · rw [← HP1.out, WoolMath.pmod_idem _ _ HM.out]
  case round =>
    obtain ⟨X, N, P, hX, hN, hP, hpow, hpm, rfl, rfl, rfl⟩ := hrel
    have hf2 := mul_fits X X (by omega) (by omega)
    have hf1 := mul_fits P X (by omega) (by omega)
    by_cases hz : N = 0
    · subst hz
      have fin : (P : Int) = (WoolMath.pmod (WoolMath.pw A N0) M : Int) := by
        rw [← hpow, WoolMath.pw_zero, WoolMath.mul_one, hpm]
      have FIN := Lib.hid (congrArg (fun z => Ending.returned (.int .u64 z)) fin)
      clear hpow hpm fin
      go_wp2_with fail
      go_ret
      exact ⟨FIN.out, rfl⟩
    · have hz' : ((N : Int) != 0) = true := by rw [bne_iff_ne]; omega
      have hpos : 0 < N := by omega
      have hr3 := pmod_le (WoolMath.mul X X) M HM.out (by omega)
      have hr4 := pmod_le (WoolMath.mul P X) M HM.out (by omega)
      have ht := pow_turn A N0 M X N P _ _ HM.out hpow rfl rfl
      have hid3 := WoolMath.pmod_idem (WoolMath.mul P X) M HM.out
      have hb := i64_and_nat N 1 (by omega) (by omega)
      rw [nat_mask1] at hb
      generalize hA1 : WoolMath.mul X X = XX at *
      generalize hA2 : WoolMath.mul P X = PX at *
      generalize hA3 : WoolMath.pmod XX M = Y at *
      generalize hA4 : WoolMath.pmod PX M = Q at *
      have HA1 := Lib.hid hA1
      have HA2 := Lib.hid hA2
      have HA3 := Lib.hid hA3
      have HA4 := Lib.hid hA4
      have HI := Lib.hid hid3
      have HPM := Lib.hid hpm
      clear hA1 hA2 hA3 hA4 hid3 hpow hpm hz
      by_cases ho : N % 2 = 1
      · have hb' : (bits .and .i64 (N : Int) 1 == 1) = true := by
          rw [ho] at hb
          have hb2 : bits .and .i64 (N : Int) 1 = 1 := hb
          rw [hb2]; rfl
        rw [if_pos ho] at ht
        have HT := Lib.hid ht
        clear hb ho ht
        go_wp2_with fail
        refine (product_any _ _ _ (by omega) (by omega) (by omega) (by omega)).mono ?_
        rintro e w' ⟨rfl, rfl⟩
        rw [Int.toNat_natCast, Int.toNat_natCast, HA2.out]
        go_wp2_with fail
        refine (remainder_any _ _ _ (by omega) (by omega) (by omega) (by omega)).mono ?_
        rintro e w' ⟨rfl, rfl⟩
        rw [Int.toNat_natCast, Int.toNat_natCast, HA4.out]
        go_wp2_with fail
        refine (product_any _ _ _ (by omega) (by omega) (by omega) (by omega)).mono ?_
        rintro e w' ⟨rfl, rfl⟩
        rw [Int.toNat_natCast, HA1.out]
        go_wp2_with fail
        refine (remainder_any _ _ _ (by omega) (by omega) (by omega) (by omega)).mono ?_
        rintro e w' ⟨rfl, rfl⟩
        rw [Int.toNat_natCast, Int.toNat_natCast, HA3.out]
        go_wp2_with fail
        go_round
        case rel => exact ⟨Y, N / 2, Q, by omega, by omega, by omega, HT.out, HI.out, rfl, by go_num, rfl⟩
        case measure => simp only [intOf]; omega
      · have hb' : (bits .and .i64 (N : Int) 1 == 1) = false := by
          have : N % 2 = 0 := by omega
          rw [this] at hb
          have hb2 : bits .and .i64 (N : Int) 1 = 0 := hb
          rw [hb2]; rfl
        rw [if_neg ho] at ht
        have HT := Lib.hid ht
        clear hb ho ht
        go_wp2_with fail
        refine (product_any _ _ _ (by omega) (by omega) (by omega) (by omega)).mono ?_
        rintro e w' ⟨rfl, rfl⟩
        rw [Int.toNat_natCast, HA1.out]
        go_wp2_with fail
        refine (remainder_any _ _ _ (by omega) (by omega) (by omega) (by omega)).mono ?_
        rintro e w' ⟨rfl, rfl⟩
        rw [Int.toNat_natCast, Int.toNat_natCast, HA3.out]
        go_wp2_with fail
        go_round
        case rel => exact ⟨Y, N / 2, P, by omega, by omega, by omega, HT.out, HPM.out, rfl, by go_num, rfl⟩
        case measure => simp only [intOf]; omega

set_option maxRecDepth 100000 in
theorem modPow_ok (a n m : Int) (w : World) (h0 : 0 ≤ a) (h1 : a ≤ 2147483647) (h2 : 0 ≤ n) (h3 : n < 9223372036854775808) (h4 : 0 < m) (h5 : m ≤ 2147483647) :
    Calls Tryz.prog 115 #[.int .i64 a, .int .i64 n, .int .i64 m] w fun e w' => e = .returned (.tuple #[.int .i64 (WoolMath.pmod (WoolMath.pw a.toNat n.toNat) m.toNat), .int .i64 0]) ∧ Up w w' := by
  have hr := pmod_le (WoolMath.pw a.toNat n.toNat) m.toNat (by omega) (by omega)
  generalize hM : WoolMath.pmod (WoolMath.pw a.toNat n.toNat) m.toNat = R at *
  have HM := Lib.hid hM
  clear hM
  have hz : (m == 0) = false := by rw [beq_eq_false_iff_ne]; omega
  have hn : decide (n < 0) = false := by rw [decide_eq_false_iff_not]; omega
  go_enter Tryz.func115, Tryz.ntmps115
  go_wp2_with (first
    | (go_at_call 155; refine (checkAll_ok [a, m] _ 2 _ (by omega) rfl (row2 _ _ _ _) (all2 a m h0 h1 (by omega) h5)).mono ?_; rintro e w' ⟨rfl, rfl⟩)
    | (go_at_call 160; refine (power_any _ _ _ _ h0 h1 h2 h3 h4 h5).mono ?_; rintro e w' ⟨rfl, rfl⟩; rw [HM.out]))
  go_ret2
  exact ⟨rfl, Up.alloc _ _⟩

end Go.Proofs.YtbeigaanlhaolaaGreatDoor

/-
  What the laws' helper Within returns: a number below the bound, for every int. Conditions: the bound is at least 1.
-/
namespace Go.Proofs.YtbeigaanlhaolaaGreatDoor
open Go.RowKit
open Go.Proofs

/-- a number from 0 to n-1 by a number of any sort -/
def within (k : Int) (n : Nat) : Nat := (k % 18446744073709551616 % n).toNat

end Go.Proofs.YtbeigaanlhaolaaGreatDoor

/-
  What the laws' small helpers Within and less return: a number below the bound, for every int. Conditions: the bound is at least 1 (less: at most 62 bits).
-/
namespace Go.Proofs.YtbeigaanlhaolaaGreatDoor
open Go.RowKit
open Go.Proofs

/-! ytbeigaanlhaolaagreatdoor# the contracts at natural numbers -/

theorem degN (A : Nat) (w : World) (hA : A ≤ 2147483647) :
    Calls Tryz.prog 114 #[.int .i64 (A : Int)] w fun e w' => e = .returned (.tuple #[.int .i64 ((WoolMath.blen A : Int) - 1), .int .i64 0]) ∧ w = w' := by
  have := deg_ok (A : Int) w (by omega) (by omega)
  rwa [Int.toNat_natCast] at this

theorem divN (A B : Nat) (w : World) (hA : A ≤ 2147483647) (hB0 : 0 < B) (hB : B ≤ 2147483647) :
    Calls Tryz.prog 113 #[.int .i64 (A : Int), .int .i64 (B : Int)] w fun e w' => e = .returned (.tuple #[.int .i64 (WoolMath.pdiv A B : Nat), .int .i64 (WoolMath.pmod A B : Nat), .int .i64 0]) ∧ Up w w' := by
  have := div_ok (A : Int) (B : Int) w (by omega) (by omega) (by omega) (by omega)
  rwa [Int.toNat_natCast, Int.toNat_natCast] at this

theorem modMulN (A B M : Nat) (w : World) (hA : A ≤ 2147483647) (hB : B ≤ 2147483647) (hM0 : 0 < M) (hM : M ≤ 2147483647) :
    Calls Tryz.prog 112 #[.int .i64 (A : Int), .int .i64 (B : Int), .int .i64 (M : Int)] w fun e w' => e = .returned (.tuple #[.int .i64 (WoolMath.pmod (WoolMath.mul A B) M : Nat), .int .i64 0]) ∧ Up w w' := by
  have := modMul_ok (A : Int) (B : Int) (M : Int) w (by omega) (by omega) (by omega) (by omega) (by omega) (by omega)
  rwa [Int.toNat_natCast, Int.toNat_natCast, Int.toNat_natCast] at this

theorem modPowN (A N M : Nat) (w : World) (hA : A ≤ 2147483647) (hN : N < 9223372036854775808) (hM0 : 0 < M) (hM : M ≤ 2147483647) :
    Calls Tryz.prog 115 #[.int .i64 (A : Int), .int .i64 (N : Int), .int .i64 (M : Int)] w fun e w' => e = .returned (.tuple #[.int .i64 (WoolMath.pmod (WoolMath.pw A N) M : Nat), .int .i64 0]) ∧ Up w w' := by
  have := modPow_ok (A : Int) (N : Int) (M : Int) w (by omega) (by omega) (by omega) (by omega) (by omega) (by omega)
  rwa [Int.toNat_natCast, Int.toNat_natCast, Int.toNat_natCast] at this

end Go.Proofs.YtbeigaanlhaolaaGreatDoor

/-
  Plain mathematics: the least divisor, the next irreducible polynomial, how many there are. Nothing of any program.
-/
namespace WoolMath

end WoolMath

/-
  What the functions of package prime return, at every argument: by the least divisor. Conditions: the arguments are ints.
-/
namespace Go.Proofs.YtbeigaanlhaolaaGreatDoor
open Go.RowKit
open Go.Proofs

/-! ytbeigaanlhaolaagreatdoor# irreducible, Is, Next -/

end Go.Proofs.YtbeigaanlhaolaaGreatDoor

/-
  What prime.Factors, slices.Equal and slices.IsSorted (of ints) return: the list of irreducible factors, rising; whether two rows hold the same numbers; whether a row rises. Conditions: as each says.
-/
namespace Go.Proofs.YtbeigaanlhaolaaGreatDoor
open Go.RowKit
open Go.Proofs

/-- numbers as cells -/
def intL (l : List Nat) : List Value := l.map fun x : Nat => .int .i64 (x : Int)

theorem intL_length (l : List Nat) : (intL l).length = l.length := by simp [intL]
theorem intL_get (l : List Nat) (j : Nat) (h : j < l.length) : (intL l)[j]? = some (.int .i64 ((l[j] : Nat) : Int)) := by
  simp [intL, h]
theorem intL_snoc (l : List Nat) (x : Nat) : intL (l ++ [x]) = intL l ++ [.int .i64 (x : Int)] := by simp [intL]

/-- a slice of ints that reads as a list of numbers -/
def Ints (w : World) (base : Nat) (v : Value) (l : List Nat) : Prop := w.ownsRow base 3 1 v l.length (intL l)

theorem Ints.up {w w' : World} {base : Nat} {v : Value} {l : List Nat} (h : Ints w base v l) (hu : Up w w') : Ints w' base v l := by
  refine ⟨h.1, ?_⟩
  rcases h.2 with h | ⟨g, cap, cur, h1, h2, h3, h4⟩
  · exact .inl h
  · refine .inr ⟨g, cap, cur, h1, h2, ?_, h4⟩
    have hg : g < w.heap.size := by
      rcases Nat.lt_or_ge g w.heap.size with hlt | hge
      · exact hlt
      · rw [Array.getElem?_eq_none hge] at h3; cases h3
    rw [← h3]; exact hu.block g hg

theorem Ints.shape {w : World} {base : Nat} {v : Value} {l : List Nat} (h : Ints w base v l) : ∃ o c, v = .slice o l.length c := by
  rcases h.2 with ⟨rfl, h0⟩ | ⟨g, cap, cur, rfl, _⟩
  · exact ⟨_, _, by rw [h0]⟩
  · exact ⟨_, _, rfl⟩

theorem Ints.block {w : World} {base : Nat} {v : Value} {l : List Nat} (h : Ints w base v l) (hn : 0 < l.length) : ∃ g c, v = .slice (some ⟨g, 0, none⟩) l.length c ∧ base ≤ g ∧ g < w.heap.size ∧ l.length ≤ c ∧ c ≤ maxLen := by
  rcases h.2 with ⟨rfl, h0⟩ | ⟨g, cap, cur, rfl, h2, h3, h4, h5, _⟩
  · omega
  · refine ⟨g, cap, rfl, h2, ?_, h4, h5⟩
    rcases Nat.lt_or_ge g w.heap.size with hlt | hge
    · exact hlt
    · rw [Array.getElem?_eq_none hge] at h3; cases h3

theorem Ints.cell {w : World} {base g c : Nat} {l : List Nat} (h : Ints w base (.slice (some ⟨g, 0, none⟩) l.length c) l) (j : Nat) (hj : j < l.length) : w.cell? ⟨g, j, none⟩ = some (.int .i64 ((l[j] : Nat) : Int)) :=
  (World.ownsRow.cellAt h j (by omega)).trans (intL_get l j hj)

theorem Ints.nil (w : World) (base : Nat) : Ints w base (.slice none 0 0) [] := World.ownsRow_nil _ _ _ _

/-! ytbeigaanlhaolaagreatdoor# Factors -/

/-! ytbeigaanlhaolaagreatdoor# slices.Equal -/

end Go.Proofs.YtbeigaanlhaolaaGreatDoor
