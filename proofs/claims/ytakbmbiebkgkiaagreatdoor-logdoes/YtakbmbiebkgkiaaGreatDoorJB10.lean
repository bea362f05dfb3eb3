/-
  The texts Poly2, Within, Keep, one behind the other; each says below what it holds and on what conditions.
-/
import Derived.Test.YtakbmbiebkgkiaaGreatDoorJB09
import Derived.Test.YtakbmbiebkgkiaaGreatDoorJB01

/-
  What Div, Gcd, ModMul and ModPow of package poly return, at every argument. Conditions: the arguments are ints.
-/
namespace Go.Proofs.YtakbmbiebkgkiaaGreatDoor
open Go.RowKit
open Go.Proofs

theorem pmod_le (a b : Nat) (hb : b ≠ 0) (hb2 : b ≤ 2147483647) : WoolMath.pmod a b < 1073741824 := by
  have h := WoolMath.pmod_lt a b hb
  have hl : b.log2 ≤ 30 := by
    have := (Nat.log2_lt hb).2 (show b < 2 ^ 31 by omega)
    omega
  exact Nat.lt_of_lt_of_le h (Nat.pow_le_pow_right (n := 2) (by omega) hl)

theorem pdiv_le (a b : Nat) (hb : b ≠ 0) (ha : a ≤ 2147483647) : WoolMath.pdiv a b ≤ 2147483647 := by
  by_cases hq : WoolMath.pdiv a b = 0
  · rw [hq]; omega
  have e := WoolMath.pdiv_eq a b
  have hr := WoolMath.pmod_lt a b hb
  obtain ⟨m1, m2⟩ := WoolMath.mul_log2 _ _ hq hb
  obtain ⟨t1, t2⟩ := WoolMath.top_of _ m1
  have h2 := WoolMath.xor_top _ _ _ t1 t2 (Nat.lt_of_lt_of_le hr (Nat.pow_le_pow_right (by omega) (by omega)))
  rw [← e] at h2
  have hal : a.log2 = (WoolMath.mul (WoolMath.pdiv a b) b).log2 := WoolMath.log2_of _ _ h2.1 h2.2
  have ha0 : a ≠ 0 := by intro h; subst h; simp [WoolMath.pdiv, WoolMath.divF] at hq
  have := (Nat.log2_lt ha0).2 (show a < 2 ^ 31 by omega)
  have hlt := WoolMath.lt_log2 (WoolMath.pdiv a b)
  have := Nat.pow_le_pow_right (n := 2) (by omega) (show (WoolMath.pdiv a b).log2 + 1 ≤ 31 by omega)
  omega

set_option maxRecDepth 100000 in
theorem div_ok (a b : Int) (w : World) (h0 : 0 ≤ a) (h1 : a ≤ 2147483647) (h2 : 0 < b) (h3 : b ≤ 2147483647) :
    Calls Tryz.prog 175 #[.int .i64 a, .int .i64 b] w fun e w' => e = .returned (.tuple #[.int .i64 (WoolMath.pdiv a.toNat b.toNat), .int .i64 (WoolMath.pmod a.toNat b.toNat), .int .i64 0]) ∧ Up w w' := by
  have hq := pdiv_le a.toNat b.toNat (by omega) (by omega)
  have hr := pmod_le a.toNat b.toNat (by omega) (by omega)
  have hz : (b == 0) = false := by rw [beq_eq_false_iff_ne]; omega
  go_enter Tryz.func175, Tryz.ntmps175
  go_wp2_with (first
    | (go_at_call 185; refine (checkAll_ok [a, b] _ 2 _ (by omega) rfl (row2 _ _ _ _) (all2 a b h0 h1 (by omega) h3)).mono ?_; rintro e w' ⟨rfl, rfl⟩)
    | (go_at_call 188; refine (divide_any _ _ _ h0 (by omega) h2 (by omega)).mono ?_; rintro e w' ⟨rfl, rfl⟩))
  go_ret3
  exact ⟨rfl, Up.alloc _ _⟩

set_option maxRecDepth 100000 in
theorem div_zero (a : Int) (w : World) (h0 : 0 ≤ a) (h1 : a ≤ 2147483647) :
    Calls Tryz.prog 175 #[.int .i64 a, .int .i64 0] w fun e w' => e = .returned (.tuple #[.int .i64 0, .int .i64 0, .int .i64 10]) ∧ Up w w' := by
  go_enter Tryz.func175, Tryz.ntmps175
  go_wp2_with (go_at_call 185; refine (checkAll_ok [a, 0] _ 2 _ (by omega) rfl (row2 _ _ _ _) (all2 a 0 h0 h1 (by omega) (by omega))).mono ?_; rintro e w' ⟨rfl, rfl⟩)
  go_ret3
  exact ⟨rfl, Up.alloc _ _⟩

set_option maxRecDepth 100000 in
theorem div_bad (a b : Int) (w : World) (h : a < 0 ∨ 2147483647 < a ∨ b < 0 ∨ 2147483647 < b) :
    Calls Tryz.prog 175 #[.int .i64 a, .int .i64 b] w fun e w' => e = .returned (.tuple #[.int .i64 0, .int .i64 0, .int .i64 1]) ∧ Up w w' := by
  have H := Lib.hid h
  clear h
  go_enter Tryz.func175, Tryz.ntmps175
  go_wp2_with (go_at_call 185; refine (checkAll_bad [a, b] _ 2 _ (by omega) rfl (row2 _ _ _ _) (bad2 a b H.out)).mono ?_; rintro e w' ⟨rfl, rfl⟩)
  go_ret3
  exact ⟨rfl, Up.alloc _ _⟩

/-! ytakbmbiebkgkiaagreatdoor# Gcd -/

def GcdRel (a b : Nat) (x y : Value) : Prop :=
  ∃ X Y : Nat, X ≤ 2147483647 ∧ Y ≤ 2147483647 ∧ (∀ g, WoolMath.IsGcd g X Y ↔ WoolMath.IsGcd g a b) ∧ x = .int .u64 X ∧ y = .int .u64 Y

/-- what Gcd hands back -/
def GcdPost (a b : Nat) (w : World) (e : Ending) (w' : World) : Prop :=
  ∃ g : Nat, g ≤ 2147483647 ∧ WoolMath.IsGcd g a b ∧ e = .returned (.tuple #[.int .i64 (g : Int), .int .i64 0]) ∧ Up w w'

/-! ytakbmbiebkgkiaagreatdoor# ModMul -/

set_option maxRecDepth 100000 in
theorem modMul_ok (a b m : Int) (w : World) (h0 : 0 ≤ a) (h1 : a ≤ 2147483647) (h2 : 0 ≤ b) (h3 : b ≤ 2147483647) (h4 : 0 < m) (h5 : m ≤ 2147483647) :
    Calls Tryz.prog 174 #[.int .i64 a, .int .i64 b, .int .i64 m] w fun e w' => e = .returned (.tuple #[.int .i64 (WoolMath.pmod (WoolMath.mul a.toNat b.toNat) m.toNat), .int .i64 0]) ∧ Up w w' := by
  have hf := mul_fits a.toNat b.toNat (by omega) (by omega)
  have hr := pmod_le (WoolMath.mul a.toNat b.toNat) m.toNat (by omega) (by omega)
  have hz : (m == 0) = false := by rw [beq_eq_false_iff_ne]; omega
  generalize hM : WoolMath.mul a.toNat b.toNat = M at *
  have HM := Lib.hid hM
  clear hM
  go_enter Tryz.func174, Tryz.ntmps174
  go_wp2_with (first
    | (go_at_call 185; refine (checkAll_ok [a, b, m] _ 3 _ (by omega) rfl (row3 _ _ _ _ _) (all3 a b m h0 h1 h2 h3 (by omega) h5)).mono ?_; rintro e w' ⟨rfl, rfl⟩)
    | (go_at_call 187; refine (product_any _ _ _ h0 (by omega) h2 (by omega)).mono ?_; rintro e w' ⟨rfl, rfl⟩; rw [HM.out])
    | (go_at_call 186; refine (remainder_any _ _ _ (by omega) (by omega) (by omega) (by omega)).mono ?_; rintro e w' ⟨rfl, rfl⟩; rw [Int.toNat_natCast]))
  go_ret2
  exact ⟨rfl, Up.alloc _ _⟩

set_option maxRecDepth 100000 in
theorem modMul_zero (a b : Int) (w : World) (h0 : 0 ≤ a) (h1 : a ≤ 2147483647) (h2 : 0 ≤ b) (h3 : b ≤ 2147483647) :
    Calls Tryz.prog 174 #[.int .i64 a, .int .i64 b, .int .i64 0] w fun e w' => e = .returned (.tuple #[.int .i64 0, .int .i64 10]) ∧ Up w w' := by
  go_enter Tryz.func174, Tryz.ntmps174
  go_wp2_with (go_at_call 185; refine (checkAll_ok [a, b, 0] _ 3 _ (by omega) rfl (row3 _ _ _ _ _) (all3 a b 0 h0 h1 h2 h3 (by omega) (by omega))).mono ?_; rintro e w' ⟨rfl, rfl⟩)
  go_ret2
  exact ⟨rfl, Up.alloc _ _⟩

set_option maxRecDepth 100000 in
theorem modMul_bad (a b m : Int) (w : World) (h : a < 0 ∨ 2147483647 < a ∨ b < 0 ∨ 2147483647 < b ∨ m < 0 ∨ 2147483647 < m) :
    Calls Tryz.prog 174 #[.int .i64 a, .int .i64 b, .int .i64 m] w fun e w' => e = .returned (.tuple #[.int .i64 0, .int .i64 1]) ∧ Up w w' := by
  have H := Lib.hid h
  clear h
  go_enter Tryz.func174, Tryz.ntmps174
  go_wp2_with (go_at_call 185; refine (checkAll_bad [a, b, m] _ 3 _ (by omega) rfl (row3 _ _ _ _ _) (bad3 a b m H.out)).mono ?_; rintro e w' ⟨rfl, rfl⟩)
  go_ret2
  exact ⟨rfl, Up.alloc _ _⟩

/-! ytakbmbiebkgkiaagreatdoor# ModPow -/

def PowRel (a n m : Nat) (x k p : Value) : Prop :=
  ∃ X N P : Nat, X < 1073741824 ∧ N < 9223372036854775808 ∧ P < 1073741824 ∧ WoolMath.pmod (WoolMath.mul P (WoolMath.pw X N)) m = WoolMath.pmod (WoolMath.pw a n) m ∧
    WoolMath.pmod P m = P ∧ x = .int .u64 X ∧ k = .int .i64 N ∧ p = .int .u64 P

theorem pow_turn (a n m X N P Y Q : Nat) (hm : m ≠ 0) (h : WoolMath.pmod (WoolMath.mul P (WoolMath.pw X N)) m = WoolMath.pmod (WoolMath.pw a n) m)
    (hY : Y = WoolMath.pmod (WoolMath.mul X X) m) (hQ : Q = if N % 2 = 1 then WoolMath.pmod (WoolMath.mul P X) m else P) :
    WoolMath.pmod (WoolMath.mul Q (WoolMath.pw Y (N / 2))) m = WoolMath.pmod (WoolMath.pw a n) m := by
  rw [← h, ← WoolMath.pmod_mul_right _ _ _ hm, hY, WoolMath.pmod_pw _ _ _ hm, WoolMath.pmod_mul_right _ _ _ hm, ← WoolMath.pw_double]
  by_cases ho : N % 2 = 1
  · rw [hQ, if_pos ho, WoolMath.pmod_mul_left _ _ _ hm]
    congr 1
    have e : N = 2 * (N / 2) + 1 := by omega
    generalize N / 2 = K at *
    subst e
    rw [WoolMath.pw_succ, WoolMath.mul_assoc, WoolMath.mul_comm X]
  · rw [hQ, if_neg ho]
    congr 2
    congr 1
    omega

set_option maxRecDepth 100000 in
set_option maxHeartbeats 400000 in
theorem power_any (a n m : Int) (w : World) (h0 : 0 ≤ a) (h1 : a ≤ 2147483647) (h2 : 0 ≤ n) (h3 : n < 9223372036854775808) (h4 : 0 < m) (h5 : m ≤ 2147483647) :
    Calls Tryz.prog 190 #[.int .u64 a, .int .i64 n, .int .u64 m] w fun e w' => e = .returned (.int .u64 (WoolMath.pmod (WoolMath.pw a.toNat n.toNat) m.toNat)) ∧ w = w' := by
  obtain ⟨A, rfl⟩ := Int.eq_ofNat_of_zero_le h0
  obtain ⟨N0, rfl⟩ := Int.eq_ofNat_of_zero_le h2
  obtain ⟨M, rfl⟩ := Int.eq_ofNat_of_zero_le (show 0 ≤ m by omega)
  rw [Int.toNat_natCast, Int.toNat_natCast, Int.toNat_natCast]
  have hM0 : M ≠ 0 := by omega
  have hr1 := pmod_le 1 M hM0 (by omega)
  have hr2 := pmod_le A M hM0 (by omega)
  generalize hP1 : WoolMath.pmod 1 M = P1 at *
  generalize hP2 : WoolMath.pmod A M = P2 at *
  have HM := Lib.hid hM0
  have HP1 := Lib.hid hP1
  have HP2 := Lib.hid hP2
  clear hM0 hP1 hP2
  go_enter Tryz.func190, Tryz.ntmps190
  go_wp2_with fail
  refine (remainder_any _ _ _ (by omega) (by omega) (by omega) (by omega)).mono ?_
  rintro e w' ⟨rfl, rfl⟩
  rw [Int.toNat_natCast, show (1 : Int).toNat = 1 from rfl, HP1.out]
  go_wp2_with fail
  refine (remainder_any _ _ _ (by omega) (by omega) (by omega) (by omega)).mono ?_
  rintro e w' ⟨rfl, rfl⟩
  rw [Int.toNat_natCast, Int.toNat_natCast, HP2.out]
  go_wp2_with fail
  go_loop [0, 1, 7] (fun x k p => PowRel A N0 M x k p) (fun _ k _ => (intOf k).toNat)
  case atStart =>
    refine ⟨P2, N0, P1, by omega, by omega, by omega, ?_, ?_, rfl, rfl, rfl⟩
    · rw [← HP1.out, ← HP2.out, WoolMath.pmod_mul_left _ _ _ HM.out, WoolMath.one_mul, WoolMath.pmod_pw _ _ _ HM.out]
    · rw [← HP1.out, WoolMath.pmod_idem _ _ HM.out]
  case round =>
    obtain ⟨X, N, P, hX, hN, hP, hpow, hpm, rfl, rfl, rfl⟩ := hrel
    have hf2 := mul_fits X X (by omega) (by omega)
    have hf1 := mul_fits P X (by omega) (by omega)
    by_cases hz : N = 0
    · subst hz
      have fin : (P : Int) = (WoolMath.pmod (WoolMath.pw A N0) M : Int) := by
        rw [← hpow, WoolMath.pw_zero, WoolMath.mul_one, hpm]
      have FIN := Lib.hid (congrArg (fun z => Ending.returned (.int .u64 z)) fin)
      clear hpow hpm fin
      go_wp2_with fail
      go_ret
      exact ⟨FIN.out, rfl⟩
    · have hz' : ((N : Int) != 0) = true := by rw [bne_iff_ne]; omega
      have hpos : 0 < N := by omega
      have hr3 := pmod_le (WoolMath.mul X X) M HM.out (by omega)
      have hr4 := pmod_le (WoolMath.mul P X) M HM.out (by omega)
      have ht := pow_turn A N0 M X N P _ _ HM.out hpow rfl rfl
      have hid3 := WoolMath.pmod_idem (WoolMath.mul P X) M HM.out
      have hb := i64_and_nat N 1 (by omega) (by omega)
      rw [nat_mask1] at hb
      generalize hA1 : WoolMath.mul X X = XX at *
      generalize hA2 : WoolMath.mul P X = PX at *
      generalize hA3 : WoolMath.pmod XX M = Y at *
      generalize hA4 : WoolMath.pmod PX M = Q at *
      have HA1 := Lib.hid hA1
      have HA2 := Lib.hid hA2
      have HA3 := Lib.hid hA3
      have HA4 := Lib.hid hA4
      have HI := Lib.hid hid3
      have HPM := Lib.hid hpm
      clear hA1 hA2 hA3 hA4 hid3 hpow hpm hz
      by_cases ho : N % 2 = 1
      · have hb' : (bits .and .i64 (N : Int) 1 == 1) = true := by
          rw [ho] at hb
          have hb2 : bits .and .i64 (N : Int) 1 = 1 := hb
          rw [hb2]; rfl
        rw [if_pos ho] at ht
        have HT := Lib.hid ht
        clear hb ho ht
        go_wp2_with fail
        refine (product_any _ _ _ (by omega) (by omega) (by omega) (by omega)).mono ?_
        rintro e w' ⟨rfl, rfl⟩
        rw [Int.toNat_natCast, Int.toNat_natCast, HA2.out]
        go_wp2_with fail
        refine (remainder_any _ _ _ (by omega) (by omega) (by omega) (by omega)).mono ?_
        rintro e w' ⟨rfl, rfl⟩
        rw [Int.toNat_natCast, Int.toNat_natCast, HA4.out]
        go_wp2_with fail
        refine (product_any _ _ _ (by omega) (by omega) (by omega) (by omega)).mono ?_
        rintro e w' ⟨rfl, rfl⟩
        rw [Int.toNat_natCast, HA1.out]
        go_wp2_with fail
        refine (remainder_any _ _ _ (by omega) (by omega) (by omega) (by omega)).mono ?_
        rintro e w' ⟨rfl, rfl⟩
        rw [Int.toNat_natCast, Int.toNat_natCast, HA3.out]
        go_wp2_with fail
        go_round
        case rel => exact ⟨Y, N / 2, Q, by omega, by omega, by omega, HT.out, HI.out, rfl, by go_num, rfl⟩
        case measure => simp only [intOf]; omega
      · have hb' : (bits .and .i64 (N : Int) 1 == 1) = false := by
          have : N % 2 = 0 := by omega
          rw [this] at hb
          have hb2 : bits .and .i64 (N : Int) 1 = 0 := hb
          rw [hb2]; rfl
        rw [if_neg ho] at ht
        have HT := Lib.hid ht
        clear hb ho ht
        go_wp2_with fail
        refine (product_any _ _ _ (by omega) (by omega) (by omega) (by omega)).mono ?_
        rintro e w' ⟨rfl, rfl⟩
        rw [Int.toNat_natCast, HA1.out]
        go_wp2_with fail
        refine (remainder_any _ _ _ (by omega) (by omega) (by omega) (by omega)).mono ?_
        rintro e w' ⟨rfl, rfl⟩
        rw [Int.toNat_natCast, Int.toNat_natCast, HA3.out]
        go_wp2_with fail
        go_round
        case rel => exact ⟨Y, N / 2, P, by omega, by omega, by omega, HT.out, HPM.out, rfl, by go_num, rfl⟩
        case measure => simp only [intOf]; omega

set_option maxRecDepth 100000 in
theorem modPow_ok (a n m : Int) (w : World) (h0 : 0 ≤ a) (h1 : a ≤ 2147483647) (h2 : 0 ≤ n) (h3 : n < 9223372036854775808) (h4 : 0 < m) (h5 : m ≤ 2147483647) :
    Calls Tryz.prog 177 #[.int .i64 a, .int .i64 n, .int .i64 m] w fun e w' => e = .returned (.tuple #[.int .i64 (WoolMath.pmod (WoolMath.pw a.toNat n.toNat) m.toNat), .int .i64 0]) ∧ Up w w' := by
  have hr := pmod_le (WoolMath.pw a.toNat n.toNat) m.toNat (by omega) (by omega)
  generalize hM : WoolMath.pmod (WoolMath.pw a.toNat n.toNat) m.toNat = R at *
  have HM := Lib.hid hM
  clear hM
  have hz : (m == 0) = false := by rw [beq_eq_false_iff_ne]; omega
  have hn : decide (n < 0) = false := by rw [decide_eq_false_iff_not]; omega
  go_enter Tryz.func177, Tryz.ntmps177
  go_wp2_with (first
    | (go_at_call 185; refine (checkAll_ok [a, m] _ 2 _ (by omega) rfl (row2 _ _ _ _) (all2 a m h0 h1 (by omega) h5)).mono ?_; rintro e w' ⟨rfl, rfl⟩)
    | (go_at_call 190; refine (power_any _ _ _ _ h0 h1 h2 h3 h4 h5).mono ?_; rintro e w' ⟨rfl, rfl⟩; rw [HM.out]))
  go_ret2
  exact ⟨rfl, Up.alloc _ _⟩

set_option maxRecDepth 100000 in
theorem modPow_zero (a n : Int) (w : World) (h0 : 0 ≤ a) (h1 : a ≤ 2147483647) (h2 : 0 ≤ n) :
    Calls Tryz.prog 177 #[.int .i64 a, .int .i64 n, .int .i64 0] w fun e w' => e = .returned (.tuple #[.int .i64 0, .int .i64 10]) ∧ Up w w' := by
  have hn : decide (n < 0) = false := by rw [decide_eq_false_iff_not]; omega
  go_enter Tryz.func177, Tryz.ntmps177
  go_wp2_with (go_at_call 185; refine (checkAll_ok [a, 0] _ 2 _ (by omega) rfl (row2 _ _ _ _) (all2 a 0 h0 h1 (by omega) (by omega))).mono ?_; rintro e w' ⟨rfl, rfl⟩)
  go_ret2
  exact ⟨rfl, Up.alloc _ _⟩

set_option maxRecDepth 100000 in
theorem modPow_neg (a n m : Int) (w : World) (h0 : 0 ≤ a) (h1 : a ≤ 2147483647) (h2 : n < 0) (h4 : 0 ≤ m) (h5 : m ≤ 2147483647) :
    Calls Tryz.prog 177 #[.int .i64 a, .int .i64 n, .int .i64 m] w fun e w' => e = .returned (.tuple #[.int .i64 0, .int .i64 1]) ∧ Up w w' := by
  have hn : decide (n < 0) = true := by rw [decide_eq_true_iff]; omega
  go_enter Tryz.func177, Tryz.ntmps177
  go_wp2_with (go_at_call 185; refine (checkAll_ok [a, m] _ 2 _ (by omega) rfl (row2 _ _ _ _) (all2 a m h0 h1 h4 h5)).mono ?_; rintro e w' ⟨rfl, rfl⟩)
  go_ret2
  exact ⟨rfl, Up.alloc _ _⟩

set_option maxRecDepth 100000 in
theorem modPow_bad (a n m : Int) (w : World) (h : a < 0 ∨ 2147483647 < a ∨ m < 0 ∨ 2147483647 < m) :
    Calls Tryz.prog 177 #[.int .i64 a, .int .i64 n, .int .i64 m] w fun e w' => e = .returned (.tuple #[.int .i64 0, .int .i64 1]) ∧ Up w w' := by
  have H := Lib.hid h
  clear h
  go_enter Tryz.func177, Tryz.ntmps177
  go_wp2_with (go_at_call 185; refine (checkAll_bad [a, m] _ 2 _ (by omega) rfl (row2 _ _ _ _) (bad2 a m H.out)).mono ?_; rintro e w' ⟨rfl, rfl⟩)
  go_ret2
  exact ⟨rfl, Up.alloc _ _⟩

end Go.Proofs.YtakbmbiebkgkiaaGreatDoor

/-
  What the laws' helper Within returns: a number below the bound, for every int. Conditions: the bound is at least 1.
-/
namespace Go.Proofs.YtakbmbiebkgkiaaGreatDoor
open Go.RowKit
open Go.Proofs

/-- a number from 0 to n-1 by a number of any sort -/
def within (k : Int) (n : Nat) : Nat := (k % 18446744073709551616 % n).toNat

theorem within_lt (k : Int) (n : Nat) (h : 0 < n) : within k n < n := by
  unfold within
  have := Int.emod_lt_of_pos (k % 18446744073709551616) (show (0 : Int) < n by omega)
  have := Int.emod_nonneg (k % 18446744073709551616) (show (n : Int) ≠ 0 by omega)
  omega

theorem within_cast (k : Int) (n : Nat) (h : 0 < n) : ((within k n : Nat) : Int) = k % 18446744073709551616 % n := by
  unfold within
  have := Int.emod_nonneg (k % 18446744073709551616) (show (n : Int) ≠ 0 by omega)
  omega

theorem within_wrap (k : Int) (n : Nat) (h : 0 < n) (h1 : (n : Int) ≤ 9223372036854775807) : wrap64 ((IntKind.u64.wrap k).tmod n) = (within k n : Int) := by
  rw [IntKind.wrap_u64, Int.tmod_eq_emod_of_nonneg (Int.emod_nonneg _ (by decide)), ← within_cast k n h]
  have := within_lt k n h
  unfold wrap64
  omega

def InBelow (N : Nat) (w : World) (e : Ending) (w' : World) : Prop := ∃ D : Nat, D < N ∧ e = .returned (.int .i64 (D : Int)) ∧ w = w'

end Go.Proofs.YtakbmbiebkgkiaaGreatDoor

/-
  What the laws' small helpers Within and less return: a number below the bound, for every int. Conditions: the bound is at least 1 (less: at most 62 bits).
-/
namespace Go.Proofs.YtakbmbiebkgkiaaGreatDoor
open Go.RowKit
open Go.Proofs

/-! ytakbmbiebkgkiaagreatdoor# the contracts at natural numbers -/

theorem degN (A : Nat) (w : World) (hA : A ≤ 2147483647) :
    Calls Tryz.prog 176 #[.int .i64 (A : Int)] w fun e w' => e = .returned (.tuple #[.int .i64 ((WoolMath.blen A : Int) - 1), .int .i64 0]) ∧ w = w' := by
  have := deg_ok (A : Int) w (by omega) (by omega)
  rwa [Int.toNat_natCast] at this

theorem divN (A B : Nat) (w : World) (hA : A ≤ 2147483647) (hB0 : 0 < B) (hB : B ≤ 2147483647) :
    Calls Tryz.prog 175 #[.int .i64 (A : Int), .int .i64 (B : Int)] w fun e w' => e = .returned (.tuple #[.int .i64 (WoolMath.pdiv A B : Nat), .int .i64 (WoolMath.pmod A B : Nat), .int .i64 0]) ∧ Up w w' := by
  have := div_ok (A : Int) (B : Int) w (by omega) (by omega) (by omega) (by omega)
  rwa [Int.toNat_natCast, Int.toNat_natCast] at this

theorem modMulN (A B M : Nat) (w : World) (hA : A ≤ 2147483647) (hB : B ≤ 2147483647) (hM0 : 0 < M) (hM : M ≤ 2147483647) :
    Calls Tryz.prog 174 #[.int .i64 (A : Int), .int .i64 (B : Int), .int .i64 (M : Int)] w fun e w' => e = .returned (.tuple #[.int .i64 (WoolMath.pmod (WoolMath.mul A B) M : Nat), .int .i64 0]) ∧ Up w w' := by
  have := modMul_ok (A : Int) (B : Int) (M : Int) w (by omega) (by omega) (by omega) (by omega) (by omega) (by omega)
  rwa [Int.toNat_natCast, Int.toNat_natCast, Int.toNat_natCast] at this

theorem modPowN (A N M : Nat) (w : World) (hA : A ≤ 2147483647) (hN : N < 9223372036854775808) (hM0 : 0 < M) (hM : M ≤ 2147483647) :
    Calls Tryz.prog 177 #[.int .i64 (A : Int), .int .i64 (N : Int), .int .i64 (M : Int)] w fun e w' => e = .returned (.tuple #[.int .i64 (WoolMath.pmod (WoolMath.pw A N) M : Nat), .int .i64 0]) ∧ Up w w' := by
  have := modPow_ok (A : Int) (N : Int) (M : Int) w (by omega) (by omega) (by omega) (by omega) (by omega) (by omega)
  rwa [Int.toNat_natCast, Int.toNat_natCast, Int.toNat_natCast] at this

/-- ten (nine) errors that are none, in a row of the law's own -/
theorem zeros10 (w : World) (t : TypeId) (k : Nat) (h : k < 10) :
    (w.alloc (.cells #[.int .i64 0, .int .i64 0, .int .i64 0, .int .i64 0, .int .i64 0, .int .i64 0, .int .i64 0, .int .i64 0, .int .i64 0, .int .i64 0] t)).cell? ⟨w.heap.size, k, none⟩ = some (.int .i64 0) := by
  match k, h with
  | 0, _ => go_simp
  | 1, _ => go_simp
  | 2, _ => go_simp
  | 3, _ => go_simp
  | 4, _ => go_simp
  | 5, _ => go_simp
  | 6, _ => go_simp
  | 7, _ => go_simp
  | 8, _ => go_simp
  | 9, _ => go_simp

theorem zeros9 (w : World) (t : TypeId) (k : Nat) (h : k < 9) :
    (w.alloc (.cells #[.int .i64 0, .int .i64 0, .int .i64 0, .int .i64 0, .int .i64 0, .int .i64 0, .int .i64 0, .int .i64 0, .int .i64 0] t)).cell? ⟨w.heap.size, k, none⟩ = some (.int .i64 0) := by
  match k, h with
  | 0, _ => go_simp
  | 1, _ => go_simp
  | 2, _ => go_simp
  | 3, _ => go_simp
  | 4, _ => go_simp
  | 5, _ => go_simp
  | 6, _ => go_simp
  | 7, _ => go_simp
  | 8, _ => go_simp

end Go.Proofs.YtakbmbiebkgkiaaGreatDoor
