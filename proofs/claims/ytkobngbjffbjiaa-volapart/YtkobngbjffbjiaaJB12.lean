/-
  The texts Poly2, Within, Keep, Print, one behind the other; each says below what it holds and on what conditions.
-/
import Derived.Test.YtkobngbjffbjiaaJB11
import Derived.Test.YtkobngbjffbjiaaJB01
import Derived.Deep.RegionHeld3

/-
  What Div, Gcd, ModMul and ModPow of package poly return, at every argument. Conditions: the arguments are ints.
-/
namespace Go.Proofs.Ytkobngbjffbjiaa
open Go.RowKit
open Go.Proofs

theorem pmod_le (a b : Nat) (hb : b ≠ 0) (hb2 : b ≤ 2147483647) : WoolMath.pmod a b < 1073741824 := by
  have h := WoolMath.pmod_lt a b hb
  have hl : b.log2 ≤ 30 := by
    have := (Nat.log2_lt hb).2 (show b < 2 ^ 31 by omega)
    omega
  exact Nat.lt_of_lt_of_le h (Nat.pow_le_pow_right (n := 2) (by omega) hl)

theorem pdiv_le (a b : Nat) (hb : b ≠ 0) (ha : a ≤ 2147483647) : WoolMath.pdiv a b ≤ 2147483647 := by
  by_cases hq : WoolMath.pdiv a b = 0
  · rw [hq]; omega
  have e := WoolMath.pdiv_eq a b
  have hr := WoolMath.pmod_lt a b hb
  obtain ⟨m1, m2⟩ := WoolMath.mul_log2 _ _ hq hb
  obtain ⟨t1, t2⟩ := WoolMath.top_of _ m1
  have h2 := WoolMath.xor_top _ _ _ t1 t2 (Nat.lt_of_lt_of_le hr (Nat.pow_le_pow_right (by omega) (by omega)))
  rw [← e] at h2
  have hal : a.log2 = (WoolMath.mul (WoolMath.pdiv a b) b).log2 := WoolMath.log2_of _ _ h2.1 h2.2
  have ha0 : a ≠ 0 := by intro h; subst h; simp [WoolMath.pdiv, WoolMath.divF] at hq
  have := (Nat.log2_lt ha0).2 (show a < 2 ^ 31 by omega)
  have hlt := WoolMath.lt_log2 (WoolMath.pdiv a b)
  have := Nat.pow_le_pow_right (n := 2) (by omega) (show (WoolMath.pdiv a b).log2 + 1 ≤ 31 by omega)
  omega

set_option maxRecDepth 100000 in
theorem div_ok (a b : Int) (w : World) (h0 : 0 ≤ a) (h1 : a ≤ 2147483647) (h2 : 0 < b) (h3 : b ≤ 2147483647) :
    Calls Try.prog 115 #[.int .i64 a, .int .i64 b] w fun e w' => e = .returned (.tuple #[.int .i64 (WoolMath.pdiv a.toNat b.toNat), .int .i64 (WoolMath.pmod a.toNat b.toNat), .int .i64 0]) ∧ Up w w' := by
  have hq := pdiv_le a.toNat b.toNat (by omega) (by omega)
  have hr := pmod_le a.toNat b.toNat (by omega) (by omega)
  have hz : (b == 0) = false := by rw [beq_eq_false_iff_ne]; omega
  go_enter Try.func115, Try.ntmps115
  go_wp2_with (first
    | (go_at_call 117; refine (checkAll_ok [a, b] _ 2 _ (by omega) rfl (row2 _ _ _ _) (all2 a b h0 h1 (by omega) h3)).mono ?_; rintro e w' ⟨rfl, rfl⟩)
    | (go_at_call 120; refine (divide_any _ _ _ h0 (by omega) h2 (by omega)).mono ?_; rintro e w' ⟨rfl, rfl⟩))
  go_ret3
  exact ⟨rfl, Up.alloc _ _⟩

set_option maxRecDepth 100000 in
theorem div_zero (a : Int) (w : World) (h0 : 0 ≤ a) (h1 : a ≤ 2147483647) :
    Calls Try.prog 115 #[.int .i64 a, .int .i64 0] w fun e w' => e = .returned (.tuple #[.int .i64 0, .int .i64 0, .int .i64 10]) ∧ Up w w' := by
  go_enter Try.func115, Try.ntmps115
  go_wp2_with (go_at_call 117; refine (checkAll_ok [a, 0] _ 2 _ (by omega) rfl (row2 _ _ _ _) (all2 a 0 h0 h1 (by omega) (by omega))).mono ?_; rintro e w' ⟨rfl, rfl⟩)
  go_ret3
  exact ⟨rfl, Up.alloc _ _⟩

set_option maxRecDepth 100000 in
theorem div_bad (a b : Int) (w : World) (h : a < 0 ∨ 2147483647 < a ∨ b < 0 ∨ 2147483647 < b) :
    Calls Try.prog 115 #[.int .i64 a, .int .i64 b] w fun e w' => e = .returned (.tuple #[.int .i64 0, .int .i64 0, .int .i64 1]) ∧ Up w w' := by
  have H := Lib.hid h
  clear h
  go_enter Try.func115, Try.ntmps115
  go_wp2_with (go_at_call 117; refine (checkAll_bad [a, b] _ 2 _ (by omega) rfl (row2 _ _ _ _) (bad2 a b H.out)).mono ?_; rintro e w' ⟨rfl, rfl⟩)
  go_ret3
  exact ⟨rfl, Up.alloc _ _⟩

/-! ytkobngbjffbjiaa# Gcd -/

def GcdRel (a b : Nat) (x y : Value) : Prop :=
  ∃ X Y : Nat, X ≤ 2147483647 ∧ Y ≤ 2147483647 ∧ (∀ g, WoolMath.IsGcd g X Y ↔ WoolMath.IsGcd g a b) ∧ x = .int .u64 X ∧ y = .int .u64 Y

/-- what Gcd hands back -/
def GcdPost (a b : Nat) (w : World) (e : Ending) (w' : World) : Prop :=
  ∃ g : Nat, g ≤ 2147483647 ∧ WoolMath.IsGcd g a b ∧ e = .returned (.tuple #[.int .i64 (g : Int), .int .i64 0]) ∧ Up w w'

/-! ytkobngbjffbjiaa# ModMul -/

set_option maxRecDepth 100000 in
theorem modMul_ok (a b m : Int) (w : World) (h0 : 0 ≤ a) (h1 : a ≤ 2147483647) (h2 : 0 ≤ b) (h3 : b ≤ 2147483647) (h4 : 0 < m) (h5 : m ≤ 2147483647) :
    Calls Try.prog 114 #[.int .i64 a, .int .i64 b, .int .i64 m] w fun e w' => e = .returned (.tuple #[.int .i64 (WoolMath.pmod (WoolMath.mul a.toNat b.toNat) m.toNat), .int .i64 0]) ∧ Up w w' := by
  have hf := mul_fits a.toNat b.toNat (by omega) (by omega)
  have hr := pmod_le (WoolMath.mul a.toNat b.toNat) m.toNat (by omega) (by omega)
  have hz : (m == 0) = false := by rw [beq_eq_false_iff_ne]; omega
  generalize hM : WoolMath.mul a.toNat b.toNat = M at *
  have HM := Lib.hid hM
  clear hM
  go_enter Try.func114, Try.ntmps114
  go_wp2_with (first
    | (go_at_call 117; refine (checkAll_ok [a, b, m] _ 3 _ (by omega) rfl (row3 _ _ _ _ _) (all3 a b m h0 h1 h2 h3 (by omega) h5)).mono ?_; rintro e w' ⟨rfl, rfl⟩)
    | (go_at_call 119; refine (product_any _ _ _ h0 (by omega) h2 (by omega)).mono ?_; rintro e w' ⟨rfl, rfl⟩; rw [HM.out])
    | (go_at_call 118; refine (remainder_any _ _ _ (by omega) (by omega) (by omega) (by omega)).mono ?_; rintro e w' ⟨rfl, rfl⟩; rw [Int.toNat_natCast]))
  go_ret2
  exact ⟨rfl, Up.alloc _ _⟩

set_option maxRecDepth 100000 in
theorem modMul_zero (a b : Int) (w : World) (h0 : 0 ≤ a) (h1 : a ≤ 2147483647) (h2 : 0 ≤ b) (h3 : b ≤ 2147483647) :
    Calls Try.prog 114 #[.int .i64 a, .int .i64 b, .int .i64 0] w fun e w' => e = .returned (.tuple #[.int .i64 0, .int .i64 10]) ∧ Up w w' := by
  go_enter Try.func114, Try.ntmps114
  go_wp2_with (go_at_call 117; refine (checkAll_ok [a, b, 0] _ 3 _ (by omega) rfl (row3 _ _ _ _ _) (all3 a b 0 h0 h1 h2 h3 (by omega) (by omega))).mono ?_; rintro e w' ⟨rfl, rfl⟩)
  go_ret2
  exact ⟨rfl, Up.alloc _ _⟩

set_option maxRecDepth 100000 in
theorem modMul_bad (a b m : Int) (w : World) (h : a < 0 ∨ 2147483647 < a ∨ b < 0 ∨ 2147483647 < b ∨ m < 0 ∨ 2147483647 < m) :
    Calls Try.prog 114 #[.int .i64 a, .int .i64 b, .int .i64 m] w fun e w' => e = .returned (.tuple #[.int .i64 0, .int .i64 1]) ∧ Up w w' := by
  have H := Lib.hid h
  clear h
  go_enter Try.func114, Try.ntmps114
  go_wp2_with (go_at_call 117; refine (checkAll_bad [a, b, m] _ 3 _ (by omega) rfl (row3 _ _ _ _ _) (bad3 a b m H.out)).mono ?_; rintro e w' ⟨rfl, rfl⟩)
  go_ret2
  exact ⟨rfl, Up.alloc _ _⟩

/-! ytkobngbjffbjiaa# ModPow -/

def PowRel (a n m : Nat) (x k p : Value) : Prop :=
  ∃ X N P : Nat, X < 1073741824 ∧ N < 9223372036854775808 ∧ P < 1073741824 ∧ WoolMath.pmod (WoolMath.mul P (WoolMath.pw X N)) m = WoolMath.pmod (WoolMath.pw a n) m ∧
    WoolMath.pmod P m = P ∧ x = .int .u64 X ∧ k = .int .i64 N ∧ p = .int .u64 P

theorem pow_turn (a n m X N P Y Q : Nat) (hm : m ≠ 0) (h : WoolMath.pmod (WoolMath.mul P (WoolMath.pw X N)) m = WoolMath.pmod (WoolMath.pw a n) m)
    (hY : Y = WoolMath.pmod (WoolMath.mul X X) m) (hQ : Q = if N % 2 = 1 then WoolMath.pmod (WoolMath.mul P X) m else P) :
    WoolMath.pmod (WoolMath.mul Q (WoolMath.pw Y (N / 2))) m = WoolMath.pmod (WoolMath.pw a n) m := by
  rw [← h, ← WoolMath.pmod_mul_right _ _ _ hm, hY, WoolMath.pmod_pw _ _ _ hm, WoolMath.pmod_mul_right _ _ _ hm, ← WoolMath.pw_double]
  by_cases ho : N % 2 = 1
  · rw [hQ, if_pos ho, WoolMath.pmod_mul_left _ _ _ hm]
    congr 1
    have e : N = 2 * (N / 2) + 1 := by omega
    generalize N / 2 = K at *
    subst e
    rw [WoolMath.pw_succ, WoolMath.mul_assoc, WoolMath.mul_comm X]
  · rw [hQ, if_neg ho]
    congr 2
    congr 1
    omega

end Go.Proofs.Ytkobngbjffbjiaa

/-
  What the laws' helper Within returns: a number below the bound, for every int. Conditions: the bound is at least 1.
-/
namespace Go.Proofs.Ytkobngbjffbjiaa
open Go.RowKit
open Go.Proofs

/-- a number from 0 to n-1 by a number of any sort -/
def within (k : Int) (n : Nat) : Nat := (k % 18446744073709551616 % n).toNat

theorem within_lt (k : Int) (n : Nat) (h : 0 < n) : within k n < n := by
  unfold within
  have := Int.emod_lt_of_pos (k % 18446744073709551616) (show (0 : Int) < n by omega)
  have := Int.emod_nonneg (k % 18446744073709551616) (show (n : Int) ≠ 0 by omega)
  omega

theorem within_cast (k : Int) (n : Nat) (h : 0 < n) : ((within k n : Nat) : Int) = k % 18446744073709551616 % n := by
  unfold within
  have := Int.emod_nonneg (k % 18446744073709551616) (show (n : Int) ≠ 0 by omega)
  omega

theorem within_wrap (k : Int) (n : Nat) (h : 0 < n) (h1 : (n : Int) ≤ 9223372036854775807) : wrap64 ((IntKind.u64.wrap k).tmod n) = (within k n : Int) := by
  rw [IntKind.wrap_u64, Int.tmod_eq_emod_of_nonneg (Int.emod_nonneg _ (by decide)), ← within_cast k n h]
  have := within_lt k n h
  unfold wrap64
  omega

set_option maxRecDepth 100000 in
theorem within_any (k n : Int) (w : World) (h0 : 0 < n) (h1 : n ≤ 9223372036854775807) :
    Calls Try.prog 47 #[.int .i64 k, .int .i64 n] w fun e w' => e = .returned (.int .i64 (within k n.toNat)) ∧ w = w' := by
  obtain ⟨N, rfl⟩ := Int.eq_ofNat_of_zero_le (show 0 ≤ n by omega)
  rw [Int.toNat_natCast]
  have H := Lib.hid (congrArg (fun z => Ending.returned (.int .i64 z)) (within_wrap k N (by omega) h1))
  go_enter Try.func47, Try.ntmps47
  go_wp2
  go_ret
  exact ⟨H.out, rfl⟩

def InBelow (N : Nat) (w : World) (e : Ending) (w' : World) : Prop := ∃ D : Nat, D < N ∧ e = .returned (.int .i64 (D : Int)) ∧ w = w'

/-- some number below the bound -/
theorem within_some (k n : Int) (N : Nat) (w : World) (hn : n = (N : Int)) (h0 : 0 < N) (h1 : N ≤ 1000000000) :
    Calls Try.prog 47 #[.int .i64 k, .int .i64 n] w (InBelow N w) := by
  subst hn
  refine (within_any k (N : Int) w (by omega) (by omega)).mono ?_
  rintro e w' ⟨rfl, rfl⟩
  exact ⟨_, within_lt _ _ h0, by rw [Int.toNat_natCast], rfl⟩

end Go.Proofs.Ytkobngbjffbjiaa

/-
  What the laws' small helpers Within and less return: a number below the bound, for every int. Conditions: the bound is at least 1 (less: at most 62 bits).
-/
namespace Go.Proofs.Ytkobngbjffbjiaa
open Go.RowKit
open Go.Proofs

/-! ytkobngbjffbjiaa# the contracts at natural numbers -/

theorem divN (A B : Nat) (w : World) (hA : A ≤ 2147483647) (hB0 : 0 < B) (hB : B ≤ 2147483647) :
    Calls Try.prog 115 #[.int .i64 (A : Int), .int .i64 (B : Int)] w fun e w' => e = .returned (.tuple #[.int .i64 (WoolMath.pdiv A B : Nat), .int .i64 (WoolMath.pmod A B : Nat), .int .i64 0]) ∧ Up w w' := by
  have := div_ok (A : Int) (B : Int) w (by omega) (by omega) (by omega) (by omega)
  rwa [Int.toNat_natCast, Int.toNat_natCast] at this

theorem modMulN (A B M : Nat) (w : World) (hA : A ≤ 2147483647) (hB : B ≤ 2147483647) (hM0 : 0 < M) (hM : M ≤ 2147483647) :
    Calls Try.prog 114 #[.int .i64 (A : Int), .int .i64 (B : Int), .int .i64 (M : Int)] w fun e w' => e = .returned (.tuple #[.int .i64 (WoolMath.pmod (WoolMath.mul A B) M : Nat), .int .i64 0]) ∧ Up w w' := by
  have := modMul_ok (A : Int) (B : Int) (M : Int) w (by omega) (by omega) (by omega) (by omega) (by omega) (by omega)
  rwa [Int.toNat_natCast, Int.toNat_natCast, Int.toNat_natCast] at this

/-- ten (nine) errors that are none, in a row of the law's own -/
theorem zeros10 (w : World) (t : TypeId) (k : Nat) (h : k < 10) :
    (w.alloc (.cells #[.int .i64 0, .int .i64 0, .int .i64 0, .int .i64 0, .int .i64 0, .int .i64 0, .int .i64 0, .int .i64 0, .int .i64 0, .int .i64 0] t)).cell? ⟨w.heap.size, k, none⟩ = some (.int .i64 0) := by
  match k, h with
  | 0, _ => go_simp
  | 1, _ => go_simp
  | 2, _ => go_simp
  | 3, _ => go_simp
  | 4, _ => go_simp
  | 5, _ => go_simp
  | 6, _ => go_simp
  | 7, _ => go_simp
  | 8, _ => go_simp
  | 9, _ => go_simp

theorem zeros9 (w : World) (t : TypeId) (k : Nat) (h : k < 9) :
    (w.alloc (.cells #[.int .i64 0, .int .i64 0, .int .i64 0, .int .i64 0, .int .i64 0, .int .i64 0, .int .i64 0, .int .i64 0, .int .i64 0] t)).cell? ⟨w.heap.size, k, none⟩ = some (.int .i64 0) := by
  match k, h with
  | 0, _ => go_simp
  | 1, _ => go_simp
  | 2, _ => go_simp
  | 3, _ => go_simp
  | 4, _ => go_simp
  | 5, _ => go_simp
  | 6, _ => go_simp
  | 7, _ => go_simp
  | 8, _ => go_simp

end Go.Proofs.Ytkobngbjffbjiaa

/-
  What the functions of package print return, at every argument: the error that the document lists first, else the fingerprint by the plain mathematics of polynomials. Conditions: the arguments are ints and strings.
-/
namespace Go.Proofs.Ytkobngbjffbjiaa
open Go.RowKit
open Go.Proofs

/-- a text as a polynomial: a 1, and its bits behind it -/
def sp (l : List UInt8) : Nat := l.foldl (fun p c => WoolMath.mul p 256 ^^^ c.toNat) 1

theorem sp_nil : sp [] = 1 := rfl
theorem sp_snoc (l : List UInt8) (c : UInt8) : sp (l ++ [c]) = WoolMath.mul (sp l) 256 ^^^ c.toNat := by
  unfold sp; rw [List.foldl_append]; rfl

/-- the fingerprint -/
def fp (M : Nat) (l : List UInt8) : Nat := WoolMath.pmod (sp l) M

theorem fp_nil (M : Nat) (h : 2 ≤ M) : fp M [] = 1 := by
  unfold fp
  rw [sp_nil]
  refine WoolMath.pmod_small _ _ (by omega) ?_
  have h1 : 1 ≤ M.log2 := (Nat.le_log2 (by omega)).2 h
  exact Nat.one_lt_two_pow (by omega)

theorem fp_snoc (M : Nat) (h : 2 ≤ M) (l : List UInt8) (c : UInt8) :
    fp M (l ++ [c]) = WoolMath.pmod (WoolMath.mul (fp M l) 256) M ^^^ WoolMath.pmod c.toNat M := by
  unfold fp
  rw [sp_snoc, WoolMath.pmod_xor _ _ _ (by omega), WoolMath.pmod_mul_left _ _ _ (by omega)]

theorem fp_lt (M : Nat) (h : 2 ≤ M) (l : List UInt8) : fp M l < 2 ^ M.log2 := WoolMath.pmod_lt _ _ (by omega)
theorem fp_le (M : Nat) (h : 2 ≤ M) (h2 : M ≤ 2147483647) (l : List UInt8) : fp M l < 1073741824 := pmod_le _ _ (by omega) h2

theorem mod_ok (m : Int) (w : World) (h0 : 2 ≤ m) (h1 : m ≤ 2147483647) :
    Calls Try.prog 108 #[.int .i64 m] w fun e w' => e = .returned (.int .i64 0) ∧ w = w' := by
  have d1 : decide (m < 2) = false := by rw [decide_eq_false_iff_not]; omega
  go_enter Try.func108, Try.ntmps108
  go_wp2_with (go_at_call 113; refine (check_ok _ _ (by omega) h1).mono ?_; rintro e w' ⟨rfl, rfl⟩)
  go_ret
  exact ⟨rfl, rfl⟩

theorem mod_bad (m : Int) (w : World) (h : m < 2 ∨ 2147483647 < m) :
    Calls Try.prog 108 #[.int .i64 m] w fun e w' => e = .returned (.int .i64 1) ∧ w = w' := by
  by_cases h0 : m < 2
  · have d1 : decide (m < 2) = true := by rw [decide_eq_true_iff]; omega
    clear h
    go_enter Try.func108, Try.ntmps108
    go_wp2
    go_ret
    exact ⟨rfl, rfl⟩
  · have d1 : decide (m < 2) = false := by rw [decide_eq_false_iff_not]; omega
    have hb : m < 0 ∨ 2147483647 < m := by omega
    have HB := Lib.hid hb
    clear h hb
    go_enter Try.func108, Try.ntmps108
    go_wp2_with (go_at_call 113; refine (check_bad _ _ HB.out).mono ?_; rintro e w' ⟨rfl, rfl⟩)
    go_ret
    exact ⟨rfl, rfl⟩

theorem times_any (A B M : Nat) (w : World) (hA : A ≤ 2147483647) (hB : B ≤ 2147483647) (hM0 : 0 < M) (hM : M ≤ 2147483647) :
    Calls Try.prog 109 #[.int .i64 (A : Int), .int .i64 (B : Int), .int .i64 (M : Int)] w fun e w' => e = .returned (.int .i64 (WoolMath.pmod (WoolMath.mul A B) M : Nat)) ∧ Up w w' := by
  generalize hR : WoolMath.pmod (WoolMath.mul A B) M = R
  have HR := Lib.hid hR
  clear hR
  go_enter Try.func109, Try.ntmps109
  go_wp2_with fail
  refine (modMulN A B M _ hA hB hM0 hM).mono ?_
  rintro e w1 ⟨rfl, u1⟩
  rw [HR.out]
  go_wp2_with fail
  go_ret
  exact ⟨rfl, u1⟩

theorem prem_any (A M : Nat) (w : World) (hA : A ≤ 2147483647) (hM0 : 0 < M) (hM : M ≤ 2147483647) :
    Calls Try.prog 110 #[.int .i64 (A : Int), .int .i64 (M : Int)] w fun e w' => e = .returned (.int .i64 (WoolMath.pmod A M : Nat)) ∧ Up w w' := by
  generalize hR : WoolMath.pmod A M = R
  have HR := Lib.hid hR
  clear hR
  go_enter Try.func110, Try.ntmps110
  go_wp2_with fail
  refine (divN A M _ hA hM0 hM).mono ?_
  rintro e w1 ⟨rfl, u1⟩
  rw [HR.out]
  generalize WoolMath.pdiv A M = Q at *
  go_wp2_with fail
  go_ret
  exact ⟨rfl, u1⟩

/-! ytkobngbjffbjiaa# Of -/

def OfRel (M : Nat) (s : ByteArray) (w : World) (p i : Value) (wr : World) : Prop :=
  ∃ k : Nat, k ≤ s.size ∧ i = .int .i64 k ∧ p = .int .i64 (fp M (s.data.toList.take k) : Nat) ∧ Up w wr

set_option maxRecDepth 100000 in
set_option maxHeartbeats 400000 in
theorem of_ok (M : Nat) (s : ByteArray) (w : World) (h0 : 2 ≤ M) (h1 : M ≤ 2147483647) (hs : s.size ≤ 600) :
    Calls Try.prog 102 #[.int .i64 (M : Int), .string s] w fun e w' => e = .returned (.tuple #[.int .i64 (fp M s.data.toList : Nat), .int .i64 0]) ∧ Up w w' := by
  generalize hF : fp M s.data.toList = F
  have HF := Lib.hid hF
  clear hF
  go_enter Try.func102, Try.ntmps102
  go_wp2_with (go_at_call 108; refine (mod_ok _ _ (by omega) (by omega)).mono ?_; rintro e w' ⟨rfl, rfl⟩)
  go_loopw [7, 19] (fun p i wr => OfRel M s w p i wr) (fun _ i _ => s.size - (intOf i).toNat)
  case atStart => exact ⟨0, by omega, rfl, by rw [List.take_zero, fp_nil M h0]; rfl, Up.refl w⟩
  case round =>
    obtain ⟨k, hk, rfl, rfl, hu⟩ := hrel
    have hlt0 := fp_le M h0 h1 (s.data.toList.take k)
    by_cases hlt : k < s.size
    · have hsn := fp_snoc M h0 (s.data.toList.take k) s[k]
      rw [← take_snoc s k hlt] at hsn
      have hc : s[k].toNat < 256 := UInt8.toNat_lt _
      have hx := i64_xor_nat (WoolMath.pmod (WoolMath.mul (fp M (s.data.toList.take k)) 256) M) (WoolMath.pmod s[k].toNat M) (Nat.lt_trans (pmod_le _ _ (by omega) h1) (by decide)) (Nat.lt_trans (pmod_le _ _ (by omega) h1) (by decide))
      rw [← hsn] at hx
      generalize hP : fp M (s.data.toList.take k) = P at *
      generalize hQ : fp M (s.data.toList.take (k + 1)) = Q at *
      generalize hX : WoolMath.pmod (WoolMath.mul P 256) M = X at *
      generalize hY : WoolMath.pmod s[k].toNat M = Y at *
      have HU := Lib.hid hu
      have HQ := Lib.hid hQ
      have HX := Lib.hid hX
      have HY := Lib.hid hY
      have HXY := Lib.hid hx
      have HW := Lib.hid (wrap_i64_nat s[k].toNat (by omega))
      clear hu hQ hP hX hY hsn hx
      go_wp2_with fail
      go_region_held3 (fun _ => True) (trivial) (first
        | (go_at_call 109; refine (times_any P 256 M _ (by omega) (by omega) (by omega) (by omega)).mono ?_; rintro e w1 ⟨rfl, u1⟩; rw [HX.out])
        | (go_at_call 110; rw [HW.out]; refine (prem_any s[k].toNat M _ (by omega) (by omega) (by omega)).mono ?_; rintro e w2 ⟨rfl, u2⟩; rw [HY.out]))
      all_goals
        rw [HXY.out]
        go_wp2_with fail
        go_roundw
        case rel => exact ⟨k + 1, by omega, by go_num, by rw [HQ.out], ((HU.out.trans (Below.drew (Up.refl _))).trans u1).trans u2⟩
        case measure => simp only [intOf]; omega
    · obtain rfl : k = s.size := by omega
      have HT := Lib.hid (show s.data.toList.take s.size = s.data.toList from List.take_of_length_le (by simp))
      rw [HT.out]
      rw [HF.out] at *
      go_wp2_with fail
      go_ret2
      exact ⟨rfl, hu⟩

set_option maxRecDepth 100000 in
theorem of_long (M : Nat) (s : ByteArray) (w : World) (h0 : 2 ≤ M) (h1 : M ≤ 2147483647) (hs : 600 < s.size) :
    Calls Try.prog 102 #[.int .i64 (M : Int), .string s] w fun e w' => e = .returned (.tuple #[.int .i64 0, .int .i64 2]) ∧ w = w' := by
  go_enter Try.func102, Try.ntmps102
  go_wp2_with (go_at_call 108; refine (mod_ok _ _ (by omega) (by omega)).mono ?_; rintro e w' ⟨rfl, rfl⟩)
  go_ret2
  exact ⟨rfl, rfl⟩

set_option maxRecDepth 100000 in
theorem of_bad (m : Int) (s : ByteArray) (w : World) (h : m < 2 ∨ 2147483647 < m) :
    Calls Try.prog 102 #[.int .i64 m, .string s] w fun e w' => e = .returned (.tuple #[.int .i64 0, .int .i64 1]) ∧ w = w' := by
  have H := Lib.hid h
  clear h
  go_enter Try.func102, Try.ntmps102
  go_wp2_with (go_at_call 108; refine (mod_bad _ _ H.out).mono ?_; rintro e w' ⟨rfl, rfl⟩)
  go_ret2
  exact ⟨rfl, rfl⟩

/-- Of, whatever it answers -/
def OfPost (w : World) (e : Ending) (w' : World) : Prop := ∃ V E : Int, e = .returned (.tuple #[.int .i64 V, .int .i64 E]) ∧ Up w w'

theorem of_any (M : Nat) (s : ByteArray) (w : World) (h0 : 2 ≤ M) (h1 : M ≤ 2147483647) :
    Calls Try.prog 102 #[.int .i64 (M : Int), .string s] w (OfPost w) := by
  by_cases h : s.size ≤ 600
  · exact (of_ok M s w h0 h1 h).mono fun e w' ⟨he, hu⟩ => ⟨_, _, he, hu⟩
  · exact (of_long M s w h0 h1 (by omega)).mono fun e w' ⟨he, hu⟩ => ⟨_, _, he, Up.of_eq hu⟩

/-! ytkobngbjffbjiaa# Join, Roll -/

/-- is a a rest by m? -/
def isRest (a : Int) (M : Nat) : Prop := 0 ≤ a ∧ a < ((2 ^ M.log2 : Nat) : Int)

theorem pow_log2_le (M : Nat) (h0 : M ≠ 0) (h : M ≤ 2147483647) : 2 ^ M.log2 ≤ 1073741824 := by
  have := (Nat.log2_lt h0).2 (show M < 2 ^ 31 by omega)
  exact Nat.pow_le_pow_right (n := 2) (by omega) (show M.log2 ≤ 30 by omega)

theorem rest_blen (A M : Nat) (h : 2 ≤ M) : A < 2 ^ M.log2 ↔ WoolMath.blen A < WoolMath.blen M := by
  rw [WoolMath.blen_pos M (by omega)]
  constructor
  · intro h1
    have := WoolMath.blen_le A _ h1
    omega
  · intro h1
    exact Nat.lt_of_lt_of_le (WoolMath.lt_blen A) (Nat.pow_le_pow_right (by omega) (by omega))

/-- what Join answers -/
def joinV (M A B N : Nat) : Nat := WoolMath.pmod (WoolMath.mul A (WoolMath.pmod (WoolMath.pw 256 N) M)) M ^^^ B ^^^ WoolMath.pmod (WoolMath.pw 256 N) M

theorem lt63 (a : Nat) (h : a < 1073741824) : a < 9223372036854775808 := by omega

end Go.Proofs.Ytkobngbjffbjiaa
