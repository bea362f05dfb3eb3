/-
  The texts Poly2, Within, Keep, Math2, Prime, Facts, one behind the other; each says below what it holds and on what conditions.
-/
import Derived.Test.YtnmdfdkagkpcaaaJVolOwn03
import Derived.Test.YtnmdfdkagkpcaaaJVolOwn01
import Derived.Test.YtnmdfdkagkpcaaaJVolOwn02
import Derived.OwnWalk
import Derived.Laws.OwnMore
import Derived.BigRegion
import Derived.BigQuiet

/-
  What Div, Gcd, ModMul and ModPow of package poly return, at every argument. Conditions: the arguments are ints.
-/
namespace Go.Proofs.Ytnmdfdkagkpcaaa
open Go.RowKit
open Go.Proofs

theorem pmod_le (a b : Nat) (hb : b ≠ 0) (hb2 : b ≤ 2147483647) : WoolMath.pmod a b < 1073741824 := by
  have h := WoolMath.pmod_lt a b hb
  have hl : b.log2 ≤ 30 := by
    have := (Nat.log2_lt hb).2 (show b < 2 ^ 31 by omega)
    omega
  exact Nat.lt_of_lt_of_le h (Nat.pow_le_pow_right (n := 2) (by omega) hl)

theorem pdiv_le (a b : Nat) (hb : b ≠ 0) (ha : a ≤ 2147483647) : WoolMath.pdiv a b ≤ 2147483647 := by
  by_cases hq : WoolMath.pdiv a b = 0
  · rw [hq]; omega
  have e := WoolMath.pdiv_eq a b
  have hr := WoolMath.pmod_lt a b hb
  obtain ⟨m1, m2⟩ := WoolMath.mul_log2 _ _ hq hb
  obtain ⟨t1, t2⟩ := WoolMath.top_of _ m1
  have h2 := WoolMath.xor_top _ _ _ t1 t2 (Nat.lt_of_lt_of_le hr (Nat.pow_le_pow_right (by omega) (by omega)))
  rw [← e] at h2
  have hal : a.log2 = (WoolMath.mul (WoolMath.pdiv a b) b).log2 := WoolMath.log2_of _ _ h2.1 h2.2
  have ha0 : a ≠ 0 := by intro h; subst h; simp [WoolMath.pdiv, WoolMath.divF] at hq
  have := (Nat.log2_lt ha0).2 (show a < 2 ^ 31 by omega)
  have hlt := WoolMath.lt_log2 (WoolMath.pdiv a b)
  have := Nat.pow_le_pow_right (n := 2) (by omega) (show (WoolMath.pdiv a b).log2 + 1 ≤ 31 by omega)
  omega

set_option maxRecDepth 100000 in
theorem div_ok (a b : Int) (w : World) (h0 : 0 ≤ a) (h1 : a ≤ 2147483647) (h2 : 0 < b) (h3 : b ≤ 2147483647) :
    Calls Try.prog 102 #[.int .i64 a, .int .i64 b] w fun e w' => e = .returned (.tuple #[.int .i64 (WoolMath.pdiv a.toNat b.toNat), .int .i64 (WoolMath.pmod a.toNat b.toNat), .int .i64 0]) ∧ Up w w' := by
  have hq := pdiv_le a.toNat b.toNat (by omega) (by omega)
  have hr := pmod_le a.toNat b.toNat (by omega) (by omega)
  have hz : (b == 0) = false := by rw [beq_eq_false_iff_ne]; omega
  go_enter Try.func102, Try.ntmps102
  go_wp2_with (first
    | (go_at_call 104; refine (checkAll_ok [a, b] _ 2 _ (by omega) rfl (row2 _ _ _ _) (all2 a b h0 h1 (by omega) h3)).mono ?_; rintro e w' ⟨rfl, rfl⟩)
    | (go_at_call 107; refine (divide_any _ _ _ h0 (by omega) h2 (by omega)).mono ?_; rintro e w' ⟨rfl, rfl⟩))
  go_ret3
  exact ⟨rfl, Up.alloc _ _⟩

set_option maxRecDepth 100000 in
theorem div_zero (a : Int) (w : World) (h0 : 0 ≤ a) (h1 : a ≤ 2147483647) :
    Calls Try.prog 102 #[.int .i64 a, .int .i64 0] w fun e w' => e = .returned (.tuple #[.int .i64 0, .int .i64 0, .int .i64 10]) ∧ Up w w' := by
  go_enter Try.func102, Try.ntmps102
  go_wp2_with (go_at_call 104; refine (checkAll_ok [a, 0] _ 2 _ (by omega) rfl (row2 _ _ _ _) (all2 a 0 h0 h1 (by omega) (by omega))).mono ?_; rintro e w' ⟨rfl, rfl⟩)
  go_ret3
  exact ⟨rfl, Up.alloc _ _⟩

set_option maxRecDepth 100000 in
theorem div_bad (a b : Int) (w : World) (h : a < 0 ∨ 2147483647 < a ∨ b < 0 ∨ 2147483647 < b) :
    Calls Try.prog 102 #[.int .i64 a, .int .i64 b] w fun e w' => e = .returned (.tuple #[.int .i64 0, .int .i64 0, .int .i64 1]) ∧ Up w w' := by
  have H := Lib.hid h
  clear h
  go_enter Try.func102, Try.ntmps102
  go_wp2_with (go_at_call 104; refine (checkAll_bad [a, b] _ 2 _ (by omega) rfl (row2 _ _ _ _) (bad2 a b H.out)).mono ?_; rintro e w' ⟨rfl, rfl⟩)
  go_ret3
  exact ⟨rfl, Up.alloc _ _⟩

/-! ytnmdfdkagkpcaaa# Gcd -/

def GcdRel (a b : Nat) (x y : Value) : Prop :=
  ∃ X Y : Nat, X ≤ 2147483647 ∧ Y ≤ 2147483647 ∧ (∀ g, WoolMath.IsGcd g X Y ↔ WoolMath.IsGcd g a b) ∧ x = .int .u64 X ∧ y = .int .u64 Y

/-- what Gcd hands back -/
def GcdPost (a b : Nat) (w : World) (e : Ending) (w' : World) : Prop :=
  ∃ g : Nat, g ≤ 2147483647 ∧ WoolMath.IsGcd g a b ∧ e = .returned (.tuple #[.int .i64 (g : Int), .int .i64 0]) ∧ Up w w'

/-! ytnmdfdkagkpcaaa# ModMul -/

set_option maxRecDepth 100000 in
theorem modMul_ok (a b m : Int) (w : World) (h0 : 0 ≤ a) (h1 : a ≤ 2147483647) (h2 : 0 ≤ b) (h3 : b ≤ 2147483647) (h4 : 0 < m) (h5 : m ≤ 2147483647) :
    Calls Try.prog 101 #[.int .i64 a, .int .i64 b, .int .i64 m] w fun e w' => e = .returned (.tuple #[.int .i64 (WoolMath.pmod (WoolMath.mul a.toNat b.toNat) m.toNat), .int .i64 0]) ∧ Up w w' := by
  have hf := mul_fits a.toNat b.toNat (by omega) (by omega)
  have hr := pmod_le (WoolMath.mul a.toNat b.toNat) m.toNat (by omega) (by omega)
  have hz : (m == 0) = false := by rw [beq_eq_false_iff_ne]; omega
  generalize hM : WoolMath.mul a.toNat b.toNat = M at *
  have HM := Lib.hid hM
  clear hM
  go_enter Try.func101, Try.ntmps101
  go_wp2_with (first
    | (go_at_call 104; refine (checkAll_ok [a, b, m] _ 3 _ (by omega) rfl (row3 _ _ _ _ _) (all3 a b m h0 h1 h2 h3 (by omega) h5)).mono ?_; rintro e w' ⟨rfl, rfl⟩)
    | (go_at_call 106; refine (product_any _ _ _ h0 (by omega) h2 (by omega)).mono ?_; rintro e w' ⟨rfl, rfl⟩; rw [HM.out])
    | (go_at_call 105; refine (remainder_any _ _ _ (by omega) (by omega) (by omega) (by omega)).mono ?_; rintro e w' ⟨rfl, rfl⟩; rw [Int.toNat_natCast]))
  go_ret2
  exact ⟨rfl, Up.alloc _ _⟩

set_option maxRecDepth 100000 in
theorem modMul_zero (a b : Int) (w : World) (h0 : 0 ≤ a) (h1 : a ≤ 2147483647) (h2 : 0 ≤ b) (h3 : b ≤ 2147483647) :
    Calls Try.prog 101 #[.int .i64 a, .int .i64 b, .int .i64 0] w fun e w' => e = .returned (.tuple #[.int .i64 0, .int .i64 10]) ∧ Up w w' := by
  go_enter Try.func101, Try.ntmps101
  go_wp2_with (go_at_call 104; refine (checkAll_ok [a, b, 0] _ 3 _ (by omega) rfl (row3 _ _ _ _ _) (all3 a b 0 h0 h1 h2 h3 (by omega) (by omega))).mono ?_; rintro e w' ⟨rfl, rfl⟩)
  go_ret2
  exact ⟨rfl, Up.alloc _ _⟩

set_option maxRecDepth 100000 in
theorem modMul_bad (a b m : Int) (w : World) (h : a < 0 ∨ 2147483647 < a ∨ b < 0 ∨ 2147483647 < b ∨ m < 0 ∨ 2147483647 < m) :
    Calls Try.prog 101 #[.int .i64 a, .int .i64 b, .int .i64 m] w fun e w' => e = .returned (.tuple #[.int .i64 0, .int .i64 1]) ∧ Up w w' := by
  have H := Lib.hid h
  clear h
  go_enter Try.func101, Try.ntmps101
  go_wp2_with (go_at_call 104; refine (checkAll_bad [a, b, m] _ 3 _ (by omega) rfl (row3 _ _ _ _ _) (bad3 a b m H.out)).mono ?_; rintro e w' ⟨rfl, rfl⟩)
  go_ret2
  exact ⟨rfl, Up.alloc _ _⟩

/-! ytnmdfdkagkpcaaa# ModPow -/

def PowRel (a n m : Nat) (x k p : Value) : Prop :=
  ∃ X N P : Nat, X < 1073741824 ∧ N < 9223372036854775808 ∧ P < 1073741824 ∧ WoolMath.pmod (WoolMath.mul P (WoolMath.pw X N)) m = WoolMath.pmod (WoolMath.pw a n) m ∧
    WoolMath.pmod P m = P ∧ x = .int .u64 X ∧ k = .int .i64 N ∧ p = .int .u64 P

theorem pow_turn (a n m X N P Y Q : Nat) (hm : m ≠ 0) (h : WoolMath.pmod (WoolMath.mul P (WoolMath.pw X N)) m = WoolMath.pmod (WoolMath.pw a n) m)
    (hY : Y = WoolMath.pmod (WoolMath.mul X X) m) (hQ : Q = if N % 2 = 1 then WoolMath.pmod (WoolMath.mul P X) m else P) :
    WoolMath.pmod (WoolMath.mul Q (WoolMath.pw Y (N / 2))) m = WoolMath.pmod (WoolMath.pw a n) m := by
  rw [← h, ← WoolMath.pmod_mul_right _ _ _ hm, hY, WoolMath.pmod_pw _ _ _ hm, WoolMath.pmod_mul_right _ _ _ hm, ← WoolMath.pw_double]
  by_cases ho : N % 2 = 1
  · rw [hQ, if_pos ho, WoolMath.pmod_mul_left _ _ _ hm]
    congr 1
    have e : N = 2 * (N / 2) + 1 := by omega
    generalize N / 2 = K at *
    subst e
    rw [WoolMath.pw_succ, WoolMath.mul_assoc, WoolMath.mul_comm X]
  · rw [hQ, if_neg ho]
    congr 2
    congr 1
    omega

end Go.Proofs.Ytnmdfdkagkpcaaa

/-
  What the laws' helper Within returns: a number below the bound, for every int. Conditions: the bound is at least 1.
-/
namespace Go.Proofs.Ytnmdfdkagkpcaaa
open Go.RowKit
open Go.Proofs

/-- a number from 0 to n-1 by a number of any sort -/
def within (k : Int) (n : Nat) : Nat := (k % 18446744073709551616 % n).toNat

theorem within_lt (k : Int) (n : Nat) (h : 0 < n) : within k n < n := by
  unfold within
  have := Int.emod_lt_of_pos (k % 18446744073709551616) (show (0 : Int) < n by omega)
  have := Int.emod_nonneg (k % 18446744073709551616) (show (n : Int) ≠ 0 by omega)
  omega

theorem within_cast (k : Int) (n : Nat) (h : 0 < n) : ((within k n : Nat) : Int) = k % 18446744073709551616 % n := by
  unfold within
  have := Int.emod_nonneg (k % 18446744073709551616) (show (n : Int) ≠ 0 by omega)
  omega

theorem within_wrap (k : Int) (n : Nat) (h : 0 < n) (h1 : (n : Int) ≤ 9223372036854775807) : wrap64 ((IntKind.u64.wrap k).tmod n) = (within k n : Int) := by
  rw [IntKind.wrap_u64, Int.tmod_eq_emod_of_nonneg (Int.emod_nonneg _ (by decide)), ← within_cast k n h]
  have := within_lt k n h
  unfold wrap64
  omega

set_option maxRecDepth 100000 in
theorem within_any (k n : Int) (w : World) (h0 : 0 < n) (h1 : n ≤ 9223372036854775807) :
    Calls Try.prog 32 #[.int .i64 k, .int .i64 n] w fun e w' => e = .returned (.int .i64 (within k n.toNat)) ∧ w = w' := by
  obtain ⟨N, rfl⟩ := Int.eq_ofNat_of_zero_le (show 0 ≤ n by omega)
  rw [Int.toNat_natCast]
  have H := Lib.hid (congrArg (fun z => Ending.returned (.int .i64 z)) (within_wrap k N (by omega) h1))
  go_enter Try.func32, Try.ntmps32
  go_wp2
  go_ret
  exact ⟨H.out, rfl⟩

def InBelow (N : Nat) (w : World) (e : Ending) (w' : World) : Prop := ∃ D : Nat, D < N ∧ e = .returned (.int .i64 (D : Int)) ∧ w = w'

/-- some number below the bound -/
theorem within_some (k n : Int) (N : Nat) (w : World) (hn : n = (N : Int)) (h0 : 0 < N) (h1 : N ≤ 1000000000) :
    Calls Try.prog 32 #[.int .i64 k, .int .i64 n] w (InBelow N w) := by
  subst hn
  refine (within_any k (N : Int) w (by omega) (by omega)).mono ?_
  rintro e w' ⟨rfl, rfl⟩
  exact ⟨_, within_lt _ _ h0, by rw [Int.toNat_natCast], rfl⟩

end Go.Proofs.Ytnmdfdkagkpcaaa

/-
  What the laws' small helpers Within and less return: a number below the bound, for every int. Conditions: the bound is at least 1 (less: at most 62 bits).
-/
namespace Go.Proofs.Ytnmdfdkagkpcaaa
open Go.RowKit
open Go.Proofs

/-! ytnmdfdkagkpcaaa# the contracts at natural numbers -/

theorem divN (A B : Nat) (w : World) (hA : A ≤ 2147483647) (hB0 : 0 < B) (hB : B ≤ 2147483647) :
    Calls Try.prog 102 #[.int .i64 (A : Int), .int .i64 (B : Int)] w fun e w' => e = .returned (.tuple #[.int .i64 (WoolMath.pdiv A B : Nat), .int .i64 (WoolMath.pmod A B : Nat), .int .i64 0]) ∧ Up w w' := by
  have := div_ok (A : Int) (B : Int) w (by omega) (by omega) (by omega) (by omega)
  rwa [Int.toNat_natCast, Int.toNat_natCast] at this

theorem modMulN (A B M : Nat) (w : World) (hA : A ≤ 2147483647) (hB : B ≤ 2147483647) (hM0 : 0 < M) (hM : M ≤ 2147483647) :
    Calls Try.prog 101 #[.int .i64 (A : Int), .int .i64 (B : Int), .int .i64 (M : Int)] w fun e w' => e = .returned (.tuple #[.int .i64 (WoolMath.pmod (WoolMath.mul A B) M : Nat), .int .i64 0]) ∧ Up w w' := by
  have := modMul_ok (A : Int) (B : Int) (M : Int) w (by omega) (by omega) (by omega) (by omega) (by omega) (by omega)
  rwa [Int.toNat_natCast, Int.toNat_natCast, Int.toNat_natCast] at this

/-- ten (nine) errors that are none, in a row of the law's own -/
theorem zeros10 (w : World) (t : TypeId) (k : Nat) (h : k < 10) :
    (w.alloc (.cells #[.int .i64 0, .int .i64 0, .int .i64 0, .int .i64 0, .int .i64 0, .int .i64 0, .int .i64 0, .int .i64 0, .int .i64 0, .int .i64 0] t)).cell? ⟨w.heap.size, k, none⟩ = some (.int .i64 0) := by
  match k, h with
  | 0, _ => go_simp
  | 1, _ => go_simp
  | 2, _ => go_simp
  | 3, _ => go_simp
  | 4, _ => go_simp
  | 5, _ => go_simp
  | 6, _ => go_simp
  | 7, _ => go_simp
  | 8, _ => go_simp
  | 9, _ => go_simp

theorem zeros9 (w : World) (t : TypeId) (k : Nat) (h : k < 9) :
    (w.alloc (.cells #[.int .i64 0, .int .i64 0, .int .i64 0, .int .i64 0, .int .i64 0, .int .i64 0, .int .i64 0, .int .i64 0, .int .i64 0] t)).cell? ⟨w.heap.size, k, none⟩ = some (.int .i64 0) := by
  match k, h with
  | 0, _ => go_simp
  | 1, _ => go_simp
  | 2, _ => go_simp
  | 3, _ => go_simp
  | 4, _ => go_simp
  | 5, _ => go_simp
  | 6, _ => go_simp
  | 7, _ => go_simp
  | 8, _ => go_simp

end Go.Proofs.Ytnmdfdkagkpcaaa

/-
  Plain mathematics: the least divisor, the next irreducible polynomial, how many there are. Nothing of any program.
-/
namespace WoolMath

/-- f is the least number from 2 on that divides m -/
def IsLeast (f m : Nat) : Prop := 2 ≤ f ∧ dvd f m ∧ ∀ d, 2 ≤ d → d < f → ¬ dvd d m

theorem least_unique {f g m : Nat} (h : IsLeast f m) (k : IsLeast g m) : f = g := by
  rcases Nat.lt_trichotomy f g with hlt | rfl | hlt
  · exact absurd h.2.1 (k.2.2 f h.1 hlt)
  · rfl
  · exact absurd k.2.1 (h.2.2 g k.1 hlt)

theorem least_is_prime {f m : Nat} (h : IsLeast f m) : Prime f := least_prime h.1 h.2.1 h.2.2

theorem least_iff {f m : Nat} (h : IsLeast f m) : f = m ↔ Prime m := by
  constructor
  · rintro rfl; exact least_is_prime h
  · intro hp
    rcases hp.2 f h.2.1 with e | e
    · have := h.1; omega
    · exact e

theorem dvd_le_num {d a : Nat} (h : dvd d a) (ha : a ≠ 0) : d ≤ a := by
  by_cases e : d = a
  · omega
  · have hl := dvd_lt h ha e
    have h1 := lt_log2 d
    have h2 := (top_of a ha).1
    have := Nat.pow_le_pow_right (n := 2) (by omega) (show d.log2 + 1 ≤ a.log2 by omega)
    omega

/-- nothing up to half the degree: it is its own least divisor -/
theorem least_self {m : Nat} (hm : 2 ≤ m) (h : ∀ d, 2 ≤ d → d < 2 ^ (m.log2 / 2 + 1) → ¬ dvd d m) : IsLeast m m := by
  have hp := half_enough hm h
  refine ⟨hm, dvd_refl m, fun d h1 h2 hd => ?_⟩
  rcases hp.2 d hd with e | e <;> omega

theorem least_exists {m : Nat} (hm : 2 ≤ m) : ∃ f, IsLeast f m ∧ f ≤ m := by
  have key : ∀ n, 2 ≤ n → dvd n m → ∃ f, IsLeast f m ∧ f ≤ n := by
    intro n
    induction n using Nat.strongRecOn with
    | ind n ih =>
      intro h2 hd
      by_cases hex : ∃ d, 2 ≤ d ∧ d < n ∧ dvd d m
      · obtain ⟨d, d1, d2, d3⟩ := hex
        obtain ⟨f, f1, f2⟩ := ih d d2 d1 d3
        exact ⟨f, f1, by omega⟩
      · exact ⟨n, ⟨h2, hd, fun d d1 d2 d3 => hex ⟨d, d1, d2, d3⟩⟩, Nat.le_refl n⟩
  exact key m hm (dvd_refl m)

/-- p is the least irreducible one from m on -/
def IsNext (p m : Nat) : Prop := Prime p ∧ m ≤ p ∧ ∀ q, m ≤ q → q < p → ¬ Prime q

theorem next_exists {m q : Nat} (hq : Prime q) (h : m ≤ q) : ∃ p, IsNext p m ∧ p ≤ q := by
  have key : ∀ n, m ≤ n → Prime n → ∃ p, IsNext p m ∧ p ≤ n := by
    intro n
    induction n using Nat.strongRecOn with
    | ind n ih =>
      intro h2 hd
      by_cases hex : ∃ d, m ≤ d ∧ d < n ∧ Prime d
      · obtain ⟨d, d1, d2, d3⟩ := hex
        obtain ⟨f, f1, f2⟩ := ih d d2 d1 d3
        exact ⟨f, f1, by omega⟩
      · exact ⟨n, ⟨hd, h2, fun d d1 d2 d3 => hex ⟨d, d1, d2, d3⟩⟩, Nat.le_refl n⟩
  exact key q h hq

theorem next_unique {p q m : Nat} (h : IsNext p m) (k : IsNext q m) : p = q := by
  rcases Nat.lt_trichotomy p q with hlt | rfl | hlt
  · exact absurd h.1 (k.2.2 p h.2.1 hlt)
  · rfl
  · exact absurd k.1 (h.2.2 q k.2.1 hlt)

theorem prime_of (m : Nat) (h : isP m = true) : Prime m := (isP_iff m).1 h

/-- the list of factors -/
def IsFactors (l : List Nat) (m : Nat) : Prop := (∀ p, p ∈ l → Prime p) ∧ prodL l = m ∧ l.Pairwise (· ≤ ·)

theorem factors_unique {l k : List Nat} {m : Nat} (h1 : IsFactors l m) (h2 : IsFactors k m) : l = k :=
  unique_sorted l k h1.1 h2.1 (h1.2.1.trans h2.2.1.symm) h1.2.2 h2.2.2

theorem prime_factors_one {p : Nat} (hp : Prime p) : IsFactors [p] p := by
  refine ⟨fun q hq => ?_, ?_, List.pairwise_singleton _ _⟩
  · rw [List.mem_singleton] at hq; subst hq; exact hp
  · rw [prodL_cons, prodL_nil, mul_one]

end WoolMath

/-
  What the functions of package prime return, at every argument: by the least divisor. Conditions: the arguments are ints.
-/
namespace Go.Proofs.Ytnmdfdkagkpcaaa
open Go.RowKit
open Go.Proofs

/-- what leastFactor hands back -/
def LeastPost (m : Nat) (w : World) (e : Ending) (w' : World) : Prop :=
  ∃ f : Nat, WoolMath.IsLeast f m ∧ f ≤ m ∧ e = .returned (.int .i64 (f : Int)) ∧ Up w w'

def LeastRel (m from_ : Nat) (w : World) (d : Value) (wr : World) : Prop :=
  ∃ D : Nat, from_ ≤ D ∧ D ≤ 2147483647 ∧ (∀ e, 2 ≤ e → e < D → ¬ WoolMath.dvd e m) ∧ d = .int .i64 D ∧ Up w wr

/-! ytnmdfdkagkpcaaa# irreducible, Is, Next -/

def NextRel (m top : Nat) (w : World) (d : Value) (wr : World) : Prop :=
  ∃ D : Nat, m ≤ D ∧ D ≤ top ∧ (∀ q, m ≤ q → q < D → ¬ WoolMath.Prime q) ∧ d = .int .i64 D ∧ Up w wr

end Go.Proofs.Ytnmdfdkagkpcaaa

/-
  What prime.Factors, slices.Equal and slices.IsSorted (of ints) return: the list of irreducible factors, rising; whether two rows hold the same numbers; whether a row rises. Conditions: as each says.
-/
namespace Go.Proofs.Ytnmdfdkagkpcaaa
open Go.RowKit
open Go.Proofs

/-- numbers as cells -/
def intL (l : List Nat) : List Value := l.map fun x : Nat => .int .i64 (x : Int)

theorem intL_length (l : List Nat) : (intL l).length = l.length := by simp [intL]
theorem intL_get (l : List Nat) (j : Nat) (h : j < l.length) : (intL l)[j]? = some (.int .i64 ((l[j] : Nat) : Int)) := by
  simp [intL, h]
theorem intL_snoc (l : List Nat) (x : Nat) : intL (l ++ [x]) = intL l ++ [.int .i64 (x : Int)] := by simp [intL]

theorem intInfo : (Try.prog.info? 3).map (fun i => (i.zero, i.size, i.bytes)) = some (some (.int .i64 0), 1, 8) := by kernel_rfl

/-- a slice of ints that reads as a list of numbers -/
def Ints (w : World) (base : Nat) (v : Value) (l : List Nat) : Prop := w.ownsRow base 3 1 v l.length (intL l)

theorem Ints.up {w w' : World} {base : Nat} {v : Value} {l : List Nat} (h : Ints w base v l) (hu : Up w w') : Ints w' base v l := by
  refine ⟨h.1, ?_⟩
  rcases h.2 with h | ⟨g, cap, cur, h1, h2, h3, h4⟩
  · exact .inl h
  · refine .inr ⟨g, cap, cur, h1, h2, ?_, h4⟩
    have hg : g < w.heap.size := by
      rcases Nat.lt_or_ge g w.heap.size with hlt | hge
      · exact hlt
      · rw [Array.getElem?_eq_none hge] at h3; cases h3
    rw [← h3]; exact hu.block g hg

theorem Ints.weak {w : World} {base b2 : Nat} {v : Value} {l : List Nat} (h : Ints w base v l) (hb : b2 ≤ base) : Ints w b2 v l := by
  refine ⟨h.1, ?_⟩
  rcases h.2 with h | ⟨g, cap, cur, h1, h2, h3⟩
  · exact .inl h
  · exact .inr ⟨g, cap, cur, h1, Nat.le_trans hb h2, h3⟩

theorem Ints.shape {w : World} {base : Nat} {v : Value} {l : List Nat} (h : Ints w base v l) : ∃ o c, v = .slice o l.length c := by
  rcases h.2 with ⟨rfl, h0⟩ | ⟨g, cap, cur, rfl, _⟩
  · exact ⟨_, _, by rw [h0]⟩
  · exact ⟨_, _, rfl⟩

theorem Ints.block {w : World} {base : Nat} {v : Value} {l : List Nat} (h : Ints w base v l) (hn : 0 < l.length) : ∃ g c, v = .slice (some ⟨g, 0, none⟩) l.length c ∧ base ≤ g ∧ g < w.heap.size ∧ l.length ≤ c ∧ c ≤ maxLen := by
  rcases h.2 with ⟨rfl, h0⟩ | ⟨g, cap, cur, rfl, h2, h3, h4, h5, _⟩
  · omega
  · refine ⟨g, cap, rfl, h2, ?_, h4, h5⟩
    rcases Nat.lt_or_ge g w.heap.size with hlt | hge
    · exact hlt
    · rw [Array.getElem?_eq_none hge] at h3; cases h3

theorem Ints.cell {w : World} {base g c : Nat} {l : List Nat} (h : Ints w base (.slice (some ⟨g, 0, none⟩) l.length c) l) (j : Nat) (hj : j < l.length) : w.cell? ⟨g, j, none⟩ = some (.int .i64 ((l[j] : Nat) : Int)) :=
  (World.ownsRow.cellAt h j (by omega)).trans (intL_get l j hj)

theorem Ints.nil (w : World) (base : Nat) : Ints w base (.slice none 0 0) [] := World.ownsRow_nil _ _ _ _

theorem one_mem' (x : Value) (h : x.oneCell' = true) : ∀ u ∈ [x], u.oneCell' = true := by
  intro u hu; rw [List.mem_singleton] at hu; rw [hu]; exact h

theorem grown_up' {w wr w' : World} {v : Value} {n : Nat} {xs : List Value} {e : TypeId} (hu : Up w wr) (hown : wr.ownsRow w.heap.size e 1 v n xs) (hg : wr.grownBy w' v.ownBlock) : Up w w' :=
  Below.grown hu hg hu.size (fun k hk => (hown.lt k hk).1)

/-! ytnmdfdkagkpcaaa# Factors -/

/-- the state of the search: what is left, from where on, what has been found -/
def FacInv (M R F : Nat) (l : List Nat) : Prop :=
  1 ≤ R ∧ R ≤ 2147483647 ∧ 2 ≤ F ∧ F ≤ 2147483647 ∧ WoolMath.mul (WoolMath.prodL l) R = M ∧ (∀ p, p ∈ l → WoolMath.Prime p) ∧ l.Pairwise (· ≤ ·) ∧ (∀ p, p ∈ l → p ≤ F) ∧
    (∀ d, 2 ≤ d → d < F → ¬ WoolMath.dvd d R) ∧ l.length + R.log2 ≤ M.log2

theorem facInv_start (M : Nat) (h1 : 1 ≤ M) (h2 : M ≤ 2147483647) : FacInv M M 2 [] := by
  refine ⟨h1, h2, by omega, by omega, by rw [WoolMath.prodL_nil, WoolMath.one_mul], by simp, List.Pairwise.nil, by simp, fun d d1 d2 => by omega, by simp⟩

theorem facInv_next (M R F f : Nat) (l : List Nat) (hR : 2 ≤ R) (h : FacInv M R F l) (hf : WoolMath.IsLeast f R) :
    F ≤ f ∧ f ≤ R ∧ FacInv M (WoolMath.pdiv R f) f (l ++ [f]) ∧ WoolMath.pdiv R f < R ∧ 1 ≤ WoolMath.pdiv R f := by
  obtain ⟨i1, i2, i3, i4, i5, i6, i7, i8, i9, i10⟩ := h
  have hFf : F ≤ f := by
    apply Nat.le_of_not_lt
    intro hlt
    exact i9 f hf.1 hlt hf.2.1
  have hp := WoolMath.least_is_prime hf
  have f0 : f ≠ 0 := by have := hf.1; omega
  have hr0 : WoolMath.pmod R f = 0 := (WoolMath.dvd_iff _ _ f0).1 hf.2.1
  have e := WoolMath.pdiv_eq R f
  rw [hr0, Nat.xor_zero] at e
  have q0 : WoolMath.pdiv R f ≠ 0 := by intro h; rw [h, WoolMath.zero_mul] at e; omega
  have hfR := WoolMath.dvd_le_num hf.2.1 (by omega)
  have hlog := (WoolMath.mul_log2 _ f q0 f0).2
  rw [← e] at hlog
  have hfl : 1 ≤ f.log2 := (Nat.le_log2 f0).2 hf.1
  have hqR : WoolMath.pdiv R f < R := by
    have a1 := WoolMath.lt_log2 (WoolMath.pdiv R f)
    have a2 := (WoolMath.top_of R (by omega)).1
    have := Nat.pow_le_pow_right (n := 2) (by omega) (show (WoolMath.pdiv R f).log2 + 1 ≤ R.log2 by omega)
    omega
  refine ⟨hFf, hfR, ⟨by omega, by omega, hf.1, by omega, ?_, ?_, ?_, ?_, ?_, ?_⟩, hqR, by omega⟩
  · rw [WoolMath.prodL_append, WoolMath.prodL_cons, WoolMath.prodL_nil, WoolMath.mul_one, WoolMath.mul_assoc, WoolMath.mul_comm f, ← e]
    exact i5
  · intro p hp'
    rw [List.mem_append, List.mem_singleton] at hp'
    rcases hp' with h | rfl
    · exact i6 p h
    · exact hp
  · rw [List.pairwise_append]
    refine ⟨i7, List.pairwise_singleton _ _, fun a ha b hb => ?_⟩
    rw [List.mem_singleton] at hb
    subst hb
    have := i8 a ha
    omega
  · intro p hp'
    rw [List.mem_append, List.mem_singleton] at hp'
    rcases hp' with h | rfl
    · have := i8 p h; omega
    · exact Nat.le_refl _
  · intro d d1 d2 d3
    refine hf.2.2 d d1 d2 (WoolMath.dvd_trans d3 ⟨f, ?_⟩)
    rw [WoolMath.mul_comm]; exact e
  · rw [List.length_append, List.length_singleton]
    omega

theorem facInv_end (M F : Nat) (l : List Nat) (h : FacInv M 1 F l) : WoolMath.IsFactors l M := by
  obtain ⟨_, _, _, _, i5, i6, i7, _⟩ := h
  rw [WoolMath.mul_one] at i5
  exact ⟨i6, i5, i7⟩

theorem log2_le30 (M : Nat) (h0 : M ≠ 0) (h : M ≤ 2147483647) : M.log2 ≤ 30 := by
  have := (Nat.log2_lt h0).2 (show M < 2 ^ 31 by omega)
  omega

def FacRel (M : Nat) (w : World) (m fs f : Value) (wr : World) : Prop :=
  ∃ (R F : Nat) (l : List Nat), FacInv M R F l ∧ m = .int .i64 R ∧ f = .int .i64 F ∧ Ints wr w.heap.size fs l ∧ Up w wr

def FacPost (M : Nat) (w : World) (e : Ending) (w' : World) : Prop :=
  ∃ (v : Value) (l : List Nat), WoolMath.IsFactors l M ∧ l.length ≤ 30 ∧ e = .returned (.tuple #[v, .int .i64 0]) ∧ Ints w' w.heap.size v l ∧ Up w w'

/-! ytnmdfdkagkpcaaa# slices.Equal -/

def EqRel (n : Nat) (w : World) (i : Value) (wr : World) : Prop := ∃ K : Nat, K ≤ n ∧ i = .int .i64 K ∧ Up w wr

end Go.Proofs.Ytnmdfdkagkpcaaa
