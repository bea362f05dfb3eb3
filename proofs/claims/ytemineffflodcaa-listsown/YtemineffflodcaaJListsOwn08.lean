/-
  The texts Within, Keep, one behind the other; each says below what it holds and on what conditions.
-/
import Derived.Test.YtemineffflodcaaJListsOwn01
import Derived.Test.YtemineffflodcaaJListsOwn07

/-
  What the laws' helper Within returns: a number below the bound, for every int. Conditions: the bound is at least 1.
-/
namespace Go.Proofs.Ytemineffflodcaa
open Go.RowKit
open Go.Proofs

/-- a number from 0 to n-1 by a number of any sort -/
def within (k : Int) (n : Nat) : Nat := (k % 18446744073709551616 % n).toNat

theorem within_lt (k : Int) (n : Nat) (h : 0 < n) : within k n < n := by
  unfold within
  have := Int.emod_lt_of_pos (k % 18446744073709551616) (show (0 : Int) < n by omega)
  have := Int.emod_nonneg (k % 18446744073709551616) (show (n : Int) ≠ 0 by omega)
  omega

theorem within_cast (k : Int) (n : Nat) (h : 0 < n) : ((within k n : Nat) : Int) = k % 18446744073709551616 % n := by
  unfold within
  have := Int.emod_nonneg (k % 18446744073709551616) (show (n : Int) ≠ 0 by omega)
  omega

theorem within_wrap (k : Int) (n : Nat) (h : 0 < n) (h1 : (n : Int) ≤ 9223372036854775807) : wrap64 ((IntKind.u64.wrap k).tmod n) = (within k n : Int) := by
  rw [IntKind.wrap_u64, Int.tmod_eq_emod_of_nonneg (Int.emod_nonneg _ (by decide)), ← within_cast k n h]
  have := within_lt k n h
  unfold wrap64
  omega

set_option maxRecDepth 100000 in
theorem within_any (k n : Int) (w : World) (h0 : 0 < n) (h1 : n ≤ 9223372036854775807) :
    Calls Try.prog 30 #[.int .i64 k, .int .i64 n] w fun e w' => e = .returned (.int .i64 (within k n.toNat)) ∧ w = w' := by
  obtain ⟨N, rfl⟩ := Int.eq_ofNat_of_zero_le (show 0 ≤ n by omega)
  rw [Int.toNat_natCast]
  have H := Lib.hid (congrArg (fun z => Ending.returned (.int .i64 z)) (within_wrap k N (by omega) h1))
  go_enter Try.func30, Try.ntmps30
  go_wp2
  go_ret
  exact ⟨H.out, rfl⟩

def InBelow (N : Nat) (w : World) (e : Ending) (w' : World) : Prop := ∃ D : Nat, D < N ∧ e = .returned (.int .i64 (D : Int)) ∧ w = w'

/-- some number below the bound -/
theorem within_some (k n : Int) (N : Nat) (w : World) (hn : n = (N : Int)) (h0 : 0 < N) (h1 : N ≤ 1000000000) :
    Calls Try.prog 30 #[.int .i64 k, .int .i64 n] w (InBelow N w) := by
  subst hn
  refine (within_any k (N : Int) w (by omega) (by omega)).mono ?_
  rintro e w' ⟨rfl, rfl⟩
  exact ⟨_, within_lt _ _ h0, by rw [Int.toNat_natCast], rfl⟩

end Go.Proofs.Ytemineffflodcaa

/-
  What the laws' small helpers Within and less return: a number below the bound, for every int. Conditions: the bound is at least 1 (less: at most 62 bits).
-/
namespace Go.Proofs.Ytemineffflodcaa
open Go.RowKit
open Go.Proofs

set_option maxRecDepth 100000 in
theorem less_any (k : Int) (n : Nat) (w : World) (h1 : n ≤ 40) :
    Calls Try.prog 8 #[.int .i64 k, .int .i64 n] w fun e w' => e = .returned (.int .i64 (within k (2 ^ n))) ∧ w = w' := by
  have hp : 2 ^ n ≤ 2 ^ 40 := Nat.pow_le_pow_right (by omega) h1
  have hp0 : 0 < 2 ^ n := Nat.pow_pos (by omega)
  have e : wrap64 (2 ^ n) = ((2 ^ n : Nat) : Int) := by
    rw [pow_cast]
    generalize 2 ^ n = z at *
    unfold wrap64
    omega
  generalize hz : 2 ^ n = z at *
  have HZ := Lib.hid hz
  clear hz
  go_enter Try.func8, Try.ntmps8
  go_wp2_with (go_at_call 30; refine (within_any _ _ _ (by omega) (by omega)).mono ?_; rintro e w' ⟨rfl, rfl⟩; rw [Int.toNat_natCast])
  go_ret
  exact ⟨rfl, rfl⟩

/-! ytemineffflodcaa# the contracts at natural numbers -/

theorem degN (A : Nat) (w : World) (hA : A ≤ 2147483647) :
    Calls Try.prog 42 #[.int .i64 (A : Int)] w fun e w' => e = .returned (.tuple #[.int .i64 ((WoolMath.blen A : Int) - 1), .int .i64 0]) ∧ w = w' := by
  have := deg_ok (A : Int) w (by omega) (by omega)
  rwa [Int.toNat_natCast] at this

theorem divN (A B : Nat) (w : World) (hA : A ≤ 2147483647) (hB0 : 0 < B) (hB : B ≤ 2147483647) :
    Calls Try.prog 29 #[.int .i64 (A : Int), .int .i64 (B : Int)] w fun e w' => e = .returned (.tuple #[.int .i64 (WoolMath.pdiv A B : Nat), .int .i64 (WoolMath.pmod A B : Nat), .int .i64 0]) ∧ Up w w' := by
  have := div_ok (A : Int) (B : Int) w (by omega) (by omega) (by omega) (by omega)
  rwa [Int.toNat_natCast, Int.toNat_natCast] at this

theorem modMulN (A B M : Nat) (w : World) (hA : A ≤ 2147483647) (hB : B ≤ 2147483647) (hM0 : 0 < M) (hM : M ≤ 2147483647) :
    Calls Try.prog 71 #[.int .i64 (A : Int), .int .i64 (B : Int), .int .i64 (M : Int)] w fun e w' => e = .returned (.tuple #[.int .i64 (WoolMath.pmod (WoolMath.mul A B) M : Nat), .int .i64 0]) ∧ Up w w' := by
  have := modMul_ok (A : Int) (B : Int) (M : Int) w (by omega) (by omega) (by omega) (by omega) (by omega) (by omega)
  rwa [Int.toNat_natCast, Int.toNat_natCast, Int.toNat_natCast] at this

/-- ten (nine) errors that are none, in a row of the law's own -/
theorem zeros10 (w : World) (t : TypeId) (k : Nat) (h : k < 10) :
    (w.alloc (.cells #[.int .i64 0, .int .i64 0, .int .i64 0, .int .i64 0, .int .i64 0, .int .i64 0, .int .i64 0, .int .i64 0, .int .i64 0, .int .i64 0] t)).cell? ⟨w.heap.size, k, none⟩ = some (.int .i64 0) := by
  match k, h with
  | 0, _ => go_simp
  | 1, _ => go_simp
  | 2, _ => go_simp
  | 3, _ => go_simp
  | 4, _ => go_simp
  | 5, _ => go_simp
  | 6, _ => go_simp
  | 7, _ => go_simp
  | 8, _ => go_simp
  | 9, _ => go_simp

theorem zeros9 (w : World) (t : TypeId) (k : Nat) (h : k < 9) :
    (w.alloc (.cells #[.int .i64 0, .int .i64 0, .int .i64 0, .int .i64 0, .int .i64 0, .int .i64 0, .int .i64 0, .int .i64 0, .int .i64 0] t)).cell? ⟨w.heap.size, k, none⟩ = some (.int .i64 0) := by
  match k, h with
  | 0, _ => go_simp
  | 1, _ => go_simp
  | 2, _ => go_simp
  | 3, _ => go_simp
  | 4, _ => go_simp
  | 5, _ => go_simp
  | 6, _ => go_simp
  | 7, _ => go_simp
  | 8, _ => go_simp

end Go.Proofs.Ytemineffflodcaa
