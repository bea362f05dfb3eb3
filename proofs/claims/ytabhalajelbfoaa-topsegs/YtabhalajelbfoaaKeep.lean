/-
  What the laws' small helpers Within and less return: a number below the bound, for every int. Conditions: the bound is at least 1 (less: at most 62 bits).
-/
import Derived.Test.YtabhalajelbfoaaPoly2
import Derived.Test.YtabhalajelbfoaaWithin
namespace Go.Proofs.Ytabhalajelbfoaa
open Go.RowKit
open Go.Proofs

/-! ytabhalajelbfoaa# the contracts at natural numbers -/

theorem mulN (A B : Nat) (w : World) (hA : A ≤ 2147483647) (hB : B ≤ 2147483647) (hf : WoolMath.mul A B ≤ 2147483647) :
    Calls Try.prog 15 #[.int .i64 (A : Int), .int .i64 (B : Int)] w fun e w' => e = .returned (.tuple #[.int .i64 (WoolMath.mul A B : Nat), .int .i64 0]) ∧ Up w w' := by
  have := mul_ok (A : Int) (B : Int) w (by omega) (by omega) (by omega) (by omega) (by rw [Int.toNat_natCast, Int.toNat_natCast]; exact hf)
  rwa [Int.toNat_natCast, Int.toNat_natCast] at this

theorem divN (A B : Nat) (w : World) (hA : A ≤ 2147483647) (hB0 : 0 < B) (hB : B ≤ 2147483647) :
    Calls Try.prog 68 #[.int .i64 (A : Int), .int .i64 (B : Int)] w fun e w' => e = .returned (.tuple #[.int .i64 (WoolMath.pdiv A B : Nat), .int .i64 (WoolMath.pmod A B : Nat), .int .i64 0]) ∧ Up w w' := by
  have := div_ok (A : Int) (B : Int) w (by omega) (by omega) (by omega) (by omega)
  rwa [Int.toNat_natCast, Int.toNat_natCast] at this

theorem modMulN (A B M : Nat) (w : World) (hA : A ≤ 2147483647) (hB : B ≤ 2147483647) (hM0 : 0 < M) (hM : M ≤ 2147483647) :
    Calls Try.prog 67 #[.int .i64 (A : Int), .int .i64 (B : Int), .int .i64 (M : Int)] w fun e w' => e = .returned (.tuple #[.int .i64 (WoolMath.pmod (WoolMath.mul A B) M : Nat), .int .i64 0]) ∧ Up w w' := by
  have := modMul_ok (A : Int) (B : Int) (M : Int) w (by omega) (by omega) (by omega) (by omega) (by omega) (by omega)
  rwa [Int.toNat_natCast, Int.toNat_natCast, Int.toNat_natCast] at this

/-- ten (nine) errors that are none, in a row of the law's own -/
theorem zeros10 (w : World) (t : TypeId) (k : Nat) (h : k < 10) :
    (w.alloc (.cells #[.int .i64 0, .int .i64 0, .int .i64 0, .int .i64 0, .int .i64 0, .int .i64 0, .int .i64 0, .int .i64 0, .int .i64 0, .int .i64 0] t)).cell? ⟨w.heap.size, k, none⟩ = some (.int .i64 0) := by
  match k, h with
  | 0, _ => go_simp
  | 1, _ => go_simp
  | 2, _ => go_simp
  | 3, _ => go_simp
  | 4, _ => go_simp
  | 5, _ => go_simp
  | 6, _ => go_simp
  | 7, _ => go_simp
  | 8, _ => go_simp
  | 9, _ => go_simp

theorem zeros9 (w : World) (t : TypeId) (k : Nat) (h : k < 9) :
    (w.alloc (.cells #[.int .i64 0, .int .i64 0, .int .i64 0, .int .i64 0, .int .i64 0, .int .i64 0, .int .i64 0, .int .i64 0, .int .i64 0] t)).cell? ⟨w.heap.size, k, none⟩ = some (.int .i64 0) := by
  match k, h with
  | 0, _ => go_simp
  | 1, _ => go_simp
  | 2, _ => go_simp
  | 3, _ => go_simp
  | 4, _ => go_simp
  | 5, _ => go_simp
  | 6, _ => go_simp
  | 7, _ => go_simp
  | 8, _ => go_simp

end Go.Proofs.Ytabhalajelbfoaa
