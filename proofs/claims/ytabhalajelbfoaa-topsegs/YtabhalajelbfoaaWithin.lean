/-
  What the laws' helper Within returns: a number below the bound, for every int. Conditions: the bound is at least 1.
-/
import Derived.Test.YtabhalajelbfoaaUp
namespace Go.Proofs.Ytabhalajelbfoaa
open Go.RowKit
open Go.Proofs

/-- a number from 0 to n-1 by a number of any sort -/
def within (k : Int) (n : Nat) : Nat := (k % 18446744073709551616 % n).toNat

theorem within_lt (k : Int) (n : Nat) (h : 0 < n) : within k n < n := by
  unfold within
  have := Int.emod_lt_of_pos (k % 18446744073709551616) (show (0 : Int) < n by omega)
  have := Int.emod_nonneg (k % 18446744073709551616) (show (n : Int) ≠ 0 by omega)
  omega

theorem within_cast (k : Int) (n : Nat) (h : 0 < n) : ((within k n : Nat) : Int) = k % 18446744073709551616 % n := by
  unfold within
  have := Int.emod_nonneg (k % 18446744073709551616) (show (n : Int) ≠ 0 by omega)
  omega

theorem within_wrap (k : Int) (n : Nat) (h : 0 < n) (h1 : (n : Int) ≤ 9223372036854775807) : wrap64 ((IntKind.u64.wrap k).tmod n) = (within k n : Int) := by
  rw [IntKind.wrap_u64, Int.tmod_eq_emod_of_nonneg (Int.emod_nonneg _ (by decide)), ← within_cast k n h]
  have := within_lt k n h
  unfold wrap64
  omega

set_option maxRecDepth 100000 in
theorem within_any (k n : Int) (w : World) (h0 : 0 < n) (h1 : n ≤ 9223372036854775807) :
    Calls Try.prog 7 #[.int .i64 k, .int .i64 n] w fun e w' => e = .returned (.int .i64 (within k n.toNat)) ∧ w = w' := by
  obtain ⟨N, rfl⟩ := Int.eq_ofNat_of_zero_le (show 0 ≤ n by omega)
  rw [Int.toNat_natCast]
  have H := Lib.hid (congrArg (fun z => Ending.returned (.int .i64 z)) (within_wrap k N (by omega) h1))
  go_enter Try.func7, Try.ntmps7
  go_wp2
  go_ret
  exact ⟨H.out, rfl⟩

def InBelow (N : Nat) (w : World) (e : Ending) (w' : World) : Prop := ∃ D : Nat, D < N ∧ e = .returned (.int .i64 (D : Int)) ∧ w = w'

/-- some number below the bound -/
theorem within_some (k n : Int) (N : Nat) (w : World) (hn : n = (N : Int)) (h0 : 0 < N) (h1 : N ≤ 1000000000) :
    Calls Try.prog 7 #[.int .i64 k, .int .i64 n] w (InBelow N w) := by
  subst hn
  refine (within_any k (N : Int) w (by omega) (by omega)).mono ?_
  rintro e w' ⟨rfl, rfl⟩
  exact ⟨_, within_lt _ _ h0, by rw [Int.toNat_natCast], rfl⟩

end Go.Proofs.Ytabhalajelbfoaa
