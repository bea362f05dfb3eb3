/-
  What the laws' helper Within returns: a number below the bound, for every int. Conditions: the bound is at least 1.
-/
import Derived.Test.YtomfbffaekpnlaaUp
namespace Go.Proofs.Ytomfbffaekpnlaa
open Go.RowKit
open Go.Proofs

/-- a number from 0 to n-1 by a number of any sort -/
def within (k : Int) (n : Nat) : Nat := (k % 18446744073709551616 % n).toNat

theorem within_lt (k : Int) (n : Nat) (h : 0 < n) : within k n < n := by
  unfold within
  have := Int.emod_lt_of_pos (k % 18446744073709551616) (show (0 : Int) < n by omega)
  have := Int.emod_nonneg (k % 18446744073709551616) (show (n : Int) ≠ 0 by omega)
  omega

theorem within_cast (k : Int) (n : Nat) (h : 0 < n) : ((within k n : Nat) : Int) = k % 18446744073709551616 % n := by
  unfold within
  have := Int.emod_nonneg (k % 18446744073709551616) (show (n : Int) ≠ 0 by omega)
  omega

theorem within_wrap (k : Int) (n : Nat) (h : 0 < n) (h1 : (n : Int) ≤ 9223372036854775807) : wrap64 ((IntKind.u64.wrap k).tmod n) = (within k n : Int) := by
  rw [IntKind.wrap_u64, Int.tmod_eq_emod_of_nonneg (Int.emod_nonneg _ (by decide)), ← within_cast k n h]
  have := within_lt k n h
  unfold wrap64
  omega

def InBelow (N : Nat) (w : World) (e : Ending) (w' : World) : Prop := ∃ D : Nat, D < N ∧ e = .returned (.int .i64 (D : Int)) ∧ w = w'

end Go.Proofs.Ytomfbffaekpnlaa
