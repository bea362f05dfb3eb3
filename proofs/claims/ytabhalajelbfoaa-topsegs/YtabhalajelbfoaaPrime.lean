/-
  What the functions of package prime return, at every argument: by the least divisor. Conditions: the arguments are ints.
-/
import Derived.Test.YtabhalajelbfoaaKeep
import Derived.Test.YtabhalajelbfoaaMath2
namespace Go.Proofs.Ytabhalajelbfoaa
open Go.RowKit
open Go.Proofs

/-- what leastFactor hands back -/
def LeastPost (m : Nat) (w : World) (e : Ending) (w' : World) : Prop :=
  ∃ f : Nat, WoolMath.IsLeast f m ∧ f ≤ m ∧ e = .returned (.int .i64 (f : Int)) ∧ Up w w'

def LeastRel (m from_ : Nat) (w : World) (d : Value) (wr : World) : Prop :=
  ∃ D : Nat, from_ ≤ D ∧ D ≤ 2147483647 ∧ (∀ e, 2 ≤ e → e < D → ¬ WoolMath.dvd e m) ∧ d = .int .i64 D ∧ Up w wr

/-! ytabhalajelbfoaa# irreducible, Is, Next -/

def NextRel (m top : Nat) (w : World) (d : Value) (wr : World) : Prop :=
  ∃ D : Nat, m ≤ D ∧ D ≤ top ∧ (∀ q, m ≤ q → q < D → ¬ WoolMath.Prime q) ∧ d = .int .i64 D ∧ Up w wr

end Go.Proofs.Ytabhalajelbfoaa
