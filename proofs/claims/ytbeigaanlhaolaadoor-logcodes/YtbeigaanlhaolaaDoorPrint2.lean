/-
  What Join and Roll of package print return at wrong arguments, and what Roll returns at right ones. Conditions: the arguments are ints.
-/
import Derived.Test.YtbeigaanlhaolaaDoorPrint
namespace Go.Proofs.YtbeigaanlhaolaaDoor
open Go.RowKit
open Go.Proofs

/-- what Roll answers -/
def restV (M P X N : Nat) : Nat := P ^^^ WoolMath.pmod (WoolMath.pw 256 N) M ^^^ WoolMath.pmod (WoolMath.mul X (WoolMath.pmod (WoolMath.pw 256 (N - 1)) M)) M
def rollV (M P X Y N : Nat) : Nat := WoolMath.pmod (WoolMath.mul (restV M P X N) 256) M ^^^ WoolMath.pmod Y M ^^^ WoolMath.pmod (WoolMath.pw 256 N) M

theorem xor30 (a b : Nat) (ha : a < 1073741824) (hb : b < 1073741824) : a ^^^ b < 1073741824 := Nat.xor_lt_two_pow (n := 30) ha hb

end Go.Proofs.YtbeigaanlhaolaaDoor
