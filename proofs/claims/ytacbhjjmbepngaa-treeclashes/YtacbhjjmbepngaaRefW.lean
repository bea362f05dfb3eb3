/-
  What the reference's within returns, for every three ints. No condition.
-/
import Derived.Test.YtacbhjjmbepngaaUp
namespace Go.Proofs.Ytacbhjjmbepngaa
open Go.RowKit
open Go.Proofs

end Go.Proofs.Ytacbhjjmbepngaa
