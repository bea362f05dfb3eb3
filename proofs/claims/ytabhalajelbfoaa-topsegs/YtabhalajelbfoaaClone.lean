/-
  What strings.Clone returns: the text. Condition: at most 1000 bytes.
-/
import Derived.Test.YtabhalajelbfoaaBs
import Derived.Test.YtabhalajelbfoaaShelf
namespace Go.Proofs.Ytabhalajelbfoaa
open Go.RowKit
open Go.Proofs

theorem clone_str (s : ByteArray) (w : World) (hlim : s.size ≤ 1000) :
    Calls Try.prog 42 #[.string s] w fun e w' => e = .returned (.string s) ∧ Up w w' := by
  go_enter Try.func42, Try.ntmps42
  go_wp2_with fail
  refine (Try.stringslite_Clone s _ (by omega)).mono ?_
  rintro e w1 ⟨rfl, u1⟩
  have HU : Up w w1 := u1
  clear u1
  go_wp2_with fail
  go_ret
  exact ⟨rfl, HU⟩

end Go.Proofs.Ytabhalajelbfoaa
