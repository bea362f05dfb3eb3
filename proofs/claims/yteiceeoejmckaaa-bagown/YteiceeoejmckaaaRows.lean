/-
  No cell of these rows narrows 'for every input' (looked for: loops, veiled, ifaces, maps, wideKeys, modest, calm, conditions, laid).
  DERIVED. THE GIVEN ROWS OF THIS SEAT. 5 by the template 'for every input the law returns true; each argument reads behind the call as it read before'; 0 by the template 'total and deterministic' (their statements: YteiceeoejmckaaaTotals.lean).
  GIVEN WITH THE SEED: the statements are not yours to turn. If you find one false, say at which input.
  Laid BY PROGRAM, IN A SANDBOX (cutbox-rows.mjs): the forced cells as the released guide's own fill.sh prints them over the translation f364e3c4455d78e0… (all of the seat's roots in one cut). By AI agents, Wed Nov 11 2026. No macro, syntax, notation, axiom, sorry.
-/
import Derived.Test.YteiceeoejmckaaaChecked
import GoSem.Claim
import GoSem.ClaimJoined
import GoSem.ClaimMapViews
import Derived.JoinedTies
import Derived.KernelRfl
namespace Go.Proofs.Yteiceeoejmckaaa
/- THE CELL 'sum', in the pinned program and in every row, IS THE sha256 OF THE DUMP (.gsa) THAT YteiceeoejmckaaaProg.lean LOADS. Nothing in Lean hashes anything: it is a label: what it is worth is what the hold of that sum in a sandbox is worth. -/
noncomputable def Try.pinned : Pinned := { name := "yteiceeoejmckaaa", sum := "f364e3c4455d78e0e150d7803c08a04532e4b1e382cc43b2134798db09fb67d0", checked := Try.checked }
namespace Rows
def none {H : Type} : Left H := { results := [], args := [] }

/-- 'woolkeep.BagOnce': WHATEVER THE INPUT: true; the input reads as it did. -/
def bagOnceSpec : ChangeSpec := { name := "bagOnce", fn := fun _ => fun
  | [d1, d2, d3] => { results := [.lit (.bool true)], args := [d1, d2, d3] }
  | _ => none }
def bagOnceRow : OpenClaim := { program := "yteiceeoejmckaaa", sum := "f364e3c4455d78e0e150d7803c08a04532e4b1e382cc43b2134798db09fb67d0", func := "woolsack/woolkeep.BagOnce", spec := "bagOnce", inPlace := ["slices.overlaps[woolsack/api.Item]"], unfollowed := true, recurses := true, apart := false }
def BagOnceSaid : Prop := bagOnceRow.holds Try.pinned (OpenSpec.ofChange bagOnceSpec)

/-- ITS FALSE NEIGHBOUR: 'it returns false'. Refute it at one input. -/
def bagOnceWrong : ChangeSpec := { name := "bagOnce", fn := fun _ => fun
  | [d1, d2, d3] => { results := [.lit (.bool false)], args := [d1, d2, d3] }
  | _ => none }
def BagOnceWrongFalsely : Prop := bagOnceRow.holds Try.pinned (OpenSpec.ofChange bagOnceWrong)

/-- 'woolkeep.BagBack': WHATEVER THE INPUT: true; the input reads as it did. -/
def bagBackSpec : ChangeSpec := { name := "bagBack", fn := fun _ => fun
  | [d1, d2] => { results := [.lit (.bool true)], args := [d1, d2] }
  | _ => none }
def bagBackRow : OpenClaim := { program := "yteiceeoejmckaaa", sum := "f364e3c4455d78e0e150d7803c08a04532e4b1e382cc43b2134798db09fb67d0", func := "woolsack/woolkeep.BagBack", spec := "bagBack", inPlace := ["slices.overlaps[woolsack/api.Item]"], unfollowed := true, recurses := true, apart := false }
def BagBackSaid : Prop := bagBackRow.holds Try.pinned (OpenSpec.ofChange bagBackSpec)

/-- ITS FALSE NEIGHBOUR: 'it returns false'. Refute it at one input. -/
def bagBackWrong : ChangeSpec := { name := "bagBack", fn := fun _ => fun
  | [d1, d2] => { results := [.lit (.bool false)], args := [d1, d2] }
  | _ => none }
def BagBackWrongFalsely : Prop := bagBackRow.holds Try.pinned (OpenSpec.ofChange bagBackWrong)

/-- 'woolkeep.BagOthers': WHATEVER THE INPUT: true; the input reads as it did. -/
def bagOthersSpec : ChangeSpec := { name := "bagOthers", fn := fun _ => fun
  | [d1, d2, d3, d4] => { results := [.lit (.bool true)], args := [d1, d2, d3, d4] }
  | _ => none }
def bagOthersRow : OpenClaim := { program := "yteiceeoejmckaaa", sum := "f364e3c4455d78e0e150d7803c08a04532e4b1e382cc43b2134798db09fb67d0", func := "woolsack/woolkeep.BagOthers", spec := "bagOthers", inPlace := ["slices.overlaps[woolsack/api.Item]"], unfollowed := true, recurses := true, apart := false }
def BagOthersSaid : Prop := bagOthersRow.holds Try.pinned (OpenSpec.ofChange bagOthersSpec)

/-- ITS FALSE NEIGHBOUR: 'it returns false'. Refute it at one input. -/
def bagOthersWrong : ChangeSpec := { name := "bagOthers", fn := fun _ => fun
  | [d1, d2, d3, d4] => { results := [.lit (.bool false)], args := [d1, d2, d3, d4] }
  | _ => none }
def BagOthersWrongFalsely : Prop := bagOthersRow.holds Try.pinned (OpenSpec.ofChange bagOthersWrong)

/-- 'woolkeep.BagTurns': WHATEVER THE INPUT: true; the input reads as it did. -/
def bagTurnsSpec : ChangeSpec := { name := "bagTurns", fn := fun _ => fun
  | [d1, d2, d3, d4] => { results := [.lit (.bool true)], args := [d1, d2, d3, d4] }
  | _ => none }
def bagTurnsRow : OpenClaim := { program := "yteiceeoejmckaaa", sum := "f364e3c4455d78e0e150d7803c08a04532e4b1e382cc43b2134798db09fb67d0", func := "woolsack/woolkeep.BagTurns", spec := "bagTurns", inPlace := ["slices.overlaps[woolsack/api.Item]"], unfollowed := true, recurses := true, apart := false }
def BagTurnsSaid : Prop := bagTurnsRow.holds Try.pinned (OpenSpec.ofChange bagTurnsSpec)

/-- ITS FALSE NEIGHBOUR: 'it returns false'. Refute it at one input. -/
def bagTurnsWrong : ChangeSpec := { name := "bagTurns", fn := fun _ => fun
  | [d1, d2, d3, d4] => { results := [.lit (.bool false)], args := [d1, d2, d3, d4] }
  | _ => none }
def BagTurnsWrongFalsely : Prop := bagTurnsRow.holds Try.pinned (OpenSpec.ofChange bagTurnsWrong)

/-- 'woolkeep.BagOwn': WHATEVER THE INPUT: true; the input reads as it did. -/
def bagOwnSpec : ChangeSpec := { name := "bagOwn", fn := fun _ => fun
  | [d1, d2, d3] => { results := [.lit (.bool true)], args := [d1, d2, d3] }
  | _ => none }
def bagOwnRow : OpenClaim := { program := "yteiceeoejmckaaa", sum := "f364e3c4455d78e0e150d7803c08a04532e4b1e382cc43b2134798db09fb67d0", func := "woolsack/woolkeep.BagOwn", spec := "bagOwn", inPlace := ["slices.overlaps[woolsack/api.Item]"], unfollowed := true, recurses := true, apart := false }
def BagOwnSaid : Prop := bagOwnRow.holds Try.pinned (OpenSpec.ofChange bagOwnSpec)

/-- ITS FALSE NEIGHBOUR: 'it returns false'. Refute it at one input. -/
def bagOwnWrong : ChangeSpec := { name := "bagOwn", fn := fun _ => fun
  | [d1, d2, d3] => { results := [.lit (.bool false)], args := [d1, d2, d3] }
  | _ => none }
def BagOwnWrongFalsely : Prop := bagOwnRow.holds Try.pinned (OpenSpec.ofChange bagOwnWrong)

/- THE SECOND FORM. 'bulk': how many values and letters a reading holds, each counted each time it is reached (what is shared counts as often as it is met; a slice's spare places count too). A statement '..UptoSaid' is the law's where the arguments, and the package variables that the reading takes, are together of bulk at most 1048576: NARROWER than '..Said'. Prove '..Said' where nothing that the law and all that it calls make is longer than what came in: it says more and counts as full. Else prove '..UptoSaid'. A law counts once. -/
mutual
def uptoBulk {H : Type} : DataW H → Nat
  | .lit (.string bytes) => bytes.length + 1
  | .lit _ => 1
  | .nil => 1
  | .ptr d => uptoBulk d + 1
  | .slice elems spare => uptoBulkAll elems + uptoBulkAll spare + 1
  | .agg parts => uptoBulkAll parts + 1
  | .iface _ d => uptoBulk d + 1
  | .map entries => uptoBulkEntries entries + 1
  | .held _ => 1
def uptoBulkAll {H : Type} : List (DataW H) → Nat
  | [] => 0
  | d :: r => uptoBulk d + uptoBulkAll r
def uptoBulkEntries {H : Type} : List (Lit × DataW H) → Nat
  | [] => 0
  | x :: r => uptoBulkEntry x + uptoBulkEntries r
def uptoBulkEntry {H : Type} : Lit × DataW H → Nat
  | (.string bytes, d) => bytes.length + uptoBulk d + 1
  | (_, d) => uptoBulk d + 1
 end
def uptoSmall : (H : Type) → List (DataW H) → Bool := fun _ ds => decide (uptoBulkAll ds ≤ 1048576)
def OpenSpec.upto (s : _root_.Go.ChangeSpec) : _root_.Go.OpenSpec := { _root_.Go.OpenSpec.ofChange s with cond := some uptoSmall }

/-- 'woolkeep.BagOnce', WHERE WHAT IT READS IS OF BULK AT MOST 1048576: true; the input reads as it did. -/
def bagOnceUptoRow : OpenClaim := { program := "yteiceeoejmckaaa", sum := "f364e3c4455d78e0e150d7803c08a04532e4b1e382cc43b2134798db09fb67d0", func := "woolsack/woolkeep.BagOnce", spec := "bagOnce", inPlace := ["slices.overlaps[woolsack/api.Item]"], unfollowed := true, recurses := true, apart := false, narrowed := true }
def BagOnceUptoSaid : Prop := bagOnceUptoRow.holds Try.pinned (OpenSpec.upto bagOnceSpec)

/-- 'woolkeep.BagBack', WHERE WHAT IT READS IS OF BULK AT MOST 1048576: true; the input reads as it did. -/
def bagBackUptoRow : OpenClaim := { program := "yteiceeoejmckaaa", sum := "f364e3c4455d78e0e150d7803c08a04532e4b1e382cc43b2134798db09fb67d0", func := "woolsack/woolkeep.BagBack", spec := "bagBack", inPlace := ["slices.overlaps[woolsack/api.Item]"], unfollowed := true, recurses := true, apart := false, narrowed := true }
def BagBackUptoSaid : Prop := bagBackUptoRow.holds Try.pinned (OpenSpec.upto bagBackSpec)

/-- 'woolkeep.BagOthers', WHERE WHAT IT READS IS OF BULK AT MOST 1048576: true; the input reads as it did. -/
def bagOthersUptoRow : OpenClaim := { program := "yteiceeoejmckaaa", sum := "f364e3c4455d78e0e150d7803c08a04532e4b1e382cc43b2134798db09fb67d0", func := "woolsack/woolkeep.BagOthers", spec := "bagOthers", inPlace := ["slices.overlaps[woolsack/api.Item]"], unfollowed := true, recurses := true, apart := false, narrowed := true }
def BagOthersUptoSaid : Prop := bagOthersUptoRow.holds Try.pinned (OpenSpec.upto bagOthersSpec)

/-- 'woolkeep.BagTurns', WHERE WHAT IT READS IS OF BULK AT MOST 1048576: true; the input reads as it did. -/
def bagTurnsUptoRow : OpenClaim := { program := "yteiceeoejmckaaa", sum := "f364e3c4455d78e0e150d7803c08a04532e4b1e382cc43b2134798db09fb67d0", func := "woolsack/woolkeep.BagTurns", spec := "bagTurns", inPlace := ["slices.overlaps[woolsack/api.Item]"], unfollowed := true, recurses := true, apart := false, narrowed := true }
def BagTurnsUptoSaid : Prop := bagTurnsUptoRow.holds Try.pinned (OpenSpec.upto bagTurnsSpec)

/-- 'woolkeep.BagOwn', WHERE WHAT IT READS IS OF BULK AT MOST 1048576: true; the input reads as it did. -/
def bagOwnUptoRow : OpenClaim := { program := "yteiceeoejmckaaa", sum := "f364e3c4455d78e0e150d7803c08a04532e4b1e382cc43b2134798db09fb67d0", func := "woolsack/woolkeep.BagOwn", spec := "bagOwn", inPlace := ["slices.overlaps[woolsack/api.Item]"], unfollowed := true, recurses := true, apart := false, narrowed := true }
def BagOwnUptoSaid : Prop := bagOwnUptoRow.holds Try.pinned (OpenSpec.upto bagOwnSpec)

end Rows
end Go.Proofs.Yteiceeoejmckaaa
