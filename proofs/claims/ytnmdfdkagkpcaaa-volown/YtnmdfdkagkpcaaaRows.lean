/-
  No cell of these rows narrows 'for every input' (looked for: loops, veiled, ifaces, maps, wideKeys, modest, calm, conditions, laid).
  DERIVED. THE GIVEN ROWS OF THIS SEAT. 3 by the template 'for every input the law returns true; each argument reads behind the call as it read before'; 0 by the template 'total and deterministic' (their statements: YtnmdfdkagkpcaaaTotals.lean).
  GIVEN WITH THE SEED: the statements are not yours to turn. If you find one false, say at which input.
  Laid BY PROGRAM, IN A SANDBOX (cutbox-rows.mjs): the forced cells as the released guide's own fill.sh prints them over the translation 62050e72ba0c7caa… (all of the seat's roots in one cut). By AI agents, Wed Nov 11 2026. No macro, syntax, notation, axiom, sorry.
-/
import Derived.Test.YtnmdfdkagkpcaaaChecked
import GoSem.Claim
import GoSem.ClaimJoined
import GoSem.ClaimMapViews
import Derived.JoinedTies
import Derived.KernelRfl
namespace Go.Proofs.Ytnmdfdkagkpcaaa
/- THE CELL 'sum', in the pinned program and in every row, IS THE sha256 OF THE DUMP (.gsa) THAT YtnmdfdkagkpcaaaProg.lean LOADS. Nothing in Lean hashes anything: it is a label: what it is worth is what the hold of that sum in a sandbox is worth. -/
noncomputable def Try.pinned : Pinned := { name := "ytnmdfdkagkpcaaa", sum := "62050e72ba0c7caa53d9db08cff7021a12196dc86944999633d0ec84715b6994", checked := Try.checked }
namespace Rows
def none {H : Type} : Left H := { results := [], args := [] }

/-- 'woolkeep.DiffCopies': WHATEVER THE INPUT: true; the input reads as it did. -/
def diffCopiesSpec : ChangeSpec := { name := "diffCopies", fn := fun _ => fun
  | [d1, d2, d3, d4] => { results := [.lit (.bool true)], args := [d1, d2, d3, d4] }
  | _ => none }
def diffCopiesRow : OpenClaim := { program := "ytnmdfdkagkpcaaa", sum := "62050e72ba0c7caa53d9db08cff7021a12196dc86944999633d0ec84715b6994", func := "woolsack/woolkeep.DiffCopies", spec := "diffCopies", inPlace := ["slices.overlaps[woolsack/api.Vol]", "slices.overlaps[woolsack/api.Item]"], unfollowed := true, recurses := true, plainKeys := false, apart := false }
def DiffCopiesSaid : Prop := diffCopiesRow.holds Try.pinned (OpenSpec.ofChange diffCopiesSpec)

/-- ITS FALSE NEIGHBOUR: 'it returns false'. Refute it at one input. -/
def diffCopiesWrong : ChangeSpec := { name := "diffCopies", fn := fun _ => fun
  | [d1, d2, d3, d4] => { results := [.lit (.bool false)], args := [d1, d2, d3, d4] }
  | _ => none }
def DiffCopiesWrongFalsely : Prop := diffCopiesRow.holds Try.pinned (OpenSpec.ofChange diffCopiesWrong)

/-- 'woolkeep.DiffWritten': WHATEVER THE INPUT: true; the input reads as it did. -/
def diffWrittenSpec : ChangeSpec := { name := "diffWritten", fn := fun _ => fun
  | [d1, d2, d3] => { results := [.lit (.bool true)], args := [d1, d2, d3] }
  | _ => none }
def diffWrittenRow : OpenClaim := { program := "ytnmdfdkagkpcaaa", sum := "62050e72ba0c7caa53d9db08cff7021a12196dc86944999633d0ec84715b6994", func := "woolsack/woolkeep.DiffWritten", spec := "diffWritten", inPlace := ["slices.overlaps[woolsack/api.Vol]", "slices.overlaps[woolsack/api.Item]"], unfollowed := true, recurses := true, plainKeys := false, apart := false }
def DiffWrittenSaid : Prop := diffWrittenRow.holds Try.pinned (OpenSpec.ofChange diffWrittenSpec)

/-- ITS FALSE NEIGHBOUR: 'it returns false'. Refute it at one input. -/
def diffWrittenWrong : ChangeSpec := { name := "diffWritten", fn := fun _ => fun
  | [d1, d2, d3] => { results := [.lit (.bool false)], args := [d1, d2, d3] }
  | _ => none }
def DiffWrittenWrongFalsely : Prop := diffWrittenRow.holds Try.pinned (OpenSpec.ofChange diffWrittenWrong)

/-- 'woolkeep.VolOwn': WHATEVER THE INPUT: true; the input reads as it did. -/
def volOwnSpec : ChangeSpec := { name := "volOwn", fn := fun _ => fun
  | [d1, d2, d3, d4, d5, d6] => { results := [.lit (.bool true)], args := [d1, d2, d3, d4, d5, d6] }
  | _ => none }
def volOwnRow : OpenClaim := { program := "ytnmdfdkagkpcaaa", sum := "62050e72ba0c7caa53d9db08cff7021a12196dc86944999633d0ec84715b6994", func := "woolsack/woolkeep.VolOwn", spec := "volOwn", inPlace := ["slices.overlaps[woolsack/api.Vol]", "slices.overlaps[woolsack/api.Item]"], unfollowed := true, recurses := true, plainKeys := false, apart := false }
def VolOwnSaid : Prop := volOwnRow.holds Try.pinned (OpenSpec.ofChange volOwnSpec)

/-- ITS FALSE NEIGHBOUR: 'it returns false'. Refute it at one input. -/
def volOwnWrong : ChangeSpec := { name := "volOwn", fn := fun _ => fun
  | [d1, d2, d3, d4, d5, d6] => { results := [.lit (.bool false)], args := [d1, d2, d3, d4, d5, d6] }
  | _ => none }
def VolOwnWrongFalsely : Prop := volOwnRow.holds Try.pinned (OpenSpec.ofChange volOwnWrong)

/- THE SECOND FORM. 'bulk': how many values and letters a reading holds, each counted each time it is reached (what is shared counts as often as it is met; a slice's spare places count too). A statement '..UptoSaid' is the law's where the arguments, and the package variables that the reading takes, are together of bulk at most 1048576: NARROWER than '..Said'. Prove '..Said' where nothing that the law and all that it calls make is longer than what came in: it says more and counts as full. Else prove '..UptoSaid'. A law counts once. -/
mutual
def uptoBulk {H : Type} : DataW H → Nat
  | .lit (.string bytes) => bytes.length + 1
  | .lit _ => 1
  | .nil => 1
  | .ptr d => uptoBulk d + 1
  | .slice elems spare => uptoBulkAll elems + uptoBulkAll spare + 1
  | .agg parts => uptoBulkAll parts + 1
  | .iface _ d => uptoBulk d + 1
  | .map entries => uptoBulkEntries entries + 1
  | .held _ => 1
def uptoBulkAll {H : Type} : List (DataW H) → Nat
  | [] => 0
  | d :: r => uptoBulk d + uptoBulkAll r
def uptoBulkEntries {H : Type} : List (Lit × DataW H) → Nat
  | [] => 0
  | x :: r => uptoBulkEntry x + uptoBulkEntries r
def uptoBulkEntry {H : Type} : Lit × DataW H → Nat
  | (.string bytes, d) => bytes.length + uptoBulk d + 1
  | (_, d) => uptoBulk d + 1
 end
def uptoSmall : (H : Type) → List (DataW H) → Bool := fun _ ds => decide (uptoBulkAll ds ≤ 1048576)
def OpenSpec.upto (s : _root_.Go.ChangeSpec) : _root_.Go.OpenSpec := { _root_.Go.OpenSpec.ofChange s with cond := some uptoSmall }

/-- 'woolkeep.DiffCopies', WHERE WHAT IT READS IS OF BULK AT MOST 1048576: true; the input reads as it did. -/
def diffCopiesUptoRow : OpenClaim := { program := "ytnmdfdkagkpcaaa", sum := "62050e72ba0c7caa53d9db08cff7021a12196dc86944999633d0ec84715b6994", func := "woolsack/woolkeep.DiffCopies", spec := "diffCopies", inPlace := ["slices.overlaps[woolsack/api.Vol]", "slices.overlaps[woolsack/api.Item]"], unfollowed := true, recurses := true, plainKeys := false, apart := false, narrowed := true }
def DiffCopiesUptoSaid : Prop := diffCopiesUptoRow.holds Try.pinned (OpenSpec.upto diffCopiesSpec)

/-- 'woolkeep.DiffWritten', WHERE WHAT IT READS IS OF BULK AT MOST 1048576: true; the input reads as it did. -/
def diffWrittenUptoRow : OpenClaim := { program := "ytnmdfdkagkpcaaa", sum := "62050e72ba0c7caa53d9db08cff7021a12196dc86944999633d0ec84715b6994", func := "woolsack/woolkeep.DiffWritten", spec := "diffWritten", inPlace := ["slices.overlaps[woolsack/api.Vol]", "slices.overlaps[woolsack/api.Item]"], unfollowed := true, recurses := true, plainKeys := false, apart := false, narrowed := true }
def DiffWrittenUptoSaid : Prop := diffWrittenUptoRow.holds Try.pinned (OpenSpec.upto diffWrittenSpec)

/-- 'woolkeep.VolOwn', WHERE WHAT IT READS IS OF BULK AT MOST 1048576: true; the input reads as it did. -/
def volOwnUptoRow : OpenClaim := { program := "ytnmdfdkagkpcaaa", sum := "62050e72ba0c7caa53d9db08cff7021a12196dc86944999633d0ec84715b6994", func := "woolsack/woolkeep.VolOwn", spec := "volOwn", inPlace := ["slices.overlaps[woolsack/api.Vol]", "slices.overlaps[woolsack/api.Item]"], unfollowed := true, recurses := true, plainKeys := false, apart := false, narrowed := true }
def VolOwnUptoSaid : Prop := volOwnUptoRow.holds Try.pinned (OpenSpec.upto volOwnSpec)

end Rows
end Go.Proofs.Ytnmdfdkagkpcaaa
