/-
  No cell of these rows narrows 'for every input' (looked for: loops, veiled, ifaces, maps, wideKeys, modest, calm, conditions, laid).
  DERIVED. THE GIVEN ROWS OF THIS SEAT. 12 by the template 'for every input the law returns true; each argument reads behind the call as it read before'; 0 by the template 'total and deterministic' (their statements: YtkobngbjffbjiaaTotals.lean).
  GIVEN WITH THE SEED: the statements are not yours to turn. If you find one false, say at which input.
  Laid BY PROGRAM, IN A SANDBOX (cutbox-rows.mjs): the forced cells as the released guide's own fill.sh prints them over the translation 44af5af6405ab583… (all of the seat's roots in one cut). By AI agents, Wed Nov 11 2026. No macro, syntax, notation, axiom, sorry.
-/
import Derived.Test.YtkobngbjffbjiaaChecked
import GoSem.Claim
import GoSem.ClaimJoined
import GoSem.ClaimMapViews
import Derived.JoinedTies
import Derived.KernelRfl
namespace Go.Proofs.Ytkobngbjffbjiaa
/- THE CELL 'sum', in the pinned program and in every row, IS THE sha256 OF THE DUMP (.gsa) THAT YtkobngbjffbjiaaProg.lean LOADS. Nothing in Lean hashes anything: it is a label: what it is worth is what the hold of that sum in a sandbox is worth. -/
noncomputable def Try.pinned : Pinned := { name := "ytkobngbjffbjiaa", sum := "44af5af6405ab583c57f3157a0727b7e465b91db2547eb75a1696f12de86a560", checked := Try.checked }
namespace Rows
def none {H : Type} : Left H := { results := [], args := [] }

/-- 'woolkeep.VolRight': WHATEVER THE INPUT: true; the input reads as it did. -/
def volRightSpec : ChangeSpec := { name := "volRight", fn := fun _ => fun
  | [d] => { results := [.lit (.bool true)], args := [d] }
  | _ => none }
def volRightRow : OpenClaim := { program := "ytkobngbjffbjiaa", sum := "44af5af6405ab583c57f3157a0727b7e465b91db2547eb75a1696f12de86a560", func := "woolsack/woolkeep.VolRight", spec := "volRight", inPlace := ["slices.overlaps[woolsack/api.Vol]", "slices.overlaps[woolsack/api.Item]"], unfollowed := true, recurses := true, plainKeys := false, apart := false }
def VolRightSaid : Prop := volRightRow.holds Try.pinned (OpenSpec.ofChange volRightSpec)

/-- ITS FALSE NEIGHBOUR: 'it returns false'. Refute it at one input. -/
def volRightWrong : ChangeSpec := { name := "volRight", fn := fun _ => fun
  | [d] => { results := [.lit (.bool false)], args := [d] }
  | _ => none }
def VolRightWrongFalsely : Prop := volRightRow.holds Try.pinned (OpenSpec.ofChange volRightWrong)

/-- 'woolkeep.VolReads': WHATEVER THE INPUT: true; the input reads as it did. -/
def volReadsSpec : ChangeSpec := { name := "volReads", fn := fun _ => fun
  | [d1, d2, d3, d4, d5, d6] => { results := [.lit (.bool true)], args := [d1, d2, d3, d4, d5, d6] }
  | _ => none }
def volReadsRow : OpenClaim := { program := "ytkobngbjffbjiaa", sum := "44af5af6405ab583c57f3157a0727b7e465b91db2547eb75a1696f12de86a560", func := "woolsack/woolkeep.VolReads", spec := "volReads", inPlace := ["slices.overlaps[woolsack/api.Vol]", "slices.overlaps[woolsack/api.Item]"], unfollowed := true, recurses := true, plainKeys := false, apart := false }
def VolReadsSaid : Prop := volReadsRow.holds Try.pinned (OpenSpec.ofChange volReadsSpec)

/-- ITS FALSE NEIGHBOUR: 'it returns false'. Refute it at one input. -/
def volReadsWrong : ChangeSpec := { name := "volReads", fn := fun _ => fun
  | [d1, d2, d3, d4, d5, d6] => { results := [.lit (.bool false)], args := [d1, d2, d3, d4, d5, d6] }
  | _ => none }
def VolReadsWrongFalsely : Prop := volReadsRow.holds Try.pinned (OpenSpec.ofChange volReadsWrong)

/-- 'woolkeep.VolClones': WHATEVER THE INPUT: true; the input reads as it did. -/
def volClonesSpec : ChangeSpec := { name := "volClones", fn := fun _ => fun
  | [d1, d2, d3, d4, d5] => { results := [.lit (.bool true)], args := [d1, d2, d3, d4, d5] }
  | _ => none }
def volClonesRow : OpenClaim := { program := "ytkobngbjffbjiaa", sum := "44af5af6405ab583c57f3157a0727b7e465b91db2547eb75a1696f12de86a560", func := "woolsack/woolkeep.VolClones", spec := "volClones", inPlace := ["slices.overlaps[woolsack/api.Vol]", "slices.overlaps[woolsack/api.Item]"], unfollowed := true, recurses := true, plainKeys := false, apart := false }
def VolClonesSaid : Prop := volClonesRow.holds Try.pinned (OpenSpec.ofChange volClonesSpec)

/-- ITS FALSE NEIGHBOUR: 'it returns false'. Refute it at one input. -/
def volClonesWrong : ChangeSpec := { name := "volClones", fn := fun _ => fun
  | [d1, d2, d3, d4, d5] => { results := [.lit (.bool false)], args := [d1, d2, d3, d4, d5] }
  | _ => none }
def VolClonesWrongFalsely : Prop := volClonesRow.holds Try.pinned (OpenSpec.ofChange volClonesWrong)

/-- 'woolkeep.VolRoom': WHATEVER THE INPUT: true; the input reads as it did. -/
def volRoomSpec : ChangeSpec := { name := "volRoom", fn := fun _ => fun
  | [d] => { results := [.lit (.bool true)], args := [d] }
  | _ => none }
def volRoomRow : OpenClaim := { program := "ytkobngbjffbjiaa", sum := "44af5af6405ab583c57f3157a0727b7e465b91db2547eb75a1696f12de86a560", func := "woolsack/woolkeep.VolRoom", spec := "volRoom", inPlace := ["slices.overlaps[woolsack/api.Vol]", "slices.overlaps[woolsack/api.Item]"], unfollowed := true, recurses := true, plainKeys := false, apart := false }
def VolRoomSaid : Prop := volRoomRow.holds Try.pinned (OpenSpec.ofChange volRoomSpec)

/-- ITS FALSE NEIGHBOUR: 'it returns false'. Refute it at one input. -/
def volRoomWrong : ChangeSpec := { name := "volRoom", fn := fun _ => fun
  | [d] => { results := [.lit (.bool false)], args := [d] }
  | _ => none }
def VolRoomWrongFalsely : Prop := volRoomRow.holds Try.pinned (OpenSpec.ofChange volRoomWrong)

/-- 'woolkeep.VolTwice': WHATEVER THE INPUT: true; the input reads as it did. -/
def volTwiceSpec : ChangeSpec := { name := "volTwice", fn := fun _ => fun
  | [d1, d2, d3, d4, d5, d6, d7] => { results := [.lit (.bool true)], args := [d1, d2, d3, d4, d5, d6, d7] }
  | _ => none }
def volTwiceRow : OpenClaim := { program := "ytkobngbjffbjiaa", sum := "44af5af6405ab583c57f3157a0727b7e465b91db2547eb75a1696f12de86a560", func := "woolsack/woolkeep.VolTwice", spec := "volTwice", inPlace := ["slices.overlaps[woolsack/api.Vol]", "slices.overlaps[woolsack/api.Item]"], unfollowed := true, recurses := true, plainKeys := false, apart := false }
def VolTwiceSaid : Prop := volTwiceRow.holds Try.pinned (OpenSpec.ofChange volTwiceSpec)

/-- ITS FALSE NEIGHBOUR: 'it returns false'. Refute it at one input. -/
def volTwiceWrong : ChangeSpec := { name := "volTwice", fn := fun _ => fun
  | [d1, d2, d3, d4, d5, d6, d7] => { results := [.lit (.bool false)], args := [d1, d2, d3, d4, d5, d6, d7] }
  | _ => none }
def VolTwiceWrongFalsely : Prop := volTwiceRow.holds Try.pinned (OpenSpec.ofChange volTwiceWrong)

/-- 'woolkeep.DiffCopies': WHATEVER THE INPUT: true; the input reads as it did. -/
def diffCopiesSpec : ChangeSpec := { name := "diffCopies", fn := fun _ => fun
  | [d1, d2, d3, d4] => { results := [.lit (.bool true)], args := [d1, d2, d3, d4] }
  | _ => none }
def diffCopiesRow : OpenClaim := { program := "ytkobngbjffbjiaa", sum := "44af5af6405ab583c57f3157a0727b7e465b91db2547eb75a1696f12de86a560", func := "woolsack/woolkeep.DiffCopies", spec := "diffCopies", inPlace := ["slices.overlaps[woolsack/api.Vol]", "slices.overlaps[woolsack/api.Item]"], unfollowed := true, recurses := true, plainKeys := false, apart := false }
def DiffCopiesSaid : Prop := diffCopiesRow.holds Try.pinned (OpenSpec.ofChange diffCopiesSpec)

/-- ITS FALSE NEIGHBOUR: 'it returns false'. Refute it at one input. -/
def diffCopiesWrong : ChangeSpec := { name := "diffCopies", fn := fun _ => fun
  | [d1, d2, d3, d4] => { results := [.lit (.bool false)], args := [d1, d2, d3, d4] }
  | _ => none }
def DiffCopiesWrongFalsely : Prop := diffCopiesRow.holds Try.pinned (OpenSpec.ofChange diffCopiesWrong)

/-- 'woolkeep.DiffWritten': WHATEVER THE INPUT: true; the input reads as it did. -/
def diffWrittenSpec : ChangeSpec := { name := "diffWritten", fn := fun _ => fun
  | [d1, d2, d3] => { results := [.lit (.bool true)], args := [d1, d2, d3] }
  | _ => none }
def diffWrittenRow : OpenClaim := { program := "ytkobngbjffbjiaa", sum := "44af5af6405ab583c57f3157a0727b7e465b91db2547eb75a1696f12de86a560", func := "woolsack/woolkeep.DiffWritten", spec := "diffWritten", inPlace := ["slices.overlaps[woolsack/api.Vol]", "slices.overlaps[woolsack/api.Item]"], unfollowed := true, recurses := true, plainKeys := false, apart := false }
def DiffWrittenSaid : Prop := diffWrittenRow.holds Try.pinned (OpenSpec.ofChange diffWrittenSpec)

/-- ITS FALSE NEIGHBOUR: 'it returns false'. Refute it at one input. -/
def diffWrittenWrong : ChangeSpec := { name := "diffWritten", fn := fun _ => fun
  | [d1, d2, d3] => { results := [.lit (.bool false)], args := [d1, d2, d3] }
  | _ => none }
def DiffWrittenWrongFalsely : Prop := diffWrittenRow.holds Try.pinned (OpenSpec.ofChange diffWrittenWrong)

/-- 'woolkeep.VolNew': WHATEVER THE INPUT: true; the input reads as it did. -/
def volNewSpec : ChangeSpec := { name := "volNew", fn := fun _ => fun
  | [d1, d2, d3] => { results := [.lit (.bool true)], args := [d1, d2, d3] }
  | _ => none }
def volNewRow : OpenClaim := { program := "ytkobngbjffbjiaa", sum := "44af5af6405ab583c57f3157a0727b7e465b91db2547eb75a1696f12de86a560", func := "woolsack/woolkeep.VolNew", spec := "volNew", inPlace := ["slices.overlaps[woolsack/api.Vol]", "slices.overlaps[woolsack/api.Item]"], unfollowed := true, recurses := true, plainKeys := false, apart := false }
def VolNewSaid : Prop := volNewRow.holds Try.pinned (OpenSpec.ofChange volNewSpec)

/-- ITS FALSE NEIGHBOUR: 'it returns false'. Refute it at one input. -/
def volNewWrong : ChangeSpec := { name := "volNew", fn := fun _ => fun
  | [d1, d2, d3] => { results := [.lit (.bool false)], args := [d1, d2, d3] }
  | _ => none }
def VolNewWrongFalsely : Prop := volNewRow.holds Try.pinned (OpenSpec.ofChange volNewWrong)

/-- 'woolkeep.VolEmpty': WHATEVER THE INPUT: true; the input reads as it did. -/
def volEmptySpec : ChangeSpec := { name := "volEmpty", fn := fun _ => fun
  | [d] => { results := [.lit (.bool true)], args := [d] }
  | _ => none }
def volEmptyRow : OpenClaim := { program := "ytkobngbjffbjiaa", sum := "44af5af6405ab583c57f3157a0727b7e465b91db2547eb75a1696f12de86a560", func := "woolsack/woolkeep.VolEmpty", spec := "volEmpty", inPlace := ["slices.overlaps[woolsack/api.Vol]", "slices.overlaps[woolsack/api.Item]"], unfollowed := true, recurses := true, plainKeys := false, apart := false }
def VolEmptySaid : Prop := volEmptyRow.holds Try.pinned (OpenSpec.ofChange volEmptySpec)

/-- ITS FALSE NEIGHBOUR: 'it returns false'. Refute it at one input. -/
def volEmptyWrong : ChangeSpec := { name := "volEmpty", fn := fun _ => fun
  | [d] => { results := [.lit (.bool false)], args := [d] }
  | _ => none }
def VolEmptyWrongFalsely : Prop := volEmptyRow.holds Try.pinned (OpenSpec.ofChange volEmptyWrong)

/-- 'woolkeep.VolApart': WHATEVER THE INPUT: true; the input reads as it did. -/
def volApartSpec : ChangeSpec := { name := "volApart", fn := fun _ => fun
  | [d1, d2, d3, d4, d5, d6, d7] => { results := [.lit (.bool true)], args := [d1, d2, d3, d4, d5, d6, d7] }
  | _ => none }
def volApartRow : OpenClaim := { program := "ytkobngbjffbjiaa", sum := "44af5af6405ab583c57f3157a0727b7e465b91db2547eb75a1696f12de86a560", func := "woolsack/woolkeep.VolApart", spec := "volApart", inPlace := ["slices.overlaps[woolsack/api.Vol]", "slices.overlaps[woolsack/api.Item]"], unfollowed := true, recurses := true, plainKeys := false, apart := false }
def VolApartSaid : Prop := volApartRow.holds Try.pinned (OpenSpec.ofChange volApartSpec)

/-- ITS FALSE NEIGHBOUR: 'it returns false'. Refute it at one input. -/
def volApartWrong : ChangeSpec := { name := "volApart", fn := fun _ => fun
  | [d1, d2, d3, d4, d5, d6, d7] => { results := [.lit (.bool false)], args := [d1, d2, d3, d4, d5, d6, d7] }
  | _ => none }
def VolApartWrongFalsely : Prop := volApartRow.holds Try.pinned (OpenSpec.ofChange volApartWrong)

/-- 'woolkeep.DiffMetric': WHATEVER THE INPUT: true; the input reads as it did. -/
def diffMetricSpec : ChangeSpec := { name := "diffMetric", fn := fun _ => fun
  | [d1, d2, d3, d4] => { results := [.lit (.bool true)], args := [d1, d2, d3, d4] }
  | _ => none }
def diffMetricRow : OpenClaim := { program := "ytkobngbjffbjiaa", sum := "44af5af6405ab583c57f3157a0727b7e465b91db2547eb75a1696f12de86a560", func := "woolsack/woolkeep.DiffMetric", spec := "diffMetric", inPlace := ["slices.overlaps[woolsack/api.Vol]", "slices.overlaps[woolsack/api.Item]"], unfollowed := true, recurses := true, plainKeys := false, apart := false }
def DiffMetricSaid : Prop := diffMetricRow.holds Try.pinned (OpenSpec.ofChange diffMetricSpec)

/-- ITS FALSE NEIGHBOUR: 'it returns false'. Refute it at one input. -/
def diffMetricWrong : ChangeSpec := { name := "diffMetric", fn := fun _ => fun
  | [d1, d2, d3, d4] => { results := [.lit (.bool false)], args := [d1, d2, d3, d4] }
  | _ => none }
def DiffMetricWrongFalsely : Prop := diffMetricRow.holds Try.pinned (OpenSpec.ofChange diffMetricWrong)

/-- 'woolkeep.VolOwn': WHATEVER THE INPUT: true; the input reads as it did. -/
def volOwnSpec : ChangeSpec := { name := "volOwn", fn := fun _ => fun
  | [d1, d2, d3, d4, d5, d6] => { results := [.lit (.bool true)], args := [d1, d2, d3, d4, d5, d6] }
  | _ => none }
def volOwnRow : OpenClaim := { program := "ytkobngbjffbjiaa", sum := "44af5af6405ab583c57f3157a0727b7e465b91db2547eb75a1696f12de86a560", func := "woolsack/woolkeep.VolOwn", spec := "volOwn", inPlace := ["slices.overlaps[woolsack/api.Vol]", "slices.overlaps[woolsack/api.Item]"], unfollowed := true, recurses := true, plainKeys := false, apart := false }
def VolOwnSaid : Prop := volOwnRow.holds Try.pinned (OpenSpec.ofChange volOwnSpec)

/-- ITS FALSE NEIGHBOUR: 'it returns false'. Refute it at one input. -/
def volOwnWrong : ChangeSpec := { name := "volOwn", fn := fun _ => fun
  | [d1, d2, d3, d4, d5, d6] => { results := [.lit (.bool false)], args := [d1, d2, d3, d4, d5, d6] }
  | _ => none }
def VolOwnWrongFalsely : Prop := volOwnRow.holds Try.pinned (OpenSpec.ofChange volOwnWrong)

/- THE SECOND FORM. 'bulk': how many values and letters a reading holds, each counted each time it is reached (what is shared counts as often as it is met; a slice's spare places count too). A statement '..UptoSaid' is the law's where the arguments, and the package variables that the reading takes, are together of bulk at most 1048576: NARROWER than '..Said'. Prove '..Said' where nothing that the law and all that it calls make is longer than what came in: it says more and counts as full. Else prove '..UptoSaid'. A law counts once. -/
mutual
def uptoBulk {H : Type} : DataW H → Nat
  | .lit (.string bytes) => bytes.length + 1
  | .lit _ => 1
  | .nil => 1
  | .ptr d => uptoBulk d + 1
  | .slice elems spare => uptoBulkAll elems + uptoBulkAll spare + 1
  | .agg parts => uptoBulkAll parts + 1
  | .iface _ d => uptoBulk d + 1
  | .map entries => uptoBulkEntries entries + 1
  | .held _ => 1
def uptoBulkAll {H : Type} : List (DataW H) → Nat
  | [] => 0
  | d :: r => uptoBulk d + uptoBulkAll r
def uptoBulkEntries {H : Type} : List (Lit × DataW H) → Nat
  | [] => 0
  | x :: r => uptoBulkEntry x + uptoBulkEntries r
def uptoBulkEntry {H : Type} : Lit × DataW H → Nat
  | (.string bytes, d) => bytes.length + uptoBulk d + 1
  | (_, d) => uptoBulk d + 1
 end
def uptoSmall : (H : Type) → List (DataW H) → Bool := fun _ ds => decide (uptoBulkAll ds ≤ 1048576)
def OpenSpec.upto (s : _root_.Go.ChangeSpec) : _root_.Go.OpenSpec := { _root_.Go.OpenSpec.ofChange s with cond := some uptoSmall }

/-- 'woolkeep.VolRight', WHERE WHAT IT READS IS OF BULK AT MOST 1048576: true; the input reads as it did. -/
def volRightUptoRow : OpenClaim := { program := "ytkobngbjffbjiaa", sum := "44af5af6405ab583c57f3157a0727b7e465b91db2547eb75a1696f12de86a560", func := "woolsack/woolkeep.VolRight", spec := "volRight", inPlace := ["slices.overlaps[woolsack/api.Vol]", "slices.overlaps[woolsack/api.Item]"], unfollowed := true, recurses := true, plainKeys := false, apart := false, narrowed := true }
def VolRightUptoSaid : Prop := volRightUptoRow.holds Try.pinned (OpenSpec.upto volRightSpec)

/-- 'woolkeep.VolReads', WHERE WHAT IT READS IS OF BULK AT MOST 1048576: true; the input reads as it did. -/
def volReadsUptoRow : OpenClaim := { program := "ytkobngbjffbjiaa", sum := "44af5af6405ab583c57f3157a0727b7e465b91db2547eb75a1696f12de86a560", func := "woolsack/woolkeep.VolReads", spec := "volReads", inPlace := ["slices.overlaps[woolsack/api.Vol]", "slices.overlaps[woolsack/api.Item]"], unfollowed := true, recurses := true, plainKeys := false, apart := false, narrowed := true }
def VolReadsUptoSaid : Prop := volReadsUptoRow.holds Try.pinned (OpenSpec.upto volReadsSpec)

/-- 'woolkeep.VolClones', WHERE WHAT IT READS IS OF BULK AT MOST 1048576: true; the input reads as it did. -/
def volClonesUptoRow : OpenClaim := { program := "ytkobngbjffbjiaa", sum := "44af5af6405ab583c57f3157a0727b7e465b91db2547eb75a1696f12de86a560", func := "woolsack/woolkeep.VolClones", spec := "volClones", inPlace := ["slices.overlaps[woolsack/api.Vol]", "slices.overlaps[woolsack/api.Item]"], unfollowed := true, recurses := true, plainKeys := false, apart := false, narrowed := true }
def VolClonesUptoSaid : Prop := volClonesUptoRow.holds Try.pinned (OpenSpec.upto volClonesSpec)

/-- 'woolkeep.VolRoom', WHERE WHAT IT READS IS OF BULK AT MOST 1048576: true; the input reads as it did. -/
def volRoomUptoRow : OpenClaim := { program := "ytkobngbjffbjiaa", sum := "44af5af6405ab583c57f3157a0727b7e465b91db2547eb75a1696f12de86a560", func := "woolsack/woolkeep.VolRoom", spec := "volRoom", inPlace := ["slices.overlaps[woolsack/api.Vol]", "slices.overlaps[woolsack/api.Item]"], unfollowed := true, recurses := true, plainKeys := false, apart := false, narrowed := true }
def VolRoomUptoSaid : Prop := volRoomUptoRow.holds Try.pinned (OpenSpec.upto volRoomSpec)

/-- 'woolkeep.VolTwice', WHERE WHAT IT READS IS OF BULK AT MOST 1048576: true; the input reads as it did. -/
def volTwiceUptoRow : OpenClaim := { program := "ytkobngbjffbjiaa", sum := "44af5af6405ab583c57f3157a0727b7e465b91db2547eb75a1696f12de86a560", func := "woolsack/woolkeep.VolTwice", spec := "volTwice", inPlace := ["slices.overlaps[woolsack/api.Vol]", "slices.overlaps[woolsack/api.Item]"], unfollowed := true, recurses := true, plainKeys := false, apart := false, narrowed := true }
def VolTwiceUptoSaid : Prop := volTwiceUptoRow.holds Try.pinned (OpenSpec.upto volTwiceSpec)

/-- 'woolkeep.DiffCopies', WHERE WHAT IT READS IS OF BULK AT MOST 1048576: true; the input reads as it did. -/
def diffCopiesUptoRow : OpenClaim := { program := "ytkobngbjffbjiaa", sum := "44af5af6405ab583c57f3157a0727b7e465b91db2547eb75a1696f12de86a560", func := "woolsack/woolkeep.DiffCopies", spec := "diffCopies", inPlace := ["slices.overlaps[woolsack/api.Vol]", "slices.overlaps[woolsack/api.Item]"], unfollowed := true, recurses := true, plainKeys := false, apart := false, narrowed := true }
def DiffCopiesUptoSaid : Prop := diffCopiesUptoRow.holds Try.pinned (OpenSpec.upto diffCopiesSpec)

/-- 'woolkeep.DiffWritten', WHERE WHAT IT READS IS OF BULK AT MOST 1048576: true; the input reads as it did. -/
def diffWrittenUptoRow : OpenClaim := { program := "ytkobngbjffbjiaa", sum := "44af5af6405ab583c57f3157a0727b7e465b91db2547eb75a1696f12de86a560", func := "woolsack/woolkeep.DiffWritten", spec := "diffWritten", inPlace := ["slices.overlaps[woolsack/api.Vol]", "slices.overlaps[woolsack/api.Item]"], unfollowed := true, recurses := true, plainKeys := false, apart := false, narrowed := true }
def DiffWrittenUptoSaid : Prop := diffWrittenUptoRow.holds Try.pinned (OpenSpec.upto diffWrittenSpec)

/-- 'woolkeep.VolNew', WHERE WHAT IT READS IS OF BULK AT MOST 1048576: true; the input reads as it did. -/
def volNewUptoRow : OpenClaim := { program := "ytkobngbjffbjiaa", sum := "44af5af6405ab583c57f3157a0727b7e465b91db2547eb75a1696f12de86a560", func := "woolsack/woolkeep.VolNew", spec := "volNew", inPlace := ["slices.overlaps[woolsack/api.Vol]", "slices.overlaps[woolsack/api.Item]"], unfollowed := true, recurses := true, plainKeys := false, apart := false, narrowed := true }
def VolNewUptoSaid : Prop := volNewUptoRow.holds Try.pinned (OpenSpec.upto volNewSpec)

/-- 'woolkeep.VolEmpty', WHERE WHAT IT READS IS OF BULK AT MOST 1048576: true; the input reads as it did. -/
def volEmptyUptoRow : OpenClaim := { program := "ytkobngbjffbjiaa", sum := "44af5af6405ab583c57f3157a0727b7e465b91db2547eb75a1696f12de86a560", func := "woolsack/woolkeep.VolEmpty", spec := "volEmpty", inPlace := ["slices.overlaps[woolsack/api.Vol]", "slices.overlaps[woolsack/api.Item]"], unfollowed := true, recurses := true, plainKeys := false, apart := false, narrowed := true }
def VolEmptyUptoSaid : Prop := volEmptyUptoRow.holds Try.pinned (OpenSpec.upto volEmptySpec)

/-- 'woolkeep.VolApart', WHERE WHAT IT READS IS OF BULK AT MOST 1048576: true; the input reads as it did. -/
def volApartUptoRow : OpenClaim := { program := "ytkobngbjffbjiaa", sum := "44af5af6405ab583c57f3157a0727b7e465b91db2547eb75a1696f12de86a560", func := "woolsack/woolkeep.VolApart", spec := "volApart", inPlace := ["slices.overlaps[woolsack/api.Vol]", "slices.overlaps[woolsack/api.Item]"], unfollowed := true, recurses := true, plainKeys := false, apart := false, narrowed := true }
def VolApartUptoSaid : Prop := volApartUptoRow.holds Try.pinned (OpenSpec.upto volApartSpec)

/-- 'woolkeep.DiffMetric', WHERE WHAT IT READS IS OF BULK AT MOST 1048576: true; the input reads as it did. -/
def diffMetricUptoRow : OpenClaim := { program := "ytkobngbjffbjiaa", sum := "44af5af6405ab583c57f3157a0727b7e465b91db2547eb75a1696f12de86a560", func := "woolsack/woolkeep.DiffMetric", spec := "diffMetric", inPlace := ["slices.overlaps[woolsack/api.Vol]", "slices.overlaps[woolsack/api.Item]"], unfollowed := true, recurses := true, plainKeys := false, apart := false, narrowed := true }
def DiffMetricUptoSaid : Prop := diffMetricUptoRow.holds Try.pinned (OpenSpec.upto diffMetricSpec)

/-- 'woolkeep.VolOwn', WHERE WHAT IT READS IS OF BULK AT MOST 1048576: true; the input reads as it did. -/
def volOwnUptoRow : OpenClaim := { program := "ytkobngbjffbjiaa", sum := "44af5af6405ab583c57f3157a0727b7e465b91db2547eb75a1696f12de86a560", func := "woolsack/woolkeep.VolOwn", spec := "volOwn", inPlace := ["slices.overlaps[woolsack/api.Vol]", "slices.overlaps[woolsack/api.Item]"], unfollowed := true, recurses := true, plainKeys := false, apart := false, narrowed := true }
def VolOwnUptoSaid : Prop := volOwnUptoRow.holds Try.pinned (OpenSpec.upto volOwnSpec)

end Rows
end Go.Proofs.Ytkobngbjffbjiaa
