/-
  No cell of these rows narrows 'for every input' (looked for: loops, veiled, ifaces, maps, wideKeys, modest, calm, conditions, laid).
  DERIVED. THE GIVEN ROWS OF THIS SEAT. 7 by the template 'for every input the law returns true; each argument reads behind the call as it read before'; 0 by the template 'total and deterministic' (their statements: YtldcaadbkcbdjaaTotals.lean).
  GIVEN WITH THE SEED: the statements are not yours to turn. If you find one false, say at which input.
  Laid BY PROGRAM, IN A SANDBOX (cutbox-rows.mjs): the forced cells as the released guide's own fill.sh prints them over the translation 3264e15835adafbd… (all of the seat's roots in one cut). By AI agents, Wed Nov 11 2026. No macro, syntax, notation, axiom, sorry.
-/
import Derived.Test.YtldcaadbkcbdjaaChecked
import GoSem.Claim
import GoSem.ClaimJoined
import GoSem.ClaimMapViews
import Derived.JoinedTies
import Derived.KernelRfl
namespace Go.Proofs.Ytldcaadbkcbdjaa
/- THE CELL 'sum', in the pinned program and in every row, IS THE sha256 OF THE DUMP (.gsa) THAT YtldcaadbkcbdjaaProg.lean LOADS. Nothing in Lean hashes anything: it is a label: what it is worth is what the hold of that sum in a sandbox is worth. -/
noncomputable def Try.pinned : Pinned := { name := "ytldcaadbkcbdjaa", sum := "3264e15835adafbd761663bad52682c99a8edcb1110c6eff5d718c4ba1a37d27", checked := Try.checked }
namespace Rows
def none {H : Type} : Left H := { results := [], args := [] }

/-- 'woollaw.BagSays': WHATEVER THE INPUT: true; the input reads as it did. -/
def bagSaysSpec : ChangeSpec := { name := "bagSays", fn := fun _ => fun
  | [d1, d2, d3] => { results := [.lit (.bool true)], args := [d1, d2, d3] }
  | _ => none }
def bagSaysRow : OpenClaim := { program := "ytldcaadbkcbdjaa", sum := "3264e15835adafbd761663bad52682c99a8edcb1110c6eff5d718c4ba1a37d27", func := "woolsack/woollaw.BagSays", spec := "bagSays", inPlace := ["slices.overlaps[woolsack/api.Item]", "internal/reflectlite.ValueOf", "internal/reflectlite.Swapper", "(internal/reflectlite.Value).Len"], unfollowed := true, recurses := true, plainKeys := false, apart := false }
def BagSaysSaid : Prop := bagSaysRow.holds Try.pinned (OpenSpec.ofChange bagSaysSpec)

/-- ITS FALSE NEIGHBOUR: 'it returns false'. Refute it at one input. -/
def bagSaysWrong : ChangeSpec := { name := "bagSays", fn := fun _ => fun
  | [d1, d2, d3] => { results := [.lit (.bool false)], args := [d1, d2, d3] }
  | _ => none }
def BagSaysWrongFalsely : Prop := bagSaysRow.holds Try.pinned (OpenSpec.ofChange bagSaysWrong)

/-- 'woolkeep.BagOnce': WHATEVER THE INPUT: true; the input reads as it did. -/
def bagOnceSpec : ChangeSpec := { name := "bagOnce", fn := fun _ => fun
  | [d1, d2, d3] => { results := [.lit (.bool true)], args := [d1, d2, d3] }
  | _ => none }
def bagOnceRow : OpenClaim := { program := "ytldcaadbkcbdjaa", sum := "3264e15835adafbd761663bad52682c99a8edcb1110c6eff5d718c4ba1a37d27", func := "woolsack/woolkeep.BagOnce", spec := "bagOnce", inPlace := ["slices.overlaps[woolsack/api.Item]"], unfollowed := true, recurses := true, plainKeys := false, apart := false }
def BagOnceSaid : Prop := bagOnceRow.holds Try.pinned (OpenSpec.ofChange bagOnceSpec)

/-- ITS FALSE NEIGHBOUR: 'it returns false'. Refute it at one input. -/
def bagOnceWrong : ChangeSpec := { name := "bagOnce", fn := fun _ => fun
  | [d1, d2, d3] => { results := [.lit (.bool false)], args := [d1, d2, d3] }
  | _ => none }
def BagOnceWrongFalsely : Prop := bagOnceRow.holds Try.pinned (OpenSpec.ofChange bagOnceWrong)

/-- 'woolkeep.BagBack': WHATEVER THE INPUT: true; the input reads as it did. -/
def bagBackSpec : ChangeSpec := { name := "bagBack", fn := fun _ => fun
  | [d1, d2] => { results := [.lit (.bool true)], args := [d1, d2] }
  | _ => none }
def bagBackRow : OpenClaim := { program := "ytldcaadbkcbdjaa", sum := "3264e15835adafbd761663bad52682c99a8edcb1110c6eff5d718c4ba1a37d27", func := "woolsack/woolkeep.BagBack", spec := "bagBack", inPlace := ["slices.overlaps[woolsack/api.Item]"], unfollowed := true, recurses := true, plainKeys := false, apart := false }
def BagBackSaid : Prop := bagBackRow.holds Try.pinned (OpenSpec.ofChange bagBackSpec)

/-- ITS FALSE NEIGHBOUR: 'it returns false'. Refute it at one input. -/
def bagBackWrong : ChangeSpec := { name := "bagBack", fn := fun _ => fun
  | [d1, d2] => { results := [.lit (.bool false)], args := [d1, d2] }
  | _ => none }
def BagBackWrongFalsely : Prop := bagBackRow.holds Try.pinned (OpenSpec.ofChange bagBackWrong)

/-- 'woolkeep.BagOthers': WHATEVER THE INPUT: true; the input reads as it did. -/
def bagOthersSpec : ChangeSpec := { name := "bagOthers", fn := fun _ => fun
  | [d1, d2, d3, d4] => { results := [.lit (.bool true)], args := [d1, d2, d3, d4] }
  | _ => none }
def bagOthersRow : OpenClaim := { program := "ytldcaadbkcbdjaa", sum := "3264e15835adafbd761663bad52682c99a8edcb1110c6eff5d718c4ba1a37d27", func := "woolsack/woolkeep.BagOthers", spec := "bagOthers", inPlace := ["slices.overlaps[woolsack/api.Item]"], unfollowed := true, recurses := true, plainKeys := false, apart := false }
def BagOthersSaid : Prop := bagOthersRow.holds Try.pinned (OpenSpec.ofChange bagOthersSpec)

/-- ITS FALSE NEIGHBOUR: 'it returns false'. Refute it at one input. -/
def bagOthersWrong : ChangeSpec := { name := "bagOthers", fn := fun _ => fun
  | [d1, d2, d3, d4] => { results := [.lit (.bool false)], args := [d1, d2, d3, d4] }
  | _ => none }
def BagOthersWrongFalsely : Prop := bagOthersRow.holds Try.pinned (OpenSpec.ofChange bagOthersWrong)

/-- 'woolkeep.BagTurns': WHATEVER THE INPUT: true; the input reads as it did. -/
def bagTurnsSpec : ChangeSpec := { name := "bagTurns", fn := fun _ => fun
  | [d1, d2, d3, d4] => { results := [.lit (.bool true)], args := [d1, d2, d3, d4] }
  | _ => none }
def bagTurnsRow : OpenClaim := { program := "ytldcaadbkcbdjaa", sum := "3264e15835adafbd761663bad52682c99a8edcb1110c6eff5d718c4ba1a37d27", func := "woolsack/woolkeep.BagTurns", spec := "bagTurns", inPlace := ["slices.overlaps[woolsack/api.Item]"], unfollowed := true, recurses := true, plainKeys := false, apart := false }
def BagTurnsSaid : Prop := bagTurnsRow.holds Try.pinned (OpenSpec.ofChange bagTurnsSpec)

/-- ITS FALSE NEIGHBOUR: 'it returns false'. Refute it at one input. -/
def bagTurnsWrong : ChangeSpec := { name := "bagTurns", fn := fun _ => fun
  | [d1, d2, d3, d4] => { results := [.lit (.bool false)], args := [d1, d2, d3, d4] }
  | _ => none }
def BagTurnsWrongFalsely : Prop := bagTurnsRow.holds Try.pinned (OpenSpec.ofChange bagTurnsWrong)

/-- 'woolkeep.BagOwn': WHATEVER THE INPUT: true; the input reads as it did. -/
def bagOwnSpec : ChangeSpec := { name := "bagOwn", fn := fun _ => fun
  | [d1, d2, d3] => { results := [.lit (.bool true)], args := [d1, d2, d3] }
  | _ => none }
def bagOwnRow : OpenClaim := { program := "ytldcaadbkcbdjaa", sum := "3264e15835adafbd761663bad52682c99a8edcb1110c6eff5d718c4ba1a37d27", func := "woolsack/woolkeep.BagOwn", spec := "bagOwn", inPlace := ["slices.overlaps[woolsack/api.Item]"], unfollowed := true, recurses := true, plainKeys := false, apart := false }
def BagOwnSaid : Prop := bagOwnRow.holds Try.pinned (OpenSpec.ofChange bagOwnSpec)

/-- ITS FALSE NEIGHBOUR: 'it returns false'. Refute it at one input. -/
def bagOwnWrong : ChangeSpec := { name := "bagOwn", fn := fun _ => fun
  | [d1, d2, d3] => { results := [.lit (.bool false)], args := [d1, d2, d3] }
  | _ => none }
def BagOwnWrongFalsely : Prop := bagOwnRow.holds Try.pinned (OpenSpec.ofChange bagOwnWrong)

/-- 'wooltop.TopDedup': WHATEVER THE INPUT: true; the input reads as it did. -/
def topDedupSpec : ChangeSpec := { name := "topDedup", fn := fun _ => fun
  | [d1, d2] => { results := [.lit (.bool true)], args := [d1, d2] }
  | _ => none }
def topDedupRow : OpenClaim := { program := "ytldcaadbkcbdjaa", sum := "3264e15835adafbd761663bad52682c99a8edcb1110c6eff5d718c4ba1a37d27", func := "woolsack/wooltop.TopDedup", spec := "topDedup", inPlace := ["slices.overlaps[woolsack/api.Vol]", "slices.overlaps[woolsack/api.Item]"], unfollowed := true, recurses := true, plainKeys := false, apart := false }
def TopDedupSaid : Prop := topDedupRow.holds Try.pinned (OpenSpec.ofChange topDedupSpec)

/-- ITS FALSE NEIGHBOUR: 'it returns false'. Refute it at one input. -/
def topDedupWrong : ChangeSpec := { name := "topDedup", fn := fun _ => fun
  | [d1, d2] => { results := [.lit (.bool false)], args := [d1, d2] }
  | _ => none }
def TopDedupWrongFalsely : Prop := topDedupRow.holds Try.pinned (OpenSpec.ofChange topDedupWrong)

/- THE SECOND FORM. 'bulk': how many values and letters a reading holds, each counted each time it is reached (what is shared counts as often as it is met; a slice's spare places count too). A statement '..UptoSaid' is the law's where the arguments, and the package variables that the reading takes, are together of bulk at most 1048576: NARROWER than '..Said'. Prove '..Said' where nothing that the law and all that it calls make is longer than what came in: it says more and counts as full. Else prove '..UptoSaid'. A law counts once. -/
mutual
def uptoBulk {H : Type} : DataW H → Nat
  | .lit (.string bytes) => bytes.length + 1
  | .lit _ => 1
  | .nil => 1
  | .ptr d => uptoBulk d + 1
  | .slice elems spare => uptoBulkAll elems + uptoBulkAll spare + 1
  | .agg parts => uptoBulkAll parts + 1
  | .iface _ d => uptoBulk d + 1
  | .map entries => uptoBulkEntries entries + 1
  | .held _ => 1
def uptoBulkAll {H : Type} : List (DataW H) → Nat
  | [] => 0
  | d :: r => uptoBulk d + uptoBulkAll r
def uptoBulkEntries {H : Type} : List (Lit × DataW H) → Nat
  | [] => 0
  | x :: r => uptoBulkEntry x + uptoBulkEntries r
def uptoBulkEntry {H : Type} : Lit × DataW H → Nat
  | (.string bytes, d) => bytes.length + uptoBulk d + 1
  | (_, d) => uptoBulk d + 1
 end
def uptoSmall : (H : Type) → List (DataW H) → Bool := fun _ ds => decide (uptoBulkAll ds ≤ 1048576)
def OpenSpec.upto (s : _root_.Go.ChangeSpec) : _root_.Go.OpenSpec := { _root_.Go.OpenSpec.ofChange s with cond := some uptoSmall }

/-- 'woollaw.BagSays', WHERE WHAT IT READS IS OF BULK AT MOST 1048576: true; the input reads as it did. -/
def bagSaysUptoRow : OpenClaim := { program := "ytldcaadbkcbdjaa", sum := "3264e15835adafbd761663bad52682c99a8edcb1110c6eff5d718c4ba1a37d27", func := "woolsack/woollaw.BagSays", spec := "bagSays", inPlace := ["slices.overlaps[woolsack/api.Item]", "internal/reflectlite.ValueOf", "internal/reflectlite.Swapper", "(internal/reflectlite.Value).Len"], unfollowed := true, recurses := true, plainKeys := false, apart := false, narrowed := true }
def BagSaysUptoSaid : Prop := bagSaysUptoRow.holds Try.pinned (OpenSpec.upto bagSaysSpec)

/-- 'woolkeep.BagOnce', WHERE WHAT IT READS IS OF BULK AT MOST 1048576: true; the input reads as it did. -/
def bagOnceUptoRow : OpenClaim := { program := "ytldcaadbkcbdjaa", sum := "3264e15835adafbd761663bad52682c99a8edcb1110c6eff5d718c4ba1a37d27", func := "woolsack/woolkeep.BagOnce", spec := "bagOnce", inPlace := ["slices.overlaps[woolsack/api.Item]"], unfollowed := true, recurses := true, plainKeys := false, apart := false, narrowed := true }
def BagOnceUptoSaid : Prop := bagOnceUptoRow.holds Try.pinned (OpenSpec.upto bagOnceSpec)

/-- 'woolkeep.BagBack', WHERE WHAT IT READS IS OF BULK AT MOST 1048576: true; the input reads as it did. -/
def bagBackUptoRow : OpenClaim := { program := "ytldcaadbkcbdjaa", sum := "3264e15835adafbd761663bad52682c99a8edcb1110c6eff5d718c4ba1a37d27", func := "woolsack/woolkeep.BagBack", spec := "bagBack", inPlace := ["slices.overlaps[woolsack/api.Item]"], unfollowed := true, recurses := true, plainKeys := false, apart := false, narrowed := true }
def BagBackUptoSaid : Prop := bagBackUptoRow.holds Try.pinned (OpenSpec.upto bagBackSpec)

/-- 'woolkeep.BagOthers', WHERE WHAT IT READS IS OF BULK AT MOST 1048576: true; the input reads as it did. -/
def bagOthersUptoRow : OpenClaim := { program := "ytldcaadbkcbdjaa", sum := "3264e15835adafbd761663bad52682c99a8edcb1110c6eff5d718c4ba1a37d27", func := "woolsack/woolkeep.BagOthers", spec := "bagOthers", inPlace := ["slices.overlaps[woolsack/api.Item]"], unfollowed := true, recurses := true, plainKeys := false, apart := false, narrowed := true }
def BagOthersUptoSaid : Prop := bagOthersUptoRow.holds Try.pinned (OpenSpec.upto bagOthersSpec)

/-- 'woolkeep.BagTurns', WHERE WHAT IT READS IS OF BULK AT MOST 1048576: true; the input reads as it did. -/
def bagTurnsUptoRow : OpenClaim := { program := "ytldcaadbkcbdjaa", sum := "3264e15835adafbd761663bad52682c99a8edcb1110c6eff5d718c4ba1a37d27", func := "woolsack/woolkeep.BagTurns", spec := "bagTurns", inPlace := ["slices.overlaps[woolsack/api.Item]"], unfollowed := true, recurses := true, plainKeys := false, apart := false, narrowed := true }
def BagTurnsUptoSaid : Prop := bagTurnsUptoRow.holds Try.pinned (OpenSpec.upto bagTurnsSpec)

/-- 'woolkeep.BagOwn', WHERE WHAT IT READS IS OF BULK AT MOST 1048576: true; the input reads as it did. -/
def bagOwnUptoRow : OpenClaim := { program := "ytldcaadbkcbdjaa", sum := "3264e15835adafbd761663bad52682c99a8edcb1110c6eff5d718c4ba1a37d27", func := "woolsack/woolkeep.BagOwn", spec := "bagOwn", inPlace := ["slices.overlaps[woolsack/api.Item]"], unfollowed := true, recurses := true, plainKeys := false, apart := false, narrowed := true }
def BagOwnUptoSaid : Prop := bagOwnUptoRow.holds Try.pinned (OpenSpec.upto bagOwnSpec)

/-- 'wooltop.TopDedup', WHERE WHAT IT READS IS OF BULK AT MOST 1048576: true; the input reads as it did. -/
def topDedupUptoRow : OpenClaim := { program := "ytldcaadbkcbdjaa", sum := "3264e15835adafbd761663bad52682c99a8edcb1110c6eff5d718c4ba1a37d27", func := "woolsack/wooltop.TopDedup", spec := "topDedup", inPlace := ["slices.overlaps[woolsack/api.Vol]", "slices.overlaps[woolsack/api.Item]"], unfollowed := true, recurses := true, plainKeys := false, apart := false, narrowed := true }
def TopDedupUptoSaid : Prop := topDedupUptoRow.holds Try.pinned (OpenSpec.upto topDedupSpec)

end Rows
end Go.Proofs.Ytldcaadbkcbdjaa
