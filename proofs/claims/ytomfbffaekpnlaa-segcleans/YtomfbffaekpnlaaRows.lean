/-
  No cell of these rows narrows 'for every input' (looked for: loops, veiled, ifaces, maps, wideKeys, modest, calm, conditions, laid).
  DERIVED. THE GIVEN ROWS OF THIS SEAT. 2 by the template 'for every input the law returns true; each argument reads behind the call as it read before'; 0 by the template 'total and deterministic' (their statements: YtomfbffaekpnlaaTotals.lean).
  GIVEN WITH THE SEED: the statements are not yours to turn. If you find one false, say at which input.
  Laid BY PROGRAM, IN A SANDBOX (cutbox-rows.mjs): the forced cells as the released guide's own fill.sh prints them over the translation f9d5137da1bc1699… (all of the seat's roots in one cut). By AI agents, Wed Nov 11 2026. No macro, syntax, notation, axiom, sorry.
-/
import Derived.Test.YtomfbffaekpnlaaChecked
import GoSem.Claim
import GoSem.ClaimJoined
import GoSem.ClaimMapViews
import Derived.JoinedTies
import Derived.KernelRfl
namespace Go.Proofs.Ytomfbffaekpnlaa
/- THE CELL 'sum', in the pinned program and in every row, IS THE sha256 OF THE DUMP (.gsa) THAT YtomfbffaekpnlaaProg.lean LOADS. Nothing in Lean hashes anything: it is a label: what it is worth is what the hold of that sum in a sandbox is worth. -/
noncomputable def Try.pinned : Pinned := { name := "ytomfbffaekpnlaa", sum := "f9d5137da1bc1699af77bb0f2406bad29433ea8499d6ab9c97115c05d232b855", checked := Try.checked }
namespace Rows
def none {H : Type} : Left H := { results := [], args := [] }

/-- 'woollaw.SegSays': WHATEVER THE INPUT: true; the input reads as it did. -/
def segSaysSpec : ChangeSpec := { name := "segSays", fn := fun _ => fun
  | [d1, d2] => { results := [.lit (.bool true)], args := [d1, d2] }
  | _ => none }
def segSaysRow : OpenClaim := { program := "ytomfbffaekpnlaa", sum := "f9d5137da1bc1699af77bb0f2406bad29433ea8499d6ab9c97115c05d232b855", func := "woolsack/woollaw.SegSays", spec := "segSays", unfollowed := true, recurses := true, apart := false }
def SegSaysSaid : Prop := segSaysRow.holds Try.pinned (OpenSpec.ofChange segSaysSpec)

/-- ITS FALSE NEIGHBOUR: 'it returns false'. Refute it at one input. -/
def segSaysWrong : ChangeSpec := { name := "segSays", fn := fun _ => fun
  | [d1, d2] => { results := [.lit (.bool false)], args := [d1, d2] }
  | _ => none }
def SegSaysWrongFalsely : Prop := segSaysRow.holds Try.pinned (OpenSpec.ofChange segSaysWrong)

/-- 'woollaw.SegCleans': WHATEVER THE INPUT: true; the input reads as it did. -/
def segCleansSpec : ChangeSpec := { name := "segCleans", fn := fun _ => fun
  | [d1, d2] => { results := [.lit (.bool true)], args := [d1, d2] }
  | _ => none }
def segCleansRow : OpenClaim := { program := "ytomfbffaekpnlaa", sum := "f9d5137da1bc1699af77bb0f2406bad29433ea8499d6ab9c97115c05d232b855", func := "woolsack/woollaw.SegCleans", spec := "segCleans", unfollowed := true, recurses := true, apart := false }
def SegCleansSaid : Prop := segCleansRow.holds Try.pinned (OpenSpec.ofChange segCleansSpec)

/-- ITS FALSE NEIGHBOUR: 'it returns false'. Refute it at one input. -/
def segCleansWrong : ChangeSpec := { name := "segCleans", fn := fun _ => fun
  | [d1, d2] => { results := [.lit (.bool false)], args := [d1, d2] }
  | _ => none }
def SegCleansWrongFalsely : Prop := segCleansRow.holds Try.pinned (OpenSpec.ofChange segCleansWrong)

/- THE SECOND FORM. 'bulk': how many values and letters a reading holds, each counted each time it is reached (what is shared counts as often as it is met; a slice's spare places count too). A statement '..UptoSaid' is the law's where the arguments, and the package variables that the reading takes, are together of bulk at most 1048576: NARROWER than '..Said'. Prove '..Said' where nothing that the law and all that it calls make is longer than what came in: it says more and counts as full. Else prove '..UptoSaid'. A law counts once. -/
mutual
def uptoBulk {H : Type} : DataW H → Nat
  | .lit (.string bytes) => bytes.length + 1
  | .lit _ => 1
  | .nil => 1
  | .ptr d => uptoBulk d + 1
  | .slice elems spare => uptoBulkAll elems + uptoBulkAll spare + 1
  | .agg parts => uptoBulkAll parts + 1
  | .iface _ d => uptoBulk d + 1
  | .map entries => uptoBulkEntries entries + 1
  | .held _ => 1
def uptoBulkAll {H : Type} : List (DataW H) → Nat
  | [] => 0
  | d :: r => uptoBulk d + uptoBulkAll r
def uptoBulkEntries {H : Type} : List (Lit × DataW H) → Nat
  | [] => 0
  | x :: r => uptoBulkEntry x + uptoBulkEntries r
def uptoBulkEntry {H : Type} : Lit × DataW H → Nat
  | (.string bytes, d) => bytes.length + uptoBulk d + 1
  | (_, d) => uptoBulk d + 1
 end
def uptoSmall : (H : Type) → List (DataW H) → Bool := fun _ ds => decide (uptoBulkAll ds ≤ 1048576)
def OpenSpec.upto (s : _root_.Go.ChangeSpec) : _root_.Go.OpenSpec := { _root_.Go.OpenSpec.ofChange s with cond := some uptoSmall }

/-- 'woollaw.SegSays', WHERE WHAT IT READS IS OF BULK AT MOST 1048576: true; the input reads as it did. -/
def segSaysUptoRow : OpenClaim := { program := "ytomfbffaekpnlaa", sum := "f9d5137da1bc1699af77bb0f2406bad29433ea8499d6ab9c97115c05d232b855", func := "woolsack/woollaw.SegSays", spec := "segSays", unfollowed := true, recurses := true, apart := false, narrowed := true }
def SegSaysUptoSaid : Prop := segSaysUptoRow.holds Try.pinned (OpenSpec.upto segSaysSpec)

/-- 'woollaw.SegCleans', WHERE WHAT IT READS IS OF BULK AT MOST 1048576: true; the input reads as it did. -/
def segCleansUptoRow : OpenClaim := { program := "ytomfbffaekpnlaa", sum := "f9d5137da1bc1699af77bb0f2406bad29433ea8499d6ab9c97115c05d232b855", func := "woolsack/woollaw.SegCleans", spec := "segCleans", unfollowed := true, recurses := true, apart := false, narrowed := true }
def SegCleansUptoSaid : Prop := segCleansUptoRow.holds Try.pinned (OpenSpec.upto segCleansSpec)

end Rows
end Go.Proofs.Ytomfbffaekpnlaa
