/-
  No cell of these rows narrows 'for every input' (looked for: loops, veiled, ifaces, maps, wideKeys, modest, calm, conditions, laid).
  DERIVED. THE GIVEN ROWS OF THIS SEAT. 5 by the template 'for every input the law returns true; each argument reads behind the call as it read before'; 0 by the template 'total and deterministic' (their statements: YtlplmiaebcgnmabTotals.lean).
  GIVEN WITH THE SEED: the statements are not yours to turn. If you find one false, say at which input.
  Laid BY PROGRAM, IN A SANDBOX (cutbox-rows.mjs): the forced cells as the released guide's own fill.sh prints them over the translation 70b25ac54d728c3a… (all of the seat's roots in one cut). By AI agents, Wed Nov 11 2026. No macro, syntax, notation, axiom, sorry.
-/
import Derived.Test.YtlplmiaebcgnmabChecked
import GoSem.Claim
import GoSem.ClaimJoined
import GoSem.ClaimMapViews
import Derived.JoinedTies
import Derived.KernelRfl
namespace Go.Proofs.Ytlplmiaebcgnmab
/- THE CELL 'sum', in the pinned program and in every row, IS THE sha256 OF THE DUMP (.gsa) THAT YtlplmiaebcgnmabProg.lean LOADS. Nothing in Lean hashes anything: it is a label: what it is worth is what the hold of that sum in a sandbox is worth. -/
noncomputable def Try.pinned : Pinned := { name := "ytlplmiaebcgnmab", sum := "70b25ac54d728c3a885716d15a3aef6614368061f729d402d7ea13e5f967feb9", checked := Try.checked }
namespace Rows
def none {H : Type} : Left H := { results := [], args := [] }

/-- 'woolkeep.PrimeMany': WHATEVER THE INPUT: true; the input reads as it did. -/
def primeManySpec : ChangeSpec := { name := "primeMany", fn := fun _ => fun
  | [d] => { results := [.lit (.bool true)], args := [d] }
  | _ => none }
def primeManyRow : OpenClaim := { program := "ytlplmiaebcgnmab", sum := "70b25ac54d728c3a885716d15a3aef6614368061f729d402d7ea13e5f967feb9", func := "woolsack/woolkeep.PrimeMany", spec := "primeMany", recurses := true, apart := false }
def PrimeManySaid : Prop := primeManyRow.holds Try.pinned (OpenSpec.ofChange primeManySpec)

/-- ITS FALSE NEIGHBOUR: 'it returns false'. Refute it at one input. -/
def primeManyWrong : ChangeSpec := { name := "primeMany", fn := fun _ => fun
  | [d] => { results := [.lit (.bool false)], args := [d] }
  | _ => none }
def PrimeManyWrongFalsely : Prop := primeManyRow.holds Try.pinned (OpenSpec.ofChange primeManyWrong)

/-- 'woolkeep.PrimeNext': WHATEVER THE INPUT: true; the input reads as it did. -/
def primeNextSpec : ChangeSpec := { name := "primeNext", fn := fun _ => fun
  | [d1, d2] => { results := [.lit (.bool true)], args := [d1, d2] }
  | _ => none }
def primeNextRow : OpenClaim := { program := "ytlplmiaebcgnmab", sum := "70b25ac54d728c3a885716d15a3aef6614368061f729d402d7ea13e5f967feb9", func := "woolsack/woolkeep.PrimeNext", spec := "primeNext", apart := false }
def PrimeNextSaid : Prop := primeNextRow.holds Try.pinned (OpenSpec.ofChange primeNextSpec)

/-- ITS FALSE NEIGHBOUR: 'it returns false'. Refute it at one input. -/
def primeNextWrong : ChangeSpec := { name := "primeNext", fn := fun _ => fun
  | [d1, d2] => { results := [.lit (.bool false)], args := [d1, d2] }
  | _ => none }
def PrimeNextWrongFalsely : Prop := primeNextRow.holds Try.pinned (OpenSpec.ofChange primeNextWrong)

/-- 'woolkeep.PolyTurned': WHATEVER THE INPUT: true; the input reads as it did. -/
def polyTurnedSpec : ChangeSpec := { name := "polyTurned", fn := fun _ => fun
  | [d1, d2] => { results := [.lit (.bool true)], args := [d1, d2] }
  | _ => none }
def polyTurnedRow : OpenClaim := { program := "ytlplmiaebcgnmab", sum := "70b25ac54d728c3a885716d15a3aef6614368061f729d402d7ea13e5f967feb9", func := "woolsack/woolkeep.PolyTurned", spec := "polyTurned", apart := false }
def PolyTurnedSaid : Prop := polyTurnedRow.holds Try.pinned (OpenSpec.ofChange polyTurnedSpec)

/-- ITS FALSE NEIGHBOUR: 'it returns false'. Refute it at one input. -/
def polyTurnedWrong : ChangeSpec := { name := "polyTurned", fn := fun _ => fun
  | [d1, d2] => { results := [.lit (.bool false)], args := [d1, d2] }
  | _ => none }
def PolyTurnedWrongFalsely : Prop := polyTurnedRow.holds Try.pinned (OpenSpec.ofChange polyTurnedWrong)

/-- 'woolkeep.PrimeProduct': WHATEVER THE INPUT: true; the input reads as it did. -/
def primeProductSpec : ChangeSpec := { name := "primeProduct", fn := fun _ => fun
  | [d1, d2] => { results := [.lit (.bool true)], args := [d1, d2] }
  | _ => none }
def primeProductRow : OpenClaim := { program := "ytlplmiaebcgnmab", sum := "70b25ac54d728c3a885716d15a3aef6614368061f729d402d7ea13e5f967feb9", func := "woolsack/woolkeep.PrimeProduct", spec := "primeProduct", apart := false }
def PrimeProductSaid : Prop := primeProductRow.holds Try.pinned (OpenSpec.ofChange primeProductSpec)

/-- ITS FALSE NEIGHBOUR: 'it returns false'. Refute it at one input. -/
def primeProductWrong : ChangeSpec := { name := "primeProduct", fn := fun _ => fun
  | [d1, d2] => { results := [.lit (.bool false)], args := [d1, d2] }
  | _ => none }
def PrimeProductWrongFalsely : Prop := primeProductRow.holds Try.pinned (OpenSpec.ofChange primeProductWrong)

/-- 'woolkeep.PrimeRoots': WHATEVER THE INPUT: true; the input reads as it did. -/
def primeRootsSpec : ChangeSpec := { name := "primeRoots", fn := fun _ => fun
  | [d1, d2, d3] => { results := [.lit (.bool true)], args := [d1, d2, d3] }
  | _ => none }
def primeRootsRow : OpenClaim := { program := "ytlplmiaebcgnmab", sum := "70b25ac54d728c3a885716d15a3aef6614368061f729d402d7ea13e5f967feb9", func := "woolsack/woolkeep.PrimeRoots", spec := "primeRoots", apart := false }
def PrimeRootsSaid : Prop := primeRootsRow.holds Try.pinned (OpenSpec.ofChange primeRootsSpec)

/-- ITS FALSE NEIGHBOUR: 'it returns false'. Refute it at one input. -/
def primeRootsWrong : ChangeSpec := { name := "primeRoots", fn := fun _ => fun
  | [d1, d2, d3] => { results := [.lit (.bool false)], args := [d1, d2, d3] }
  | _ => none }
def PrimeRootsWrongFalsely : Prop := primeRootsRow.holds Try.pinned (OpenSpec.ofChange primeRootsWrong)

/- THE SECOND FORM. 'bulk': how many values and letters a reading holds, each counted each time it is reached (what is shared counts as often as it is met; a slice's spare places count too). A statement '..UptoSaid' is the law's where the arguments, and the package variables that the reading takes, are together of bulk at most 1048576: NARROWER than '..Said'. Prove '..Said' where nothing that the law and all that it calls make is longer than what came in: it says more and counts as full. Else prove '..UptoSaid'. A law counts once. -/
mutual
def uptoBulk {H : Type} : DataW H → Nat
  | .lit (.string bytes) => bytes.length + 1
  | .lit _ => 1
  | .nil => 1
  | .ptr d => uptoBulk d + 1
  | .slice elems spare => uptoBulkAll elems + uptoBulkAll spare + 1
  | .agg parts => uptoBulkAll parts + 1
  | .iface _ d => uptoBulk d + 1
  | .map entries => uptoBulkEntries entries + 1
  | .held _ => 1
def uptoBulkAll {H : Type} : List (DataW H) → Nat
  | [] => 0
  | d :: r => uptoBulk d + uptoBulkAll r
def uptoBulkEntries {H : Type} : List (Lit × DataW H) → Nat
  | [] => 0
  | x :: r => uptoBulkEntry x + uptoBulkEntries r
def uptoBulkEntry {H : Type} : Lit × DataW H → Nat
  | (.string bytes, d) => bytes.length + uptoBulk d + 1
  | (_, d) => uptoBulk d + 1
 end
def uptoSmall : (H : Type) → List (DataW H) → Bool := fun _ ds => decide (uptoBulkAll ds ≤ 1048576)
def OpenSpec.upto (s : _root_.Go.ChangeSpec) : _root_.Go.OpenSpec := { _root_.Go.OpenSpec.ofChange s with cond := some uptoSmall }

/-- 'woolkeep.PrimeMany', WHERE WHAT IT READS IS OF BULK AT MOST 1048576: true; the input reads as it did. -/
def primeManyUptoRow : OpenClaim := { program := "ytlplmiaebcgnmab", sum := "70b25ac54d728c3a885716d15a3aef6614368061f729d402d7ea13e5f967feb9", func := "woolsack/woolkeep.PrimeMany", spec := "primeMany", recurses := true, apart := false, narrowed := true }
def PrimeManyUptoSaid : Prop := primeManyUptoRow.holds Try.pinned (OpenSpec.upto primeManySpec)

/-- 'woolkeep.PrimeNext', WHERE WHAT IT READS IS OF BULK AT MOST 1048576: true; the input reads as it did. -/
def primeNextUptoRow : OpenClaim := { program := "ytlplmiaebcgnmab", sum := "70b25ac54d728c3a885716d15a3aef6614368061f729d402d7ea13e5f967feb9", func := "woolsack/woolkeep.PrimeNext", spec := "primeNext", apart := false, narrowed := true }
def PrimeNextUptoSaid : Prop := primeNextUptoRow.holds Try.pinned (OpenSpec.upto primeNextSpec)

/-- 'woolkeep.PolyTurned', WHERE WHAT IT READS IS OF BULK AT MOST 1048576: true; the input reads as it did. -/
def polyTurnedUptoRow : OpenClaim := { program := "ytlplmiaebcgnmab", sum := "70b25ac54d728c3a885716d15a3aef6614368061f729d402d7ea13e5f967feb9", func := "woolsack/woolkeep.PolyTurned", spec := "polyTurned", apart := false, narrowed := true }
def PolyTurnedUptoSaid : Prop := polyTurnedUptoRow.holds Try.pinned (OpenSpec.upto polyTurnedSpec)

/-- 'woolkeep.PrimeProduct', WHERE WHAT IT READS IS OF BULK AT MOST 1048576: true; the input reads as it did. -/
def primeProductUptoRow : OpenClaim := { program := "ytlplmiaebcgnmab", sum := "70b25ac54d728c3a885716d15a3aef6614368061f729d402d7ea13e5f967feb9", func := "woolsack/woolkeep.PrimeProduct", spec := "primeProduct", apart := false, narrowed := true }
def PrimeProductUptoSaid : Prop := primeProductUptoRow.holds Try.pinned (OpenSpec.upto primeProductSpec)

/-- 'woolkeep.PrimeRoots', WHERE WHAT IT READS IS OF BULK AT MOST 1048576: true; the input reads as it did. -/
def primeRootsUptoRow : OpenClaim := { program := "ytlplmiaebcgnmab", sum := "70b25ac54d728c3a885716d15a3aef6614368061f729d402d7ea13e5f967feb9", func := "woolsack/woolkeep.PrimeRoots", spec := "primeRoots", apart := false, narrowed := true }
def PrimeRootsUptoSaid : Prop := primeRootsUptoRow.holds Try.pinned (OpenSpec.upto primeRootsSpec)

end Rows
end Go.Proofs.Ytlplmiaebcgnmab
