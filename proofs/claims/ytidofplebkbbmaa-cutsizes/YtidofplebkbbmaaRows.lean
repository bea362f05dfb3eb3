/-
  No cell of these rows narrows 'for every input' (looked for: loops, veiled, ifaces, maps, wideKeys, modest, calm, conditions, laid).
  DERIVED. THE GIVEN ROWS OF THIS SEAT. 17 by the template 'for every input the law returns true; each argument reads behind the call as it read before'; 0 by the template 'total and deterministic' (their statements: YtidofplebkbbmaaTotals.lean).
  GIVEN WITH THE SEED: the statements are not yours to turn. If you find one false, say at which input.
  Laid BY PROGRAM, IN A SANDBOX (cutbox-rows.mjs): the forced cells as the released guide's own fill.sh prints them over the translation 222e27b209d08709… (all of the seat's roots in one cut). By AI agents, Wed Nov 11 2026. No macro, syntax, notation, axiom, sorry.
-/
import Derived.Test.YtidofplebkbbmaaChecked
import GoSem.Claim
import GoSem.ClaimJoined
import GoSem.ClaimMapViews
import Derived.JoinedTies
import Derived.KernelRfl
namespace Go.Proofs.Ytidofplebkbbmaa
/- THE CELL 'sum', in the pinned program and in every row, IS THE sha256 OF THE DUMP (.gsa) THAT YtidofplebkbbmaaProg.lean LOADS. Nothing in Lean hashes anything: it is a label: what it is worth is what the hold of that sum in a sandbox is worth. -/
noncomputable def Try.pinned : Pinned := { name := "ytidofplebkbbmaa", sum := "222e27b209d08709c29dc12d44cb0ae811a271828ee1dc526ca674f2a644df22", checked := Try.checked }
namespace Rows
def none {H : Type} : Left H := { results := [], args := [] }

/-- 'woollaw.PrintSays': WHATEVER THE INPUT: true; the input reads as it did. -/
def printSaysSpec : ChangeSpec := { name := "printSays", fn := fun _ => fun
  | [d1, d2] => { results := [.lit (.bool true)], args := [d1, d2] }
  | _ => none }
def printSaysRow : OpenClaim := { program := "ytidofplebkbbmaa", sum := "222e27b209d08709c29dc12d44cb0ae811a271828ee1dc526ca674f2a644df22", func := "woolsack/woollaw.PrintSays", spec := "printSays", unfollowed := true, recurses := true, apart := false }
def PrintSaysSaid : Prop := printSaysRow.holds Try.pinned (OpenSpec.ofChange printSaysSpec)

/-- ITS FALSE NEIGHBOUR: 'it returns false'. Refute it at one input. -/
def printSaysWrong : ChangeSpec := { name := "printSays", fn := fun _ => fun
  | [d1, d2] => { results := [.lit (.bool false)], args := [d1, d2] }
  | _ => none }
def PrintSaysWrongFalsely : Prop := printSaysRow.holds Try.pinned (OpenSpec.ofChange printSaysWrong)

/-- 'woollaw.PrintMoves': WHATEVER THE INPUT: true; the input reads as it did. -/
def printMovesSpec : ChangeSpec := { name := "printMoves", fn := fun _ => fun
  | [d1, d2, d3, d4, d5, d6] => { results := [.lit (.bool true)], args := [d1, d2, d3, d4, d5, d6] }
  | _ => none }
def printMovesRow : OpenClaim := { program := "ytidofplebkbbmaa", sum := "222e27b209d08709c29dc12d44cb0ae811a271828ee1dc526ca674f2a644df22", func := "woolsack/woollaw.PrintMoves", spec := "printMoves", recurses := true, apart := false }
def PrintMovesSaid : Prop := printMovesRow.holds Try.pinned (OpenSpec.ofChange printMovesSpec)

/-- ITS FALSE NEIGHBOUR: 'it returns false'. Refute it at one input. -/
def printMovesWrong : ChangeSpec := { name := "printMoves", fn := fun _ => fun
  | [d1, d2, d3, d4, d5, d6] => { results := [.lit (.bool false)], args := [d1, d2, d3, d4, d5, d6] }
  | _ => none }
def PrintMovesWrongFalsely : Prop := printMovesRow.holds Try.pinned (OpenSpec.ofChange printMovesWrong)

/-- 'woollaw.CutSays': WHATEVER THE INPUT: true; the input reads as it did. -/
def cutSaysSpec : ChangeSpec := { name := "cutSays", fn := fun _ => fun
  | [d1, d2, d3, d4] => { results := [.lit (.bool true)], args := [d1, d2, d3, d4] }
  | _ => none }
def cutSaysRow : OpenClaim := { program := "ytidofplebkbbmaa", sum := "222e27b209d08709c29dc12d44cb0ae811a271828ee1dc526ca674f2a644df22", func := "woolsack/woollaw.CutSays", spec := "cutSays", unfollowed := true, recurses := true, apart := false }
def CutSaysSaid : Prop := cutSaysRow.holds Try.pinned (OpenSpec.ofChange cutSaysSpec)

/-- ITS FALSE NEIGHBOUR: 'it returns false'. Refute it at one input. -/
def cutSaysWrong : ChangeSpec := { name := "cutSays", fn := fun _ => fun
  | [d1, d2, d3, d4] => { results := [.lit (.bool false)], args := [d1, d2, d3, d4] }
  | _ => none }
def CutSaysWrongFalsely : Prop := cutSaysRow.holds Try.pinned (OpenSpec.ofChange cutSaysWrong)

/-- 'woollaw.CutSplits': WHATEVER THE INPUT: true; the input reads as it did. -/
def cutSplitsSpec : ChangeSpec := { name := "cutSplits", fn := fun _ => fun
  | [d1, d2] => { results := [.lit (.bool true)], args := [d1, d2] }
  | _ => none }
def cutSplitsRow : OpenClaim := { program := "ytidofplebkbbmaa", sum := "222e27b209d08709c29dc12d44cb0ae811a271828ee1dc526ca674f2a644df22", func := "woolsack/woollaw.CutSplits", spec := "cutSplits", apart := false }
def CutSplitsSaid : Prop := cutSplitsRow.holds Try.pinned (OpenSpec.ofChange cutSplitsSpec)

/-- ITS FALSE NEIGHBOUR: 'it returns false'. Refute it at one input. -/
def cutSplitsWrong : ChangeSpec := { name := "cutSplits", fn := fun _ => fun
  | [d1, d2] => { results := [.lit (.bool false)], args := [d1, d2] }
  | _ => none }
def CutSplitsWrongFalsely : Prop := cutSplitsRow.holds Try.pinned (OpenSpec.ofChange cutSplitsWrong)

/-- 'woolkeep.PrintJoins': WHATEVER THE INPUT: true; the input reads as it did. -/
def printJoinsSpec : ChangeSpec := { name := "printJoins", fn := fun _ => fun
  | [d1, d2, d3] => { results := [.lit (.bool true)], args := [d1, d2, d3] }
  | _ => none }
def printJoinsRow : OpenClaim := { program := "ytidofplebkbbmaa", sum := "222e27b209d08709c29dc12d44cb0ae811a271828ee1dc526ca674f2a644df22", func := "woolsack/woolkeep.PrintJoins", spec := "printJoins", apart := false }
def PrintJoinsSaid : Prop := printJoinsRow.holds Try.pinned (OpenSpec.ofChange printJoinsSpec)

/-- ITS FALSE NEIGHBOUR: 'it returns false'. Refute it at one input. -/
def printJoinsWrong : ChangeSpec := { name := "printJoins", fn := fun _ => fun
  | [d1, d2, d3] => { results := [.lit (.bool false)], args := [d1, d2, d3] }
  | _ => none }
def PrintJoinsWrongFalsely : Prop := printJoinsRow.holds Try.pinned (OpenSpec.ofChange printJoinsWrong)

/-- 'woolkeep.PrintRolls': WHATEVER THE INPUT: true; the input reads as it did. -/
def printRollsSpec : ChangeSpec := { name := "printRolls", fn := fun _ => fun
  | [d1, d2, d3] => { results := [.lit (.bool true)], args := [d1, d2, d3] }
  | _ => none }
def printRollsRow : OpenClaim := { program := "ytidofplebkbbmaa", sum := "222e27b209d08709c29dc12d44cb0ae811a271828ee1dc526ca674f2a644df22", func := "woolsack/woolkeep.PrintRolls", spec := "printRolls", apart := false }
def PrintRollsSaid : Prop := printRollsRow.holds Try.pinned (OpenSpec.ofChange printRollsSpec)

/-- ITS FALSE NEIGHBOUR: 'it returns false'. Refute it at one input. -/
def printRollsWrong : ChangeSpec := { name := "printRolls", fn := fun _ => fun
  | [d1, d2, d3] => { results := [.lit (.bool false)], args := [d1, d2, d3] }
  | _ => none }
def PrintRollsWrongFalsely : Prop := printRollsRow.holds Try.pinned (OpenSpec.ofChange printRollsWrong)

/-- 'woolkeep.PrintLinear': WHATEVER THE INPUT: true; the input reads as it did. -/
def printLinearSpec : ChangeSpec := { name := "printLinear", fn := fun _ => fun
  | [d1, d2, d3, d4] => { results := [.lit (.bool true)], args := [d1, d2, d3, d4] }
  | _ => none }
def printLinearRow : OpenClaim := { program := "ytidofplebkbbmaa", sum := "222e27b209d08709c29dc12d44cb0ae811a271828ee1dc526ca674f2a644df22", func := "woolsack/woolkeep.PrintLinear", spec := "printLinear", apart := false }
def PrintLinearSaid : Prop := printLinearRow.holds Try.pinned (OpenSpec.ofChange printLinearSpec)

/-- ITS FALSE NEIGHBOUR: 'it returns false'. Refute it at one input. -/
def printLinearWrong : ChangeSpec := { name := "printLinear", fn := fun _ => fun
  | [d1, d2, d3, d4] => { results := [.lit (.bool false)], args := [d1, d2, d3, d4] }
  | _ => none }
def PrintLinearWrongFalsely : Prop := printLinearRow.holds Try.pinned (OpenSpec.ofChange printLinearWrong)

/-- 'woolkeep.PrintBursts': WHATEVER THE INPUT: true; the input reads as it did. -/
def printBurstsSpec : ChangeSpec := { name := "printBursts", fn := fun _ => fun
  | [d1, d2, d3, d4] => { results := [.lit (.bool true)], args := [d1, d2, d3, d4] }
  | _ => none }
def printBurstsRow : OpenClaim := { program := "ytidofplebkbbmaa", sum := "222e27b209d08709c29dc12d44cb0ae811a271828ee1dc526ca674f2a644df22", func := "woolsack/woolkeep.PrintBursts", spec := "printBursts", apart := false }
def PrintBurstsSaid : Prop := printBurstsRow.holds Try.pinned (OpenSpec.ofChange printBurstsSpec)

/-- ITS FALSE NEIGHBOUR: 'it returns false'. Refute it at one input. -/
def printBurstsWrong : ChangeSpec := { name := "printBursts", fn := fun _ => fun
  | [d1, d2, d3, d4] => { results := [.lit (.bool false)], args := [d1, d2, d3, d4] }
  | _ => none }
def PrintBurstsWrongFalsely : Prop := printBurstsRow.holds Try.pinned (OpenSpec.ofChange printBurstsWrong)

/-- 'woolkeep.PrintParts': WHATEVER THE INPUT: true; the input reads as it did. -/
def printPartsSpec : ChangeSpec := { name := "printParts", fn := fun _ => fun
  | [d1, d2, d3] => { results := [.lit (.bool true)], args := [d1, d2, d3] }
  | _ => none }
def printPartsRow : OpenClaim := { program := "ytidofplebkbbmaa", sum := "222e27b209d08709c29dc12d44cb0ae811a271828ee1dc526ca674f2a644df22", func := "woolsack/woolkeep.PrintParts", spec := "printParts", apart := false }
def PrintPartsSaid : Prop := printPartsRow.holds Try.pinned (OpenSpec.ofChange printPartsSpec)

/-- ITS FALSE NEIGHBOUR: 'it returns false'. Refute it at one input. -/
def printPartsWrong : ChangeSpec := { name := "printParts", fn := fun _ => fun
  | [d1, d2, d3] => { results := [.lit (.bool false)], args := [d1, d2, d3] }
  | _ => none }
def PrintPartsWrongFalsely : Prop := printPartsRow.holds Try.pinned (OpenSpec.ofChange printPartsWrong)

/-- 'woolkeep.CutSizes': WHATEVER THE INPUT: true; the input reads as it did. -/
def cutSizesSpec : ChangeSpec := { name := "cutSizes", fn := fun _ => fun
  | [d1, d2, d3, d4] => { results := [.lit (.bool true)], args := [d1, d2, d3, d4] }
  | _ => none }
def cutSizesRow : OpenClaim := { program := "ytidofplebkbbmaa", sum := "222e27b209d08709c29dc12d44cb0ae811a271828ee1dc526ca674f2a644df22", func := "woolsack/woolkeep.CutSizes", spec := "cutSizes", inPlace := ["internal/abi.NoEscape", "internal/bytealg.MakeNoZero"], apart := false }
def CutSizesSaid : Prop := cutSizesRow.holds Try.pinned (OpenSpec.ofChange cutSizesSpec)

/-- ITS FALSE NEIGHBOUR: 'it returns false'. Refute it at one input. -/
def cutSizesWrong : ChangeSpec := { name := "cutSizes", fn := fun _ => fun
  | [d1, d2, d3, d4] => { results := [.lit (.bool false)], args := [d1, d2, d3, d4] }
  | _ => none }
def CutSizesWrongFalsely : Prop := cutSizesRow.holds Try.pinned (OpenSpec.ofChange cutSizesWrong)

/-- 'woolkeep.CutLocal': WHATEVER THE INPUT: true; the input reads as it did. -/
def cutLocalSpec : ChangeSpec := { name := "cutLocal", fn := fun _ => fun
  | [d1, d2, d3, d4, d5] => { results := [.lit (.bool true)], args := [d1, d2, d3, d4, d5] }
  | _ => none }
def cutLocalRow : OpenClaim := { program := "ytidofplebkbbmaa", sum := "222e27b209d08709c29dc12d44cb0ae811a271828ee1dc526ca674f2a644df22", func := "woolsack/woolkeep.CutLocal", spec := "cutLocal", apart := false }
def CutLocalSaid : Prop := cutLocalRow.holds Try.pinned (OpenSpec.ofChange cutLocalSpec)

/-- ITS FALSE NEIGHBOUR: 'it returns false'. Refute it at one input. -/
def cutLocalWrong : ChangeSpec := { name := "cutLocal", fn := fun _ => fun
  | [d1, d2, d3, d4, d5] => { results := [.lit (.bool false)], args := [d1, d2, d3, d4, d5] }
  | _ => none }
def CutLocalWrongFalsely : Prop := cutLocalRow.holds Try.pinned (OpenSpec.ofChange cutLocalWrong)

/-- 'woolkeep.CutAhead': WHATEVER THE INPUT: true; the input reads as it did. -/
def cutAheadSpec : ChangeSpec := { name := "cutAhead", fn := fun _ => fun
  | [d1, d2, d3, d4, d5] => { results := [.lit (.bool true)], args := [d1, d2, d3, d4, d5] }
  | _ => none }
def cutAheadRow : OpenClaim := { program := "ytidofplebkbbmaa", sum := "222e27b209d08709c29dc12d44cb0ae811a271828ee1dc526ca674f2a644df22", func := "woolsack/woolkeep.CutAhead", spec := "cutAhead", apart := false }
def CutAheadSaid : Prop := cutAheadRow.holds Try.pinned (OpenSpec.ofChange cutAheadSpec)

/-- ITS FALSE NEIGHBOUR: 'it returns false'. Refute it at one input. -/
def cutAheadWrong : ChangeSpec := { name := "cutAhead", fn := fun _ => fun
  | [d1, d2, d3, d4, d5] => { results := [.lit (.bool false)], args := [d1, d2, d3, d4, d5] }
  | _ => none }
def CutAheadWrongFalsely : Prop := cutAheadRow.holds Try.pinned (OpenSpec.ofChange cutAheadWrong)

/-- 'woolkeep.CutAgain': WHATEVER THE INPUT: true; the input reads as it did. -/
def cutAgainSpec : ChangeSpec := { name := "cutAgain", fn := fun _ => fun
  | [d1, d2, d3, d4, d5, d6] => { results := [.lit (.bool true)], args := [d1, d2, d3, d4, d5, d6] }
  | _ => none }
def cutAgainRow : OpenClaim := { program := "ytidofplebkbbmaa", sum := "222e27b209d08709c29dc12d44cb0ae811a271828ee1dc526ca674f2a644df22", func := "woolsack/woolkeep.CutAgain", spec := "cutAgain", apart := false }
def CutAgainSaid : Prop := cutAgainRow.holds Try.pinned (OpenSpec.ofChange cutAgainSpec)

/-- ITS FALSE NEIGHBOUR: 'it returns false'. Refute it at one input. -/
def cutAgainWrong : ChangeSpec := { name := "cutAgain", fn := fun _ => fun
  | [d1, d2, d3, d4, d5, d6] => { results := [.lit (.bool false)], args := [d1, d2, d3, d4, d5, d6] }
  | _ => none }
def CutAgainWrongFalsely : Prop := cutAgainRow.holds Try.pinned (OpenSpec.ofChange cutAgainWrong)

/-- 'woolkeep.PrintByte': WHATEVER THE INPUT: true; the input reads as it did. -/
def printByteSpec : ChangeSpec := { name := "printByte", fn := fun _ => fun
  | [d1, d2, d3] => { results := [.lit (.bool true)], args := [d1, d2, d3] }
  | _ => none }
def printByteRow : OpenClaim := { program := "ytidofplebkbbmaa", sum := "222e27b209d08709c29dc12d44cb0ae811a271828ee1dc526ca674f2a644df22", func := "woolsack/woolkeep.PrintByte", spec := "printByte", apart := false }
def PrintByteSaid : Prop := printByteRow.holds Try.pinned (OpenSpec.ofChange printByteSpec)

/-- ITS FALSE NEIGHBOUR: 'it returns false'. Refute it at one input. -/
def printByteWrong : ChangeSpec := { name := "printByte", fn := fun _ => fun
  | [d1, d2, d3] => { results := [.lit (.bool false)], args := [d1, d2, d3] }
  | _ => none }
def PrintByteWrongFalsely : Prop := printByteRow.holds Try.pinned (OpenSpec.ofChange printByteWrong)

/-- 'woolkeep.CutEven': WHATEVER THE INPUT: true; the input reads as it did. -/
def cutEvenSpec : ChangeSpec := { name := "cutEven", fn := fun _ => fun
  | [d1, d2, d3] => { results := [.lit (.bool true)], args := [d1, d2, d3] }
  | _ => none }
def cutEvenRow : OpenClaim := { program := "ytidofplebkbbmaa", sum := "222e27b209d08709c29dc12d44cb0ae811a271828ee1dc526ca674f2a644df22", func := "woolsack/woolkeep.CutEven", spec := "cutEven", apart := false }
def CutEvenSaid : Prop := cutEvenRow.holds Try.pinned (OpenSpec.ofChange cutEvenSpec)

/-- ITS FALSE NEIGHBOUR: 'it returns false'. Refute it at one input. -/
def cutEvenWrong : ChangeSpec := { name := "cutEven", fn := fun _ => fun
  | [d1, d2, d3] => { results := [.lit (.bool false)], args := [d1, d2, d3] }
  | _ => none }
def CutEvenWrongFalsely : Prop := cutEvenRow.holds Try.pinned (OpenSpec.ofChange cutEvenWrong)

/-- 'woolkeep.CutMore': WHATEVER THE INPUT: true; the input reads as it did. -/
def cutMoreSpec : ChangeSpec := { name := "cutMore", fn := fun _ => fun
  | [d1, d2, d3, d4, d5] => { results := [.lit (.bool true)], args := [d1, d2, d3, d4, d5] }
  | _ => none }
def cutMoreRow : OpenClaim := { program := "ytidofplebkbbmaa", sum := "222e27b209d08709c29dc12d44cb0ae811a271828ee1dc526ca674f2a644df22", func := "woolsack/woolkeep.CutMore", spec := "cutMore", apart := false }
def CutMoreSaid : Prop := cutMoreRow.holds Try.pinned (OpenSpec.ofChange cutMoreSpec)

/-- ITS FALSE NEIGHBOUR: 'it returns false'. Refute it at one input. -/
def cutMoreWrong : ChangeSpec := { name := "cutMore", fn := fun _ => fun
  | [d1, d2, d3, d4, d5] => { results := [.lit (.bool false)], args := [d1, d2, d3, d4, d5] }
  | _ => none }
def CutMoreWrongFalsely : Prop := cutMoreRow.holds Try.pinned (OpenSpec.ofChange cutMoreWrong)

/-- 'wooltop.TopRabin': WHATEVER THE INPUT: true; the input reads as it did. -/
def topRabinSpec : ChangeSpec := { name := "topRabin", fn := fun _ => fun
  | [d1, d2, d3, d4] => { results := [.lit (.bool true)], args := [d1, d2, d3, d4] }
  | _ => none }
def topRabinRow : OpenClaim := { program := "ytidofplebkbbmaa", sum := "222e27b209d08709c29dc12d44cb0ae811a271828ee1dc526ca674f2a644df22", func := "woolsack/wooltop.TopRabin", spec := "topRabin", apart := false }
def TopRabinSaid : Prop := topRabinRow.holds Try.pinned (OpenSpec.ofChange topRabinSpec)

/-- ITS FALSE NEIGHBOUR: 'it returns false'. Refute it at one input. -/
def topRabinWrong : ChangeSpec := { name := "topRabin", fn := fun _ => fun
  | [d1, d2, d3, d4] => { results := [.lit (.bool false)], args := [d1, d2, d3, d4] }
  | _ => none }
def TopRabinWrongFalsely : Prop := topRabinRow.holds Try.pinned (OpenSpec.ofChange topRabinWrong)

/- THE SECOND FORM. 'bulk': how many values and letters a reading holds, each counted each time it is reached (what is shared counts as often as it is met; a slice's spare places count too). A statement '..UptoSaid' is the law's where the arguments, and the package variables that the reading takes, are together of bulk at most 1048576: NARROWER than '..Said'. Prove '..Said' where nothing that the law and all that it calls make is longer than what came in: it says more and counts as full. Else prove '..UptoSaid'. A law counts once. -/
mutual
def uptoBulk {H : Type} : DataW H → Nat
  | .lit (.string bytes) => bytes.length + 1
  | .lit _ => 1
  | .nil => 1
  | .ptr d => uptoBulk d + 1
  | .slice elems spare => uptoBulkAll elems + uptoBulkAll spare + 1
  | .agg parts => uptoBulkAll parts + 1
  | .iface _ d => uptoBulk d + 1
  | .map entries => uptoBulkEntries entries + 1
  | .held _ => 1
def uptoBulkAll {H : Type} : List (DataW H) → Nat
  | [] => 0
  | d :: r => uptoBulk d + uptoBulkAll r
def uptoBulkEntries {H : Type} : List (Lit × DataW H) → Nat
  | [] => 0
  | x :: r => uptoBulkEntry x + uptoBulkEntries r
def uptoBulkEntry {H : Type} : Lit × DataW H → Nat
  | (.string bytes, d) => bytes.length + uptoBulk d + 1
  | (_, d) => uptoBulk d + 1
 end
def uptoSmall : (H : Type) → List (DataW H) → Bool := fun _ ds => decide (uptoBulkAll ds ≤ 1048576)
def OpenSpec.upto (s : _root_.Go.ChangeSpec) : _root_.Go.OpenSpec := { _root_.Go.OpenSpec.ofChange s with cond := some uptoSmall }

/-- 'woollaw.PrintSays', WHERE WHAT IT READS IS OF BULK AT MOST 1048576: true; the input reads as it did. -/
def printSaysUptoRow : OpenClaim := { program := "ytidofplebkbbmaa", sum := "222e27b209d08709c29dc12d44cb0ae811a271828ee1dc526ca674f2a644df22", func := "woolsack/woollaw.PrintSays", spec := "printSays", unfollowed := true, recurses := true, apart := false, narrowed := true }
def PrintSaysUptoSaid : Prop := printSaysUptoRow.holds Try.pinned (OpenSpec.upto printSaysSpec)

/-- 'woollaw.PrintMoves', WHERE WHAT IT READS IS OF BULK AT MOST 1048576: true; the input reads as it did. -/
def printMovesUptoRow : OpenClaim := { program := "ytidofplebkbbmaa", sum := "222e27b209d08709c29dc12d44cb0ae811a271828ee1dc526ca674f2a644df22", func := "woolsack/woollaw.PrintMoves", spec := "printMoves", recurses := true, apart := false, narrowed := true }
def PrintMovesUptoSaid : Prop := printMovesUptoRow.holds Try.pinned (OpenSpec.upto printMovesSpec)

/-- 'woollaw.CutSays', WHERE WHAT IT READS IS OF BULK AT MOST 1048576: true; the input reads as it did. -/
def cutSaysUptoRow : OpenClaim := { program := "ytidofplebkbbmaa", sum := "222e27b209d08709c29dc12d44cb0ae811a271828ee1dc526ca674f2a644df22", func := "woolsack/woollaw.CutSays", spec := "cutSays", unfollowed := true, recurses := true, apart := false, narrowed := true }
def CutSaysUptoSaid : Prop := cutSaysUptoRow.holds Try.pinned (OpenSpec.upto cutSaysSpec)

/-- 'woollaw.CutSplits', WHERE WHAT IT READS IS OF BULK AT MOST 1048576: true; the input reads as it did. -/
def cutSplitsUptoRow : OpenClaim := { program := "ytidofplebkbbmaa", sum := "222e27b209d08709c29dc12d44cb0ae811a271828ee1dc526ca674f2a644df22", func := "woolsack/woollaw.CutSplits", spec := "cutSplits", apart := false, narrowed := true }
def CutSplitsUptoSaid : Prop := cutSplitsUptoRow.holds Try.pinned (OpenSpec.upto cutSplitsSpec)

/-- 'woolkeep.PrintJoins', WHERE WHAT IT READS IS OF BULK AT MOST 1048576: true; the input reads as it did. -/
def printJoinsUptoRow : OpenClaim := { program := "ytidofplebkbbmaa", sum := "222e27b209d08709c29dc12d44cb0ae811a271828ee1dc526ca674f2a644df22", func := "woolsack/woolkeep.PrintJoins", spec := "printJoins", apart := false, narrowed := true }
def PrintJoinsUptoSaid : Prop := printJoinsUptoRow.holds Try.pinned (OpenSpec.upto printJoinsSpec)

/-- 'woolkeep.PrintRolls', WHERE WHAT IT READS IS OF BULK AT MOST 1048576: true; the input reads as it did. -/
def printRollsUptoRow : OpenClaim := { program := "ytidofplebkbbmaa", sum := "222e27b209d08709c29dc12d44cb0ae811a271828ee1dc526ca674f2a644df22", func := "woolsack/woolkeep.PrintRolls", spec := "printRolls", apart := false, narrowed := true }
def PrintRollsUptoSaid : Prop := printRollsUptoRow.holds Try.pinned (OpenSpec.upto printRollsSpec)

/-- 'woolkeep.PrintLinear', WHERE WHAT IT READS IS OF BULK AT MOST 1048576: true; the input reads as it did. -/
def printLinearUptoRow : OpenClaim := { program := "ytidofplebkbbmaa", sum := "222e27b209d08709c29dc12d44cb0ae811a271828ee1dc526ca674f2a644df22", func := "woolsack/woolkeep.PrintLinear", spec := "printLinear", apart := false, narrowed := true }
def PrintLinearUptoSaid : Prop := printLinearUptoRow.holds Try.pinned (OpenSpec.upto printLinearSpec)

/-- 'woolkeep.PrintBursts', WHERE WHAT IT READS IS OF BULK AT MOST 1048576: true; the input reads as it did. -/
def printBurstsUptoRow : OpenClaim := { program := "ytidofplebkbbmaa", sum := "222e27b209d08709c29dc12d44cb0ae811a271828ee1dc526ca674f2a644df22", func := "woolsack/woolkeep.PrintBursts", spec := "printBursts", apart := false, narrowed := true }
def PrintBurstsUptoSaid : Prop := printBurstsUptoRow.holds Try.pinned (OpenSpec.upto printBurstsSpec)

/-- 'woolkeep.PrintParts', WHERE WHAT IT READS IS OF BULK AT MOST 1048576: true; the input reads as it did. -/
def printPartsUptoRow : OpenClaim := { program := "ytidofplebkbbmaa", sum := "222e27b209d08709c29dc12d44cb0ae811a271828ee1dc526ca674f2a644df22", func := "woolsack/woolkeep.PrintParts", spec := "printParts", apart := false, narrowed := true }
def PrintPartsUptoSaid : Prop := printPartsUptoRow.holds Try.pinned (OpenSpec.upto printPartsSpec)

/-- 'woolkeep.CutSizes', WHERE WHAT IT READS IS OF BULK AT MOST 1048576: true; the input reads as it did. -/
def cutSizesUptoRow : OpenClaim := { program := "ytidofplebkbbmaa", sum := "222e27b209d08709c29dc12d44cb0ae811a271828ee1dc526ca674f2a644df22", func := "woolsack/woolkeep.CutSizes", spec := "cutSizes", inPlace := ["internal/abi.NoEscape", "internal/bytealg.MakeNoZero"], apart := false, narrowed := true }
def CutSizesUptoSaid : Prop := cutSizesUptoRow.holds Try.pinned (OpenSpec.upto cutSizesSpec)

/-- 'woolkeep.CutLocal', WHERE WHAT IT READS IS OF BULK AT MOST 1048576: true; the input reads as it did. -/
def cutLocalUptoRow : OpenClaim := { program := "ytidofplebkbbmaa", sum := "222e27b209d08709c29dc12d44cb0ae811a271828ee1dc526ca674f2a644df22", func := "woolsack/woolkeep.CutLocal", spec := "cutLocal", apart := false, narrowed := true }
def CutLocalUptoSaid : Prop := cutLocalUptoRow.holds Try.pinned (OpenSpec.upto cutLocalSpec)

/-- 'woolkeep.CutAhead', WHERE WHAT IT READS IS OF BULK AT MOST 1048576: true; the input reads as it did. -/
def cutAheadUptoRow : OpenClaim := { program := "ytidofplebkbbmaa", sum := "222e27b209d08709c29dc12d44cb0ae811a271828ee1dc526ca674f2a644df22", func := "woolsack/woolkeep.CutAhead", spec := "cutAhead", apart := false, narrowed := true }
def CutAheadUptoSaid : Prop := cutAheadUptoRow.holds Try.pinned (OpenSpec.upto cutAheadSpec)

/-- 'woolkeep.CutAgain', WHERE WHAT IT READS IS OF BULK AT MOST 1048576: true; the input reads as it did. -/
def cutAgainUptoRow : OpenClaim := { program := "ytidofplebkbbmaa", sum := "222e27b209d08709c29dc12d44cb0ae811a271828ee1dc526ca674f2a644df22", func := "woolsack/woolkeep.CutAgain", spec := "cutAgain", apart := false, narrowed := true }
def CutAgainUptoSaid : Prop := cutAgainUptoRow.holds Try.pinned (OpenSpec.upto cutAgainSpec)

/-- 'woolkeep.PrintByte', WHERE WHAT IT READS IS OF BULK AT MOST 1048576: true; the input reads as it did. -/
def printByteUptoRow : OpenClaim := { program := "ytidofplebkbbmaa", sum := "222e27b209d08709c29dc12d44cb0ae811a271828ee1dc526ca674f2a644df22", func := "woolsack/woolkeep.PrintByte", spec := "printByte", apart := false, narrowed := true }
def PrintByteUptoSaid : Prop := printByteUptoRow.holds Try.pinned (OpenSpec.upto printByteSpec)

/-- 'woolkeep.CutEven', WHERE WHAT IT READS IS OF BULK AT MOST 1048576: true; the input reads as it did. -/
def cutEvenUptoRow : OpenClaim := { program := "ytidofplebkbbmaa", sum := "222e27b209d08709c29dc12d44cb0ae811a271828ee1dc526ca674f2a644df22", func := "woolsack/woolkeep.CutEven", spec := "cutEven", apart := false, narrowed := true }
def CutEvenUptoSaid : Prop := cutEvenUptoRow.holds Try.pinned (OpenSpec.upto cutEvenSpec)

/-- 'woolkeep.CutMore', WHERE WHAT IT READS IS OF BULK AT MOST 1048576: true; the input reads as it did. -/
def cutMoreUptoRow : OpenClaim := { program := "ytidofplebkbbmaa", sum := "222e27b209d08709c29dc12d44cb0ae811a271828ee1dc526ca674f2a644df22", func := "woolsack/woolkeep.CutMore", spec := "cutMore", apart := false, narrowed := true }
def CutMoreUptoSaid : Prop := cutMoreUptoRow.holds Try.pinned (OpenSpec.upto cutMoreSpec)

/-- 'wooltop.TopRabin', WHERE WHAT IT READS IS OF BULK AT MOST 1048576: true; the input reads as it did. -/
def topRabinUptoRow : OpenClaim := { program := "ytidofplebkbbmaa", sum := "222e27b209d08709c29dc12d44cb0ae811a271828ee1dc526ca674f2a644df22", func := "woolsack/wooltop.TopRabin", spec := "topRabin", apart := false, narrowed := true }
def TopRabinUptoSaid : Prop := topRabinUptoRow.holds Try.pinned (OpenSpec.upto topRabinSpec)

end Rows
end Go.Proofs.Ytidofplebkbbmaa
