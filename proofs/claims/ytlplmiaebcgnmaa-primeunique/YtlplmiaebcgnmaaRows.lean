/-
  No cell of these rows narrows 'for every input' (looked for: loops, veiled, ifaces, maps, wideKeys, modest, calm, conditions, laid).
  DERIVED. THE GIVEN ROWS OF THIS SEAT. 16 by the template 'for every input the law returns true; each argument reads behind the call as it read before'; 0 by the template 'total and deterministic' (their statements: YtlplmiaebcgnmaaTotals.lean).
  GIVEN WITH THE SEED: the statements are not yours to turn. If you find one false, say at which input.
  Laid BY PROGRAM, IN A SANDBOX (cutbox-rows.mjs): the forced cells as the released guide's own fill.sh prints them over the translation d77e590b32e374d7… (all of the seat's roots in one cut). By AI agents, Wed Nov 11 2026. No macro, syntax, notation, axiom, sorry.
-/
import Derived.Test.YtlplmiaebcgnmaaChecked
import GoSem.Claim
import GoSem.ClaimJoined
import GoSem.ClaimMapViews
import Derived.JoinedTies
import Derived.KernelRfl
namespace Go.Proofs.Ytlplmiaebcgnmaa
/- THE CELL 'sum', in the pinned program and in every row, IS THE sha256 OF THE DUMP (.gsa) THAT YtlplmiaebcgnmaaProg.lean LOADS. Nothing in Lean hashes anything: it is a label: what it is worth is what the hold of that sum in a sandbox is worth. -/
noncomputable def Try.pinned : Pinned := { name := "ytlplmiaebcgnmaa", sum := "d77e590b32e374d703c55476a271a1d9930b4fc6f9414da046af2302d60e0b1d", checked := Try.checked }
namespace Rows
def none {H : Type} : Left H := { results := [], args := [] }

/-- 'woollaw.PolySays': WHATEVER THE INPUT: true; the input reads as it did. -/
def polySaysSpec : ChangeSpec := { name := "polySays", fn := fun _ => fun
  | [d1, d2] => { results := [.lit (.bool true)], args := [d1, d2] }
  | _ => none }
def polySaysRow : OpenClaim := { program := "ytlplmiaebcgnmaa", sum := "d77e590b32e374d703c55476a271a1d9930b4fc6f9414da046af2302d60e0b1d", func := "woolsack/woollaw.PolySays", spec := "polySays", apart := false }
def PolySaysSaid : Prop := polySaysRow.holds Try.pinned (OpenSpec.ofChange polySaysSpec)

/-- ITS FALSE NEIGHBOUR: 'it returns false'. Refute it at one input. -/
def polySaysWrong : ChangeSpec := { name := "polySays", fn := fun _ => fun
  | [d1, d2] => { results := [.lit (.bool false)], args := [d1, d2] }
  | _ => none }
def PolySaysWrongFalsely : Prop := polySaysRow.holds Try.pinned (OpenSpec.ofChange polySaysWrong)

/-- 'woollaw.PolyDivides': WHATEVER THE INPUT: true; the input reads as it did. -/
def polyDividesSpec : ChangeSpec := { name := "polyDivides", fn := fun _ => fun
  | [d1, d2] => { results := [.lit (.bool true)], args := [d1, d2] }
  | _ => none }
def polyDividesRow : OpenClaim := { program := "ytlplmiaebcgnmaa", sum := "d77e590b32e374d703c55476a271a1d9930b4fc6f9414da046af2302d60e0b1d", func := "woolsack/woollaw.PolyDivides", spec := "polyDivides", recurses := true, apart := false }
def PolyDividesSaid : Prop := polyDividesRow.holds Try.pinned (OpenSpec.ofChange polyDividesSpec)

/-- ITS FALSE NEIGHBOUR: 'it returns false'. Refute it at one input. -/
def polyDividesWrong : ChangeSpec := { name := "polyDivides", fn := fun _ => fun
  | [d1, d2] => { results := [.lit (.bool false)], args := [d1, d2] }
  | _ => none }
def PolyDividesWrongFalsely : Prop := polyDividesRow.holds Try.pinned (OpenSpec.ofChange polyDividesWrong)

/-- 'woollaw.PolyMods': WHATEVER THE INPUT: true; the input reads as it did. -/
def polyModsSpec : ChangeSpec := { name := "polyMods", fn := fun _ => fun
  | [d1, d2, d3, d4] => { results := [.lit (.bool true)], args := [d1, d2, d3, d4] }
  | _ => none }
def polyModsRow : OpenClaim := { program := "ytlplmiaebcgnmaa", sum := "d77e590b32e374d703c55476a271a1d9930b4fc6f9414da046af2302d60e0b1d", func := "woolsack/woollaw.PolyMods", spec := "polyMods", recurses := true, apart := false }
def PolyModsSaid : Prop := polyModsRow.holds Try.pinned (OpenSpec.ofChange polyModsSpec)

/-- ITS FALSE NEIGHBOUR: 'it returns false'. Refute it at one input. -/
def polyModsWrong : ChangeSpec := { name := "polyMods", fn := fun _ => fun
  | [d1, d2, d3, d4] => { results := [.lit (.bool false)], args := [d1, d2, d3, d4] }
  | _ => none }
def PolyModsWrongFalsely : Prop := polyModsRow.holds Try.pinned (OpenSpec.ofChange polyModsWrong)

/-- 'woollaw.PrimeSays': WHATEVER THE INPUT: true; the input reads as it did. -/
def primeSaysSpec : ChangeSpec := { name := "primeSays", fn := fun _ => fun
  | [d] => { results := [.lit (.bool true)], args := [d] }
  | _ => none }
def primeSaysRow : OpenClaim := { program := "ytlplmiaebcgnmaa", sum := "d77e590b32e374d703c55476a271a1d9930b4fc6f9414da046af2302d60e0b1d", func := "woolsack/woollaw.PrimeSays", spec := "primeSays", apart := false }
def PrimeSaysSaid : Prop := primeSaysRow.holds Try.pinned (OpenSpec.ofChange primeSaysSpec)

/-- ITS FALSE NEIGHBOUR: 'it returns false'. Refute it at one input. -/
def primeSaysWrong : ChangeSpec := { name := "primeSays", fn := fun _ => fun
  | [d] => { results := [.lit (.bool false)], args := [d] }
  | _ => none }
def PrimeSaysWrongFalsely : Prop := primeSaysRow.holds Try.pinned (OpenSpec.ofChange primeSaysWrong)

/-- 'woollaw.PrimeCounts': WHATEVER THE INPUT: true; the input reads as it did. -/
def primeCountsSpec : ChangeSpec := { name := "primeCounts", fn := fun _ => fun
  | [d] => { results := [.lit (.bool true)], args := [d] }
  | _ => none }
def primeCountsRow : OpenClaim := { program := "ytlplmiaebcgnmaa", sum := "d77e590b32e374d703c55476a271a1d9930b4fc6f9414da046af2302d60e0b1d", func := "woolsack/woollaw.PrimeCounts", spec := "primeCounts", recurses := true, apart := false }
def PrimeCountsSaid : Prop := primeCountsRow.holds Try.pinned (OpenSpec.ofChange primeCountsSpec)

/-- ITS FALSE NEIGHBOUR: 'it returns false'. Refute it at one input. -/
def primeCountsWrong : ChangeSpec := { name := "primeCounts", fn := fun _ => fun
  | [d] => { results := [.lit (.bool false)], args := [d] }
  | _ => none }
def PrimeCountsWrongFalsely : Prop := primeCountsRow.holds Try.pinned (OpenSpec.ofChange primeCountsWrong)

/-- 'woolkeep.PolyRing': WHATEVER THE INPUT: true; the input reads as it did. -/
def polyRingSpec : ChangeSpec := { name := "polyRing", fn := fun _ => fun
  | [d1, d2, d3] => { results := [.lit (.bool true)], args := [d1, d2, d3] }
  | _ => none }
def polyRingRow : OpenClaim := { program := "ytlplmiaebcgnmaa", sum := "d77e590b32e374d703c55476a271a1d9930b4fc6f9414da046af2302d60e0b1d", func := "woolsack/woolkeep.PolyRing", spec := "polyRing", apart := false }
def PolyRingSaid : Prop := polyRingRow.holds Try.pinned (OpenSpec.ofChange polyRingSpec)

/-- ITS FALSE NEIGHBOUR: 'it returns false'. Refute it at one input. -/
def polyRingWrong : ChangeSpec := { name := "polyRing", fn := fun _ => fun
  | [d1, d2, d3] => { results := [.lit (.bool false)], args := [d1, d2, d3] }
  | _ => none }
def PolyRingWrongFalsely : Prop := polyRingRow.holds Try.pinned (OpenSpec.ofChange polyRingWrong)

/-- 'woolkeep.PolyDegrees': WHATEVER THE INPUT: true; the input reads as it did. -/
def polyDegreesSpec : ChangeSpec := { name := "polyDegrees", fn := fun _ => fun
  | [d1, d2] => { results := [.lit (.bool true)], args := [d1, d2] }
  | _ => none }
def polyDegreesRow : OpenClaim := { program := "ytlplmiaebcgnmaa", sum := "d77e590b32e374d703c55476a271a1d9930b4fc6f9414da046af2302d60e0b1d", func := "woolsack/woolkeep.PolyDegrees", spec := "polyDegrees", apart := false }
def PolyDegreesSaid : Prop := polyDegreesRow.holds Try.pinned (OpenSpec.ofChange polyDegreesSpec)

/-- ITS FALSE NEIGHBOUR: 'it returns false'. Refute it at one input. -/
def polyDegreesWrong : ChangeSpec := { name := "polyDegrees", fn := fun _ => fun
  | [d1, d2] => { results := [.lit (.bool false)], args := [d1, d2] }
  | _ => none }
def PolyDegreesWrongFalsely : Prop := polyDegreesRow.holds Try.pinned (OpenSpec.ofChange polyDegreesWrong)

/-- 'woolkeep.PolyDivision': WHATEVER THE INPUT: true; the input reads as it did. -/
def polyDivisionSpec : ChangeSpec := { name := "polyDivision", fn := fun _ => fun
  | [d1, d2, d3] => { results := [.lit (.bool true)], args := [d1, d2, d3] }
  | _ => none }
def polyDivisionRow : OpenClaim := { program := "ytlplmiaebcgnmaa", sum := "d77e590b32e374d703c55476a271a1d9930b4fc6f9414da046af2302d60e0b1d", func := "woolsack/woolkeep.PolyDivision", spec := "polyDivision", apart := false }
def PolyDivisionSaid : Prop := polyDivisionRow.holds Try.pinned (OpenSpec.ofChange polyDivisionSpec)

/-- ITS FALSE NEIGHBOUR: 'it returns false'. Refute it at one input. -/
def polyDivisionWrong : ChangeSpec := { name := "polyDivision", fn := fun _ => fun
  | [d1, d2, d3] => { results := [.lit (.bool false)], args := [d1, d2, d3] }
  | _ => none }
def PolyDivisionWrongFalsely : Prop := polyDivisionRow.holds Try.pinned (OpenSpec.ofChange polyDivisionWrong)

/-- 'woolkeep.PolyGcd': WHATEVER THE INPUT: true; the input reads as it did. -/
def polyGcdSpec : ChangeSpec := { name := "polyGcd", fn := fun _ => fun
  | [d1, d2, d3] => { results := [.lit (.bool true)], args := [d1, d2, d3] }
  | _ => none }
def polyGcdRow : OpenClaim := { program := "ytlplmiaebcgnmaa", sum := "d77e590b32e374d703c55476a271a1d9930b4fc6f9414da046af2302d60e0b1d", func := "woolsack/woolkeep.PolyGcd", spec := "polyGcd", apart := false }
def PolyGcdSaid : Prop := polyGcdRow.holds Try.pinned (OpenSpec.ofChange polyGcdSpec)

/-- ITS FALSE NEIGHBOUR: 'it returns false'. Refute it at one input. -/
def polyGcdWrong : ChangeSpec := { name := "polyGcd", fn := fun _ => fun
  | [d1, d2, d3] => { results := [.lit (.bool false)], args := [d1, d2, d3] }
  | _ => none }
def PolyGcdWrongFalsely : Prop := polyGcdRow.holds Try.pinned (OpenSpec.ofChange polyGcdWrong)

/-- 'woolkeep.PolyFrobenius': WHATEVER THE INPUT: true; the input reads as it did. -/
def polyFrobeniusSpec : ChangeSpec := { name := "polyFrobenius", fn := fun _ => fun
  | [d1, d2, d3, d4, d5] => { results := [.lit (.bool true)], args := [d1, d2, d3, d4, d5] }
  | _ => none }
def polyFrobeniusRow : OpenClaim := { program := "ytlplmiaebcgnmaa", sum := "d77e590b32e374d703c55476a271a1d9930b4fc6f9414da046af2302d60e0b1d", func := "woolsack/woolkeep.PolyFrobenius", spec := "polyFrobenius", apart := false }
def PolyFrobeniusSaid : Prop := polyFrobeniusRow.holds Try.pinned (OpenSpec.ofChange polyFrobeniusSpec)

/-- ITS FALSE NEIGHBOUR: 'it returns false'. Refute it at one input. -/
def polyFrobeniusWrong : ChangeSpec := { name := "polyFrobenius", fn := fun _ => fun
  | [d1, d2, d3, d4, d5] => { results := [.lit (.bool false)], args := [d1, d2, d3, d4, d5] }
  | _ => none }
def PolyFrobeniusWrongFalsely : Prop := polyFrobeniusRow.holds Try.pinned (OpenSpec.ofChange polyFrobeniusWrong)

/-- 'woolkeep.PolyRests': WHATEVER THE INPUT: true; the input reads as it did. -/
def polyRestsSpec : ChangeSpec := { name := "polyRests", fn := fun _ => fun
  | [d1, d2, d3, d4] => { results := [.lit (.bool true)], args := [d1, d2, d3, d4] }
  | _ => none }
def polyRestsRow : OpenClaim := { program := "ytlplmiaebcgnmaa", sum := "d77e590b32e374d703c55476a271a1d9930b4fc6f9414da046af2302d60e0b1d", func := "woolsack/woolkeep.PolyRests", spec := "polyRests", apart := false }
def PolyRestsSaid : Prop := polyRestsRow.holds Try.pinned (OpenSpec.ofChange polyRestsSpec)

/-- ITS FALSE NEIGHBOUR: 'it returns false'. Refute it at one input. -/
def polyRestsWrong : ChangeSpec := { name := "polyRests", fn := fun _ => fun
  | [d1, d2, d3, d4] => { results := [.lit (.bool false)], args := [d1, d2, d3, d4] }
  | _ => none }
def PolyRestsWrongFalsely : Prop := polyRestsRow.holds Try.pinned (OpenSpec.ofChange polyRestsWrong)

/-- 'woolkeep.PrimeFactors': WHATEVER THE INPUT: true; the input reads as it did. -/
def primeFactorsSpec : ChangeSpec := { name := "primeFactors", fn := fun _ => fun
  | [d] => { results := [.lit (.bool true)], args := [d] }
  | _ => none }
def primeFactorsRow : OpenClaim := { program := "ytlplmiaebcgnmaa", sum := "d77e590b32e374d703c55476a271a1d9930b4fc6f9414da046af2302d60e0b1d", func := "woolsack/woolkeep.PrimeFactors", spec := "primeFactors", apart := false }
def PrimeFactorsSaid : Prop := primeFactorsRow.holds Try.pinned (OpenSpec.ofChange primeFactorsSpec)

/-- ITS FALSE NEIGHBOUR: 'it returns false'. Refute it at one input. -/
def primeFactorsWrong : ChangeSpec := { name := "primeFactors", fn := fun _ => fun
  | [d] => { results := [.lit (.bool false)], args := [d] }
  | _ => none }
def PrimeFactorsWrongFalsely : Prop := primeFactorsRow.holds Try.pinned (OpenSpec.ofChange primeFactorsWrong)

/-- 'woolkeep.PrimeUnique': WHATEVER THE INPUT: true; the input reads as it did. -/
def primeUniqueSpec : ChangeSpec := { name := "primeUnique", fn := fun _ => fun
  | [d] => { results := [.lit (.bool true)], args := [d] }
  | _ => none }
def primeUniqueRow : OpenClaim := { program := "ytlplmiaebcgnmaa", sum := "d77e590b32e374d703c55476a271a1d9930b4fc6f9414da046af2302d60e0b1d", func := "woolsack/woolkeep.PrimeUnique", spec := "primeUnique", recurses := true, apart := false }
def PrimeUniqueSaid : Prop := primeUniqueRow.holds Try.pinned (OpenSpec.ofChange primeUniqueSpec)

/-- ITS FALSE NEIGHBOUR: 'it returns false'. Refute it at one input. -/
def primeUniqueWrong : ChangeSpec := { name := "primeUnique", fn := fun _ => fun
  | [d] => { results := [.lit (.bool false)], args := [d] }
  | _ => none }
def PrimeUniqueWrongFalsely : Prop := primeUniqueRow.holds Try.pinned (OpenSpec.ofChange primeUniqueWrong)

/-- 'woolkeep.PrimeEuclid': WHATEVER THE INPUT: true; the input reads as it did. -/
def primeEuclidSpec : ChangeSpec := { name := "primeEuclid", fn := fun _ => fun
  | [d1, d2, d3] => { results := [.lit (.bool true)], args := [d1, d2, d3] }
  | _ => none }
def primeEuclidRow : OpenClaim := { program := "ytlplmiaebcgnmaa", sum := "d77e590b32e374d703c55476a271a1d9930b4fc6f9414da046af2302d60e0b1d", func := "woolsack/woolkeep.PrimeEuclid", spec := "primeEuclid", apart := false }
def PrimeEuclidSaid : Prop := primeEuclidRow.holds Try.pinned (OpenSpec.ofChange primeEuclidSpec)

/-- ITS FALSE NEIGHBOUR: 'it returns false'. Refute it at one input. -/
def primeEuclidWrong : ChangeSpec := { name := "primeEuclid", fn := fun _ => fun
  | [d1, d2, d3] => { results := [.lit (.bool false)], args := [d1, d2, d3] }
  | _ => none }
def PrimeEuclidWrongFalsely : Prop := primeEuclidRow.holds Try.pinned (OpenSpec.ofChange primeEuclidWrong)

/-- 'woolkeep.PrimeFermat': WHATEVER THE INPUT: true; the input reads as it did. -/
def primeFermatSpec : ChangeSpec := { name := "primeFermat", fn := fun _ => fun
  | [d1, d2] => { results := [.lit (.bool true)], args := [d1, d2] }
  | _ => none }
def primeFermatRow : OpenClaim := { program := "ytlplmiaebcgnmaa", sum := "d77e590b32e374d703c55476a271a1d9930b4fc6f9414da046af2302d60e0b1d", func := "woolsack/woolkeep.PrimeFermat", spec := "primeFermat", apart := false }
def PrimeFermatSaid : Prop := primeFermatRow.holds Try.pinned (OpenSpec.ofChange primeFermatSpec)

/-- ITS FALSE NEIGHBOUR: 'it returns false'. Refute it at one input. -/
def primeFermatWrong : ChangeSpec := { name := "primeFermat", fn := fun _ => fun
  | [d1, d2] => { results := [.lit (.bool false)], args := [d1, d2] }
  | _ => none }
def PrimeFermatWrongFalsely : Prop := primeFermatRow.holds Try.pinned (OpenSpec.ofChange primeFermatWrong)

/-- 'woolkeep.PrimeGauss': WHATEVER THE INPUT: true; the input reads as it did. -/
def primeGaussSpec : ChangeSpec := { name := "primeGauss", fn := fun _ => fun
  | [d] => { results := [.lit (.bool true)], args := [d] }
  | _ => none }
def primeGaussRow : OpenClaim := { program := "ytlplmiaebcgnmaa", sum := "d77e590b32e374d703c55476a271a1d9930b4fc6f9414da046af2302d60e0b1d", func := "woolsack/woolkeep.PrimeGauss", spec := "primeGauss", recurses := true, apart := false }
def PrimeGaussSaid : Prop := primeGaussRow.holds Try.pinned (OpenSpec.ofChange primeGaussSpec)

/-- ITS FALSE NEIGHBOUR: 'it returns false'. Refute it at one input. -/
def primeGaussWrong : ChangeSpec := { name := "primeGauss", fn := fun _ => fun
  | [d] => { results := [.lit (.bool false)], args := [d] }
  | _ => none }
def PrimeGaussWrongFalsely : Prop := primeGaussRow.holds Try.pinned (OpenSpec.ofChange primeGaussWrong)

/- THE SECOND FORM. 'bulk': how many values and letters a reading holds, each counted each time it is reached (what is shared counts as often as it is met; a slice's spare places count too). A statement '..UptoSaid' is the law's where the arguments, and the package variables that the reading takes, are together of bulk at most 1048576: NARROWER than '..Said'. Prove '..Said' where nothing that the law and all that it calls make is longer than what came in: it says more and counts as full. Else prove '..UptoSaid'. A law counts once. -/
mutual
def uptoBulk {H : Type} : DataW H → Nat
  | .lit (.string bytes) => bytes.length + 1
  | .lit _ => 1
  | .nil => 1
  | .ptr d => uptoBulk d + 1
  | .slice elems spare => uptoBulkAll elems + uptoBulkAll spare + 1
  | .agg parts => uptoBulkAll parts + 1
  | .iface _ d => uptoBulk d + 1
  | .map entries => uptoBulkEntries entries + 1
  | .held _ => 1
def uptoBulkAll {H : Type} : List (DataW H) → Nat
  | [] => 0
  | d :: r => uptoBulk d + uptoBulkAll r
def uptoBulkEntries {H : Type} : List (Lit × DataW H) → Nat
  | [] => 0
  | x :: r => uptoBulkEntry x + uptoBulkEntries r
def uptoBulkEntry {H : Type} : Lit × DataW H → Nat
  | (.string bytes, d) => bytes.length + uptoBulk d + 1
  | (_, d) => uptoBulk d + 1
 end
def uptoSmall : (H : Type) → List (DataW H) → Bool := fun _ ds => decide (uptoBulkAll ds ≤ 1048576)
def OpenSpec.upto (s : _root_.Go.ChangeSpec) : _root_.Go.OpenSpec := { _root_.Go.OpenSpec.ofChange s with cond := some uptoSmall }

/-- 'woollaw.PolySays', WHERE WHAT IT READS IS OF BULK AT MOST 1048576: true; the input reads as it did. -/
def polySaysUptoRow : OpenClaim := { program := "ytlplmiaebcgnmaa", sum := "d77e590b32e374d703c55476a271a1d9930b4fc6f9414da046af2302d60e0b1d", func := "woolsack/woollaw.PolySays", spec := "polySays", apart := false, narrowed := true }
def PolySaysUptoSaid : Prop := polySaysUptoRow.holds Try.pinned (OpenSpec.upto polySaysSpec)

/-- 'woollaw.PolyDivides', WHERE WHAT IT READS IS OF BULK AT MOST 1048576: true; the input reads as it did. -/
def polyDividesUptoRow : OpenClaim := { program := "ytlplmiaebcgnmaa", sum := "d77e590b32e374d703c55476a271a1d9930b4fc6f9414da046af2302d60e0b1d", func := "woolsack/woollaw.PolyDivides", spec := "polyDivides", recurses := true, apart := false, narrowed := true }
def PolyDividesUptoSaid : Prop := polyDividesUptoRow.holds Try.pinned (OpenSpec.upto polyDividesSpec)

/-- 'woollaw.PolyMods', WHERE WHAT IT READS IS OF BULK AT MOST 1048576: true; the input reads as it did. -/
def polyModsUptoRow : OpenClaim := { program := "ytlplmiaebcgnmaa", sum := "d77e590b32e374d703c55476a271a1d9930b4fc6f9414da046af2302d60e0b1d", func := "woolsack/woollaw.PolyMods", spec := "polyMods", recurses := true, apart := false, narrowed := true }
def PolyModsUptoSaid : Prop := polyModsUptoRow.holds Try.pinned (OpenSpec.upto polyModsSpec)

/-- 'woollaw.PrimeSays', WHERE WHAT IT READS IS OF BULK AT MOST 1048576: true; the input reads as it did. -/
def primeSaysUptoRow : OpenClaim := { program := "ytlplmiaebcgnmaa", sum := "d77e590b32e374d703c55476a271a1d9930b4fc6f9414da046af2302d60e0b1d", func := "woolsack/woollaw.PrimeSays", spec := "primeSays", apart := false, narrowed := true }
def PrimeSaysUptoSaid : Prop := primeSaysUptoRow.holds Try.pinned (OpenSpec.upto primeSaysSpec)

/-- 'woollaw.PrimeCounts', WHERE WHAT IT READS IS OF BULK AT MOST 1048576: true; the input reads as it did. -/
def primeCountsUptoRow : OpenClaim := { program := "ytlplmiaebcgnmaa", sum := "d77e590b32e374d703c55476a271a1d9930b4fc6f9414da046af2302d60e0b1d", func := "woolsack/woollaw.PrimeCounts", spec := "primeCounts", recurses := true, apart := false, narrowed := true }
def PrimeCountsUptoSaid : Prop := primeCountsUptoRow.holds Try.pinned (OpenSpec.upto primeCountsSpec)

/-- 'woolkeep.PolyRing', WHERE WHAT IT READS IS OF BULK AT MOST 1048576: true; the input reads as it did. -/
def polyRingUptoRow : OpenClaim := { program := "ytlplmiaebcgnmaa", sum := "d77e590b32e374d703c55476a271a1d9930b4fc6f9414da046af2302d60e0b1d", func := "woolsack/woolkeep.PolyRing", spec := "polyRing", apart := false, narrowed := true }
def PolyRingUptoSaid : Prop := polyRingUptoRow.holds Try.pinned (OpenSpec.upto polyRingSpec)

/-- 'woolkeep.PolyDegrees', WHERE WHAT IT READS IS OF BULK AT MOST 1048576: true; the input reads as it did. -/
def polyDegreesUptoRow : OpenClaim := { program := "ytlplmiaebcgnmaa", sum := "d77e590b32e374d703c55476a271a1d9930b4fc6f9414da046af2302d60e0b1d", func := "woolsack/woolkeep.PolyDegrees", spec := "polyDegrees", apart := false, narrowed := true }
def PolyDegreesUptoSaid : Prop := polyDegreesUptoRow.holds Try.pinned (OpenSpec.upto polyDegreesSpec)

/-- 'woolkeep.PolyDivision', WHERE WHAT IT READS IS OF BULK AT MOST 1048576: true; the input reads as it did. -/
def polyDivisionUptoRow : OpenClaim := { program := "ytlplmiaebcgnmaa", sum := "d77e590b32e374d703c55476a271a1d9930b4fc6f9414da046af2302d60e0b1d", func := "woolsack/woolkeep.PolyDivision", spec := "polyDivision", apart := false, narrowed := true }
def PolyDivisionUptoSaid : Prop := polyDivisionUptoRow.holds Try.pinned (OpenSpec.upto polyDivisionSpec)

/-- 'woolkeep.PolyGcd', WHERE WHAT IT READS IS OF BULK AT MOST 1048576: true; the input reads as it did. -/
def polyGcdUptoRow : OpenClaim := { program := "ytlplmiaebcgnmaa", sum := "d77e590b32e374d703c55476a271a1d9930b4fc6f9414da046af2302d60e0b1d", func := "woolsack/woolkeep.PolyGcd", spec := "polyGcd", apart := false, narrowed := true }
def PolyGcdUptoSaid : Prop := polyGcdUptoRow.holds Try.pinned (OpenSpec.upto polyGcdSpec)

/-- 'woolkeep.PolyFrobenius', WHERE WHAT IT READS IS OF BULK AT MOST 1048576: true; the input reads as it did. -/
def polyFrobeniusUptoRow : OpenClaim := { program := "ytlplmiaebcgnmaa", sum := "d77e590b32e374d703c55476a271a1d9930b4fc6f9414da046af2302d60e0b1d", func := "woolsack/woolkeep.PolyFrobenius", spec := "polyFrobenius", apart := false, narrowed := true }
def PolyFrobeniusUptoSaid : Prop := polyFrobeniusUptoRow.holds Try.pinned (OpenSpec.upto polyFrobeniusSpec)

/-- 'woolkeep.PolyRests', WHERE WHAT IT READS IS OF BULK AT MOST 1048576: true; the input reads as it did. -/
def polyRestsUptoRow : OpenClaim := { program := "ytlplmiaebcgnmaa", sum := "d77e590b32e374d703c55476a271a1d9930b4fc6f9414da046af2302d60e0b1d", func := "woolsack/woolkeep.PolyRests", spec := "polyRests", apart := false, narrowed := true }
def PolyRestsUptoSaid : Prop := polyRestsUptoRow.holds Try.pinned (OpenSpec.upto polyRestsSpec)

/-- 'woolkeep.PrimeFactors', WHERE WHAT IT READS IS OF BULK AT MOST 1048576: true; the input reads as it did. -/
def primeFactorsUptoRow : OpenClaim := { program := "ytlplmiaebcgnmaa", sum := "d77e590b32e374d703c55476a271a1d9930b4fc6f9414da046af2302d60e0b1d", func := "woolsack/woolkeep.PrimeFactors", spec := "primeFactors", apart := false, narrowed := true }
def PrimeFactorsUptoSaid : Prop := primeFactorsUptoRow.holds Try.pinned (OpenSpec.upto primeFactorsSpec)

/-- 'woolkeep.PrimeUnique', WHERE WHAT IT READS IS OF BULK AT MOST 1048576: true; the input reads as it did. -/
def primeUniqueUptoRow : OpenClaim := { program := "ytlplmiaebcgnmaa", sum := "d77e590b32e374d703c55476a271a1d9930b4fc6f9414da046af2302d60e0b1d", func := "woolsack/woolkeep.PrimeUnique", spec := "primeUnique", recurses := true, apart := false, narrowed := true }
def PrimeUniqueUptoSaid : Prop := primeUniqueUptoRow.holds Try.pinned (OpenSpec.upto primeUniqueSpec)

/-- 'woolkeep.PrimeEuclid', WHERE WHAT IT READS IS OF BULK AT MOST 1048576: true; the input reads as it did. -/
def primeEuclidUptoRow : OpenClaim := { program := "ytlplmiaebcgnmaa", sum := "d77e590b32e374d703c55476a271a1d9930b4fc6f9414da046af2302d60e0b1d", func := "woolsack/woolkeep.PrimeEuclid", spec := "primeEuclid", apart := false, narrowed := true }
def PrimeEuclidUptoSaid : Prop := primeEuclidUptoRow.holds Try.pinned (OpenSpec.upto primeEuclidSpec)

/-- 'woolkeep.PrimeFermat', WHERE WHAT IT READS IS OF BULK AT MOST 1048576: true; the input reads as it did. -/
def primeFermatUptoRow : OpenClaim := { program := "ytlplmiaebcgnmaa", sum := "d77e590b32e374d703c55476a271a1d9930b4fc6f9414da046af2302d60e0b1d", func := "woolsack/woolkeep.PrimeFermat", spec := "primeFermat", apart := false, narrowed := true }
def PrimeFermatUptoSaid : Prop := primeFermatUptoRow.holds Try.pinned (OpenSpec.upto primeFermatSpec)

/-- 'woolkeep.PrimeGauss', WHERE WHAT IT READS IS OF BULK AT MOST 1048576: true; the input reads as it did. -/
def primeGaussUptoRow : OpenClaim := { program := "ytlplmiaebcgnmaa", sum := "d77e590b32e374d703c55476a271a1d9930b4fc6f9414da046af2302d60e0b1d", func := "woolsack/woolkeep.PrimeGauss", spec := "primeGauss", recurses := true, apart := false, narrowed := true }
def PrimeGaussUptoSaid : Prop := primeGaussUptoRow.holds Try.pinned (OpenSpec.upto primeGaussSpec)

end Rows
end Go.Proofs.Ytlplmiaebcgnmaa
