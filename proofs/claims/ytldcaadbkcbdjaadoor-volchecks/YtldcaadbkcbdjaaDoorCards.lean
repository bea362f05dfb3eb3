/-
  DERIVED. GIVEN WITH THE SEED: THE CARDS: each row of YtldcaadbkcbdjaaDoorRows.lean that lists a variable, with what it lists TIED to the program's text (the seventh form; the later family's looks); each row that meets fmt, with fmt's text TOLD by the authors' own Lean function (tested against real Go, not proved from fmt's source: count such statements apart). THE CARD IS WHAT COUNTS. Prove the row's statement (the work); the ties are given (YtldcaadbkcbdjaaDoorTie.lean); close each card by the builder's one call (the guide's Derived/Test/ToyasCard.lean, 'card_holds'). Laid BY PROGRAM, IN A SANDBOX (cutbox-door.mjs). By AI agents, Wed Nov 11 2026. No macro, syntax, notation, axiom, sorry.
-/
import Derived.Test.YtldcaadbkcbdjaaDoorRows
import GoSem.ClaimSeven
namespace Go.Proofs.YtldcaadbkcbdjaaDoor
namespace Rows

/-- THE TIED CARD OF 'woollaw.VolChecks'. -/
def volChecksCard : Claim7 := { stood := { row := volChecksRow, standIns := [], harness := (true, "7d3c312c9273df39d87b529522885009461bc28fedd186543353f87f86c90cf3"), looks := false }, kinds := [], alts := [], laidByText := true, laidKinds := [.data, .pinned], laidTests := true, laidLooks := .later }
def VolChecksCardSaid : Prop := Claim7.holds Tryd.pinned (.plain (OpenSpec.ofChange volChecksSpec)) volChecksCard

/-- THE SECOND FORM's CARD OF 'woollaw.VolChecks'. -/
def volChecksUptoCard : Claim7 := { stood := { row := volChecksUptoRow, standIns := [], harness := (true, "7d3c312c9273df39d87b529522885009461bc28fedd186543353f87f86c90cf3"), looks := false }, kinds := [], alts := [], laidByText := true, laidKinds := [.data, .pinned], laidTests := true, laidLooks := .later }
def VolChecksUptoCardSaid : Prop := Claim7.holds Tryd.pinned (.plain (OpenSpec.upto volChecksSpec)) volChecksUptoCard
end Rows
end Go.Proofs.YtldcaadbkcbdjaaDoor
