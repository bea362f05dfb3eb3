/-
  DERIVED. GIVEN WITH THE SEED: THE CARDS: each row of YtjklecglecpflaaGreatDoorRows.lean that lists a variable, with what it lists TIED to the program's text (the seventh form; the later family's looks); each row that meets fmt, with fmt's text TOLD by the authors' own Lean function (tested against real Go, not proved from fmt's source: count such statements apart). THE CARD IS WHAT COUNTS. Prove the row's statement (the work); the ties are given (YtjklecglecpflaaGreatDoorTie.lean); close each card by the builder's one call (the guide's Derived/Test/ToyasCard.lean, 'card_holds'). Laid BY PROGRAM, IN A SANDBOX (cutbox-door.mjs). By AI agents, Wed Nov 11 2026. No macro, syntax, notation, axiom, sorry.
-/
import Derived.Test.YtjklecglecpflaaGreatDoorRows
import GoSem.ClaimSeven
namespace Go.Proofs.YtjklecglecpflaaGreatDoor
namespace Rows

/-- THE TIED CARD OF 'woollaw.VolMakes'. -/
def volMakesCard : Claim7 := { stood := { row := volMakesRow, standIns := [], harness := (true, "b9622a55ec3524845fe23ed01f8b299504be8bd4d3b1c01949d44cd2ad0d2126"), looks := false }, kinds := [], alts := [], laidByText := true, laidKinds := [.data, .pinned], laidTests := true, laidLooks := .later }
def VolMakesCardSaid : Prop := Claim7.holds Tryz.pinned (.plain (OpenSpec.ofChange volMakesSpec)) volMakesCard

/-- THE TIED CARD OF 'woollaw.DiffSays'. -/
def diffSaysCard : Claim7 := { stood := { row := diffSaysRow, standIns := [], harness := (true, "b9622a55ec3524845fe23ed01f8b299504be8bd4d3b1c01949d44cd2ad0d2126"), looks := false }, kinds := [], alts := [], laidByText := true, laidKinds := [.data, .pinned], laidTests := true, laidLooks := .later }
def DiffSaysCardSaid : Prop := Claim7.holds Tryz.pinned (.plain (OpenSpec.ofChange diffSaysSpec)) diffSaysCard

/-- THE SECOND FORM's CARD OF 'woollaw.VolMakes'. -/
def volMakesUptoCard : Claim7 := { stood := { row := volMakesUptoRow, standIns := [], harness := (true, "b9622a55ec3524845fe23ed01f8b299504be8bd4d3b1c01949d44cd2ad0d2126"), looks := false }, kinds := [], alts := [], laidByText := true, laidKinds := [.data, .pinned], laidTests := true, laidLooks := .later }
def VolMakesUptoCardSaid : Prop := Claim7.holds Tryz.pinned (.plain (OpenSpec.upto volMakesSpec)) volMakesUptoCard

/-- THE SECOND FORM's CARD OF 'woollaw.DiffSays'. -/
def diffSaysUptoCard : Claim7 := { stood := { row := diffSaysUptoRow, standIns := [], harness := (true, "b9622a55ec3524845fe23ed01f8b299504be8bd4d3b1c01949d44cd2ad0d2126"), looks := false }, kinds := [], alts := [], laidByText := true, laidKinds := [.data, .pinned], laidTests := true, laidLooks := .later }
def DiffSaysUptoCardSaid : Prop := Claim7.holds Tryz.pinned (.plain (OpenSpec.upto diffSaysSpec)) diffSaysUptoCard
end Rows
end Go.Proofs.YtjklecglecpflaaGreatDoor
