/-
  DERIVED. GIVEN WITH THE SEED: THE CARDS: each row of YtcbppfndlagodaaGreatDoorRows.lean that lists a variable, with what it lists TIED to the program's text (the seventh form; the later family's looks); each row that meets fmt, with fmt's text TOLD by the authors' own Lean function (tested against real Go, not proved from fmt's source: count such statements apart). THE CARD IS WHAT COUNTS. Prove the row's statement (the work); the ties are given (YtcbppfndlagodaaGreatDoorTie.lean); close each card by the builder's one call (the guide's Derived/Test/ToyasCard.lean, 'card_holds'). Laid BY PROGRAM, IN A SANDBOX (cutbox-door.mjs). By AI agents, Wed Nov 11 2026. No macro, syntax, notation, axiom, sorry.
-/
import Derived.Test.YtcbppfndlagodaaGreatDoorRows
import GoSem.ClaimSeven
namespace Go.Proofs.YtcbppfndlagodaaGreatDoor
namespace Rows

/-- THE TIED CARD OF 'woollaw.VolMakes'. -/
def volMakesCard : Claim7 := { stood := { row := volMakesRow, standIns := [], harness := (true, "68d162f0397e8b1c7cbd4f3277b59ad5cd7d7c49560af67362bedf628b6831bf"), looks := false }, kinds := [], alts := [], laidByText := true, laidKinds := [.data, .pinned], laidTests := true, laidLooks := .later }
def VolMakesCardSaid : Prop := Claim7.holds Tryz.pinned (.plain (OpenSpec.ofChange volMakesSpec)) volMakesCard

/-- THE TIED CARD OF 'woollaw.VolWrites'. -/
def volWritesCard : Claim7 := { stood := { row := volWritesRow, standIns := [], harness := (true, "68d162f0397e8b1c7cbd4f3277b59ad5cd7d7c49560af67362bedf628b6831bf"), looks := false }, kinds := [], alts := [], laidByText := true, laidKinds := [.data, .pinned], laidTests := true, laidLooks := .later }
def VolWritesCardSaid : Prop := Claim7.holds Tryz.pinned (.plain (OpenSpec.ofChange volWritesSpec)) volWritesCard

/-- THE TIED CARD OF 'woollaw.DiffSays'. -/
def diffSaysCard : Claim7 := { stood := { row := diffSaysRow, standIns := [], harness := (true, "68d162f0397e8b1c7cbd4f3277b59ad5cd7d7c49560af67362bedf628b6831bf"), looks := false }, kinds := [], alts := [], laidByText := true, laidKinds := [.data, .pinned], laidTests := true, laidLooks := .later }
def DiffSaysCardSaid : Prop := Claim7.holds Tryz.pinned (.plain (OpenSpec.ofChange diffSaysSpec)) diffSaysCard

/-- THE SECOND FORM's CARD OF 'woollaw.VolMakes'. -/
def volMakesUptoCard : Claim7 := { stood := { row := volMakesUptoRow, standIns := [], harness := (true, "68d162f0397e8b1c7cbd4f3277b59ad5cd7d7c49560af67362bedf628b6831bf"), looks := false }, kinds := [], alts := [], laidByText := true, laidKinds := [.data, .pinned], laidTests := true, laidLooks := .later }
def VolMakesUptoCardSaid : Prop := Claim7.holds Tryz.pinned (.plain (OpenSpec.upto volMakesSpec)) volMakesUptoCard

/-- THE SECOND FORM's CARD OF 'woollaw.VolWrites'. -/
def volWritesUptoCard : Claim7 := { stood := { row := volWritesUptoRow, standIns := [], harness := (true, "68d162f0397e8b1c7cbd4f3277b59ad5cd7d7c49560af67362bedf628b6831bf"), looks := false }, kinds := [], alts := [], laidByText := true, laidKinds := [.data, .pinned], laidTests := true, laidLooks := .later }
def VolWritesUptoCardSaid : Prop := Claim7.holds Tryz.pinned (.plain (OpenSpec.upto volWritesSpec)) volWritesUptoCard

/-- THE SECOND FORM's CARD OF 'woollaw.DiffSays'. -/
def diffSaysUptoCard : Claim7 := { stood := { row := diffSaysUptoRow, standIns := [], harness := (true, "68d162f0397e8b1c7cbd4f3277b59ad5cd7d7c49560af67362bedf628b6831bf"), looks := false }, kinds := [], alts := [], laidByText := true, laidKinds := [.data, .pinned], laidTests := true, laidLooks := .later }
def DiffSaysUptoCardSaid : Prop := Claim7.holds Tryz.pinned (.plain (OpenSpec.upto diffSaysSpec)) diffSaysUptoCard
end Rows
end Go.Proofs.YtcbppfndlagodaaGreatDoor
