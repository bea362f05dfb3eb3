/-
  DERIVED. GIVEN WITH THE SEED: THE CARDS: each row of YtloiciinmdmdkaaGreatDoorRows.lean that lists a variable, with what it lists TIED to the program's text (the seventh form; the later family's looks); each row that meets fmt, with fmt's text TOLD by the authors' own Lean function (tested against real Go, not proved from fmt's source: count such statements apart). THE CARD IS WHAT COUNTS. Prove the row's statement (the work); the ties are given (YtloiciinmdmdkaaGreatDoorTie.lean); close each card by the builder's one call (the guide's Derived/Test/ToyasCard.lean, 'card_holds'). Laid BY PROGRAM, IN A SANDBOX (cutbox-door.mjs). By AI agents, Wed Nov 11 2026. No macro, syntax, notation, axiom, sorry.
-/
import Derived.Test.YtloiciinmdmdkaaGreatDoorRows
import GoSem.ClaimSeven
namespace Go.Proofs.YtloiciinmdmdkaaGreatDoor
namespace Rows

/-- THE TIED CARD OF 'woollaw.BoxSays'. -/
def boxSaysCard : Claim7 := { stood := { row := boxSaysRow, standIns := [], harness := (true, "a913aa83a4bf30c0f8bf4db79509cd8943226eca4eb80c1584f1c26d6b34a898"), looks := false }, kinds := [], alts := [], laidByText := true, laidKinds := [.data, .data, .data, .data, .pinned], laidTests := true, laidLooks := .later }
def BoxSaysCardSaid : Prop := Claim7.holds Tryz.pinned (.plain (OpenSpec.ofChange boxSaysSpec)) boxSaysCard

/-- THE TIED CARD OF 'wooltop.TopShut'. -/
def topShutCard : Claim7 := { stood := { row := topShutRow, standIns := [], harness := (true, "a913aa83a4bf30c0f8bf4db79509cd8943226eca4eb80c1584f1c26d6b34a898"), looks := false }, kinds := [], alts := [], laidByText := true, laidKinds := [.data, .data, .data, .data, .pinned], laidTests := true, laidLooks := .later }
def TopShutCardSaid : Prop := Claim7.holds Tryz.pinned (.plain (OpenSpec.ofChange topShutSpec)) topShutCard

/-- THE SECOND FORM's CARD OF 'woollaw.BoxSays'. -/
def boxSaysUptoCard : Claim7 := { stood := { row := boxSaysUptoRow, standIns := [], harness := (true, "a913aa83a4bf30c0f8bf4db79509cd8943226eca4eb80c1584f1c26d6b34a898"), looks := false }, kinds := [], alts := [], laidByText := true, laidKinds := [.data, .data, .data, .data, .pinned], laidTests := true, laidLooks := .later }
def BoxSaysUptoCardSaid : Prop := Claim7.holds Tryz.pinned (.plain (OpenSpec.upto boxSaysSpec)) boxSaysUptoCard

/-- THE SECOND FORM's CARD OF 'wooltop.TopShut'. -/
def topShutUptoCard : Claim7 := { stood := { row := topShutUptoRow, standIns := [], harness := (true, "a913aa83a4bf30c0f8bf4db79509cd8943226eca4eb80c1584f1c26d6b34a898"), looks := false }, kinds := [], alts := [], laidByText := true, laidKinds := [.data, .data, .data, .data, .pinned], laidTests := true, laidLooks := .later }
def TopShutUptoCardSaid : Prop := Claim7.holds Tryz.pinned (.plain (OpenSpec.upto topShutSpec)) topShutUptoCard
end Rows
end Go.Proofs.YtloiciinmdmdkaaGreatDoor
