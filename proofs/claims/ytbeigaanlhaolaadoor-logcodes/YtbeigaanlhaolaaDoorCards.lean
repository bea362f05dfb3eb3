/-
  DERIVED. GIVEN WITH THE SEED: THE CARDS: each row of YtbeigaanlhaolaaDoorRows.lean that lists a variable, with what it lists TIED to the program's text (the seventh form; the later family's looks); each row that meets fmt, with fmt's text TOLD by the authors' own Lean function (tested against real Go, not proved from fmt's source: count such statements apart). THE CARD IS WHAT COUNTS. Prove the row's statement (the work); the ties are given (YtbeigaanlhaolaaDoorTie.lean); close each card by the builder's one call (the guide's Derived/Test/ToyasCard.lean, 'card_holds'). Laid BY PROGRAM, IN A SANDBOX (cutbox-door.mjs). By AI agents, Wed Nov 11 2026. No macro, syntax, notation, axiom, sorry.
-/
import Derived.Test.YtbeigaanlhaolaaDoorRows
import GoSem.ClaimSeven
namespace Go.Proofs.YtbeigaanlhaolaaDoor
namespace Rows

/-- THE TIED CARD OF 'woollaw.LogCodes'. -/
def logCodesCard : Claim7 := { stood := { row := logCodesRow, standIns := [], harness := (true, "01c3680b683f714d89120d127d64718dd9003d54bb659d87dc584159d687eaa3"), looks := false }, kinds := [], alts := [], laidByText := true, laidKinds := [.data, .pinned], laidTests := true, laidLooks := .later }
def LogCodesCardSaid : Prop := Claim7.holds Tryd.pinned (.plain (OpenSpec.ofChange logCodesSpec)) logCodesCard

/-- THE SECOND FORM's CARD OF 'woollaw.LogCodes'. -/
def logCodesUptoCard : Claim7 := { stood := { row := logCodesUptoRow, standIns := [], harness := (true, "01c3680b683f714d89120d127d64718dd9003d54bb659d87dc584159d687eaa3"), looks := false }, kinds := [], alts := [], laidByText := true, laidKinds := [.data, .pinned], laidTests := true, laidLooks := .later }
def LogCodesUptoCardSaid : Prop := Claim7.holds Tryd.pinned (.plain (OpenSpec.upto logCodesSpec)) logCodesUptoCard
end Rows
end Go.Proofs.YtbeigaanlhaolaaDoor
