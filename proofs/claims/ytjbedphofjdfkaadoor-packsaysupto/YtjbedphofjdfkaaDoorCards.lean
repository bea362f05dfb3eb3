/-
  DERIVED. GIVEN WITH THE SEED: THE CARDS: each row of YtjbedphofjdfkaaDoorRows.lean that lists a variable, with what it lists TIED to the program's text (the seventh form; the later family's looks); each row that meets fmt, with fmt's text TOLD by the authors' own Lean function (tested against real Go, not proved from fmt's source: count such statements apart). THE CARD IS WHAT COUNTS. Prove the row's statement (the work); the ties are given (YtjbedphofjdfkaaDoorTie.lean); close each card by the builder's one call (the guide's Derived/Test/ToyasCard.lean, 'card_holds'). Laid BY PROGRAM, IN A SANDBOX (cutbox-door.mjs). By AI agents, Wed Nov 11 2026. No macro, syntax, notation, axiom, sorry.
-/
import Derived.Test.YtjbedphofjdfkaaDoorRows
import GoSem.ClaimSeven
namespace Go.Proofs.YtjbedphofjdfkaaDoor
namespace Rows

/-- THE TIED CARD OF 'woollaw.GammaSays'. -/
def gammaSaysCard : Claim7 := { stood := { row := gammaSaysRow, standIns := [], harness := (true, "8a5b6ef40017e40fbb071eab905bd56ab65b91f0c9be68859a3b3c619ccbb9d4"), looks := false }, kinds := [], alts := [], laidByText := true, laidKinds := [.data, .data, .data, .data, .pinned], laidTests := true, laidLooks := .later }
def GammaSaysCardSaid : Prop := Claim7.holds Tryd.pinned (.plain (OpenSpec.ofChange gammaSaysSpec)) gammaSaysCard

/-- THE TIED CARD OF 'woollaw.PackSays'. -/
def packSaysCard : Claim7 := { stood := { row := packSaysRow, standIns := [], harness := (true, "8a5b6ef40017e40fbb071eab905bd56ab65b91f0c9be68859a3b3c619ccbb9d4"), looks := false }, kinds := [], alts := [], laidByText := true, laidKinds := [.data, .data, .data, .data, .pinned], laidTests := true, laidLooks := .later }
def PackSaysCardSaid : Prop := Claim7.holds Tryd.pinned (.plain (OpenSpec.ofChange packSaysSpec)) packSaysCard

/-- THE TIED CARD OF 'woollaw.PackBytes'. -/
def packBytesCard : Claim7 := { stood := { row := packBytesRow, standIns := [], harness := (true, "8a5b6ef40017e40fbb071eab905bd56ab65b91f0c9be68859a3b3c619ccbb9d4"), looks := false }, kinds := [], alts := [], laidByText := true, laidKinds := [.data, .data, .data], laidTests := true, laidLooks := .later }
def PackBytesCardSaid : Prop := Claim7.holds Tryd.pinned (.plain (OpenSpec.ofChange packBytesSpec)) packBytesCard

/-- THE TIED CARD OF 'woolkeep.GammaBack'. -/
def gammaBackCard : Claim7 := { stood := { row := gammaBackRow, standIns := [], harness := (true, "8a5b6ef40017e40fbb071eab905bd56ab65b91f0c9be68859a3b3c619ccbb9d4"), looks := false }, kinds := [], alts := [], laidByText := true, laidKinds := [.data, .data, .data, .data, .pinned], laidTests := true, laidLooks := .later }
def GammaBackCardSaid : Prop := Claim7.holds Tryd.pinned (.plain (OpenSpec.ofChange gammaBackSpec)) gammaBackCard

/-- THE TIED CARD OF 'woolkeep.GammaPrefix'. -/
def gammaPrefixCard : Claim7 := { stood := { row := gammaPrefixRow, standIns := [], harness := (true, "8a5b6ef40017e40fbb071eab905bd56ab65b91f0c9be68859a3b3c619ccbb9d4"), looks := false }, kinds := [], alts := [], laidByText := true, laidKinds := [.data, .data, .data], laidTests := true, laidLooks := .later }
def GammaPrefixCardSaid : Prop := Claim7.holds Tryd.pinned (.plain (OpenSpec.ofChange gammaPrefixSpec)) gammaPrefixCard

/-- THE TIED CARD OF 'woolkeep.PackBack'. -/
def packBackCard : Claim7 := { stood := { row := packBackRow, standIns := [], harness := (true, "8a5b6ef40017e40fbb071eab905bd56ab65b91f0c9be68859a3b3c619ccbb9d4"), looks := false }, kinds := [], alts := [], laidByText := true, laidKinds := [.data, .data, .data, .data, .pinned], laidTests := true, laidLooks := .later }
def PackBackCardSaid : Prop := Claim7.holds Tryd.pinned (.plain (OpenSpec.ofChange packBackSpec)) packBackCard

/-- THE TIED CARD OF 'woolkeep.PackOne'. -/
def packOneCard : Claim7 := { stood := { row := packOneRow, standIns := [], harness := (true, "8a5b6ef40017e40fbb071eab905bd56ab65b91f0c9be68859a3b3c619ccbb9d4"), looks := false }, kinds := [], alts := [], laidByText := true, laidKinds := [.data, .data, .data, .data, .pinned], laidTests := true, laidLooks := .later }
def PackOneCardSaid : Prop := Claim7.holds Tryd.pinned (.plain (OpenSpec.ofChange packOneSpec)) packOneCard

/-- THE TIED CARD OF 'woolkeep.GammaKraft'. -/
def gammaKraftCard : Claim7 := { stood := { row := gammaKraftRow, standIns := [], harness := (true, "8a5b6ef40017e40fbb071eab905bd56ab65b91f0c9be68859a3b3c619ccbb9d4"), looks := false }, kinds := [], alts := [], laidByText := true, laidKinds := [.data, .data, .data], laidTests := true, laidLooks := .later }
def GammaKraftCardSaid : Prop := Claim7.holds Tryd.pinned (.plain (OpenSpec.ofChange gammaKraftSpec)) gammaKraftCard

/-- THE TIED CARD OF 'woolkeep.PackSizes'. -/
def packSizesCard : Claim7 := { stood := { row := packSizesRow, standIns := [], harness := (true, "8a5b6ef40017e40fbb071eab905bd56ab65b91f0c9be68859a3b3c619ccbb9d4"), looks := false }, kinds := [], alts := [], laidByText := true, laidKinds := [.data, .data, .data], laidTests := true, laidLooks := .later }
def PackSizesCardSaid : Prop := Claim7.holds Tryd.pinned (.plain (OpenSpec.ofChange packSizesSpec)) packSizesCard

/-- THE SECOND FORM's CARD OF 'woollaw.GammaSays'. -/
def gammaSaysUptoCard : Claim7 := { stood := { row := gammaSaysUptoRow, standIns := [], harness := (true, "8a5b6ef40017e40fbb071eab905bd56ab65b91f0c9be68859a3b3c619ccbb9d4"), looks := false }, kinds := [], alts := [], laidByText := true, laidKinds := [.data, .data, .data, .data, .pinned], laidTests := true, laidLooks := .later }
def GammaSaysUptoCardSaid : Prop := Claim7.holds Tryd.pinned (.plain (OpenSpec.upto gammaSaysSpec)) gammaSaysUptoCard

/-- THE SECOND FORM's CARD OF 'woollaw.PackSays'. -/
def packSaysUptoCard : Claim7 := { stood := { row := packSaysUptoRow, standIns := [], harness := (true, "8a5b6ef40017e40fbb071eab905bd56ab65b91f0c9be68859a3b3c619ccbb9d4"), looks := false }, kinds := [], alts := [], laidByText := true, laidKinds := [.data, .data, .data, .data, .pinned], laidTests := true, laidLooks := .later }
def PackSaysUptoCardSaid : Prop := Claim7.holds Tryd.pinned (.plain (OpenSpec.upto packSaysSpec)) packSaysUptoCard

/-- THE SECOND FORM's CARD OF 'woollaw.PackBytes'. -/
def packBytesUptoCard : Claim7 := { stood := { row := packBytesUptoRow, standIns := [], harness := (true, "8a5b6ef40017e40fbb071eab905bd56ab65b91f0c9be68859a3b3c619ccbb9d4"), looks := false }, kinds := [], alts := [], laidByText := true, laidKinds := [.data, .data, .data], laidTests := true, laidLooks := .later }
def PackBytesUptoCardSaid : Prop := Claim7.holds Tryd.pinned (.plain (OpenSpec.upto packBytesSpec)) packBytesUptoCard

/-- THE SECOND FORM's CARD OF 'woolkeep.GammaBack'. -/
def gammaBackUptoCard : Claim7 := { stood := { row := gammaBackUptoRow, standIns := [], harness := (true, "8a5b6ef40017e40fbb071eab905bd56ab65b91f0c9be68859a3b3c619ccbb9d4"), looks := false }, kinds := [], alts := [], laidByText := true, laidKinds := [.data, .data, .data, .data, .pinned], laidTests := true, laidLooks := .later }
def GammaBackUptoCardSaid : Prop := Claim7.holds Tryd.pinned (.plain (OpenSpec.upto gammaBackSpec)) gammaBackUptoCard

/-- THE SECOND FORM's CARD OF 'woolkeep.GammaPrefix'. -/
def gammaPrefixUptoCard : Claim7 := { stood := { row := gammaPrefixUptoRow, standIns := [], harness := (true, "8a5b6ef40017e40fbb071eab905bd56ab65b91f0c9be68859a3b3c619ccbb9d4"), looks := false }, kinds := [], alts := [], laidByText := true, laidKinds := [.data, .data, .data], laidTests := true, laidLooks := .later }
def GammaPrefixUptoCardSaid : Prop := Claim7.holds Tryd.pinned (.plain (OpenSpec.upto gammaPrefixSpec)) gammaPrefixUptoCard

/-- THE SECOND FORM's CARD OF 'woolkeep.PackBack'. -/
def packBackUptoCard : Claim7 := { stood := { row := packBackUptoRow, standIns := [], harness := (true, "8a5b6ef40017e40fbb071eab905bd56ab65b91f0c9be68859a3b3c619ccbb9d4"), looks := false }, kinds := [], alts := [], laidByText := true, laidKinds := [.data, .data, .data, .data, .pinned], laidTests := true, laidLooks := .later }
def PackBackUptoCardSaid : Prop := Claim7.holds Tryd.pinned (.plain (OpenSpec.upto packBackSpec)) packBackUptoCard

/-- THE SECOND FORM's CARD OF 'woolkeep.PackOne'. -/
def packOneUptoCard : Claim7 := { stood := { row := packOneUptoRow, standIns := [], harness := (true, "8a5b6ef40017e40fbb071eab905bd56ab65b91f0c9be68859a3b3c619ccbb9d4"), looks := false }, kinds := [], alts := [], laidByText := true, laidKinds := [.data, .data, .data, .data, .pinned], laidTests := true, laidLooks := .later }
def PackOneUptoCardSaid : Prop := Claim7.holds Tryd.pinned (.plain (OpenSpec.upto packOneSpec)) packOneUptoCard

/-- THE SECOND FORM's CARD OF 'woolkeep.GammaKraft'. -/
def gammaKraftUptoCard : Claim7 := { stood := { row := gammaKraftUptoRow, standIns := [], harness := (true, "8a5b6ef40017e40fbb071eab905bd56ab65b91f0c9be68859a3b3c619ccbb9d4"), looks := false }, kinds := [], alts := [], laidByText := true, laidKinds := [.data, .data, .data], laidTests := true, laidLooks := .later }
def GammaKraftUptoCardSaid : Prop := Claim7.holds Tryd.pinned (.plain (OpenSpec.upto gammaKraftSpec)) gammaKraftUptoCard

/-- THE SECOND FORM's CARD OF 'woolkeep.PackSizes'. -/
def packSizesUptoCard : Claim7 := { stood := { row := packSizesUptoRow, standIns := [], harness := (true, "8a5b6ef40017e40fbb071eab905bd56ab65b91f0c9be68859a3b3c619ccbb9d4"), looks := false }, kinds := [], alts := [], laidByText := true, laidKinds := [.data, .data, .data], laidTests := true, laidLooks := .later }
def PackSizesUptoCardSaid : Prop := Claim7.holds Tryd.pinned (.plain (OpenSpec.upto packSizesSpec)) packSizesUptoCard
end Rows
end Go.Proofs.YtjbedphofjdfkaaDoor
