/-
  From a row's list of variables to the one cell of the table deBruijn64tab that the walks read. Condition: the table stands first on the list.
-/
import Derived.Test.YtloiciinmdmdkaaGreatDoorRows
import Derived.Test.YtloiciinmdmdkaaGreatDoorFmt0
import Derived.Lib.LaidTab
namespace Go.Proofs.YtloiciinmdmdkaaGreatDoor
open Go.RowKit
open Go.Proofs

theorem gTab : Tryz.prog.globalNamed "math/bits.deBruijn64tab" = some 3 := by kernel_rfl
theorem gTabType : (Tryz.prog.globals[3]?).map (·.type) = some 127 := by kernel_rfl
theorem cellsTab : Tryz.prog.cellsOf 127 = 64 := by kernel_rfl
theorem cellsByte : Tryz.prog.cellsOf 5 = 1 := by kernel_rfl

def tab64 : List Int := [0, 1, 56, 2, 57, 49, 28, 3, 61, 58, 42, 50, 38, 29, 17, 4, 62, 47, 59, 36, 45, 43, 51, 22, 53, 39, 33, 30, 24, 18, 12, 5, 63, 55, 48, 27, 60, 41, 37, 16, 46, 35, 44, 21, 52, 32, 23, 11, 54, 26, 40, 15, 34, 20, 31, 10, 25, 14, 19, 9, 13, 8, 7, 6]

theorem tab_of {W : World} {rest : List (String × DataW Unit)} (h : laidMet Tryz.prog (("math/bits.deBruijn64tab", Rows.laid_math_bits_deBruijn64tab) :: rest) W) : Tab W := by
  have e : (Rows.laid_math_bits_deBruijn64tab : DataW Unit) = Lib.tabData .u8 tab64 := rfl
  rw [e] at h
  have hT := Lib.tabIs_of_head gTab gTabType Tryz.underlying127 Tryz.underlying5 cellsByte cellsTab h
  have hc : W.cell? ⟨3, 1, none⟩ = some (.int .u8 1) := hT.cell gTab 1 (by decide)
  refine ⟨hc, ?_⟩
  apply Nat.lt_of_not_le
  intro hge
  simp [World.cell?, Array.getElem?_eq_none hge] at hc

end Go.Proofs.YtloiciinmdmdkaaGreatDoor
