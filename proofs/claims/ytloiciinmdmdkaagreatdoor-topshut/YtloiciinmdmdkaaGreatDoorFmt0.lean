/-
  What math/bits.TrailingZeros answers at 2, and internal/strconv.isPowerOfTwo at 2. Condition: one cell of the table deBruijn64tab (Tab).
-/
import Derived.Test.YtloiciinmdmdkaaGreatDoorUp
import Derived.IntWalk
import Derived.Lib.BitFns
namespace Go.Proofs.YtloiciinmdmdkaaGreatDoor
open Go.RowKit
open Go.Proofs

/-- the one cell of the table that is read -/
def Tab (w : World) : Prop := w.cell? ⟨3, 1, none⟩ = some (.int .u8 1) ∧ 3 < w.heap.size

theorem Tab.up {w w' : World} (h : Tab w) (u : Up w w') : Tab w' :=
  ⟨(Below.cell u (p := ⟨3, 1, none⟩) h.2).trans h.1, Nat.lt_of_lt_of_le h.2 u.size⟩

theorem tz64_two (w : World) (hT : Tab w) : Calls Tryz.prog 124 #[.int .u64 2] w fun e w' => e = .returned (.int .i64 1) ∧ w = w' := by
  have hc := hT.1
  have h1 : bits BinOp.and IntKind.u64 2 (IntKind.u64.wrap (-2)) = 2 := by decide +kernel
  have h2 : IntKind.u64.wrap (2 * 285870213051353865) = 571740426102707730 := by decide +kernel
  have h3 : (571740426102707730 : Int) / 288230376151711744 = 1 := by decide +kernel
  go_enter Tryz.func124, Tryz.ntmps124
  go_wp2
  go_ret
  exact ⟨rfl, rfl⟩

theorem tz_two (w : World) (hT : Tab w) : Calls Tryz.prog 119 #[.int .u64 2] w fun e w' => e = .returned (.int .i64 1) ∧ w = w' := by
  go_enter Tryz.func119, Tryz.ntmps119
  go_wp2_with (go_at_call 124; refine (tz64_two _ hT).mono ?_; rintro e w' ⟨rfl, rfl⟩)
  go_ret
  exact ⟨rfl, rfl⟩

theorem pow2_two (w : World) : Calls Tryz.prog 118 #[.int .i64 2] w fun e w' => e = .returned (.bool true) ∧ w = w' := by
  go_enter Tryz.func118, Tryz.ntmps118
  go_wp2
  go_ret
  exact ⟨rfl, rfl⟩

end Go.Proofs.YtloiciinmdmdkaaGreatDoor
