/-
  What math/bits.TrailingZeros answers at 2, and internal/strconv.isPowerOfTwo at 2. Condition: one cell of the table deBruijn64tab (Tab).
-/
import Derived.Test.YtjbedphofjdfkaaDoorUp
import Derived.IntWalk
import Derived.Lib.BitFns
namespace Go.Proofs.YtjbedphofjdfkaaDoor
open Go.RowKit
open Go.Proofs

/-- the one cell of the table that is read -/
def Tab (w : World) : Prop := w.cell? ⟨5, 1, none⟩ = some (.int .u8 1) ∧ 5 < w.heap.size

theorem Tab.up {w w' : World} (h : Tab w) (u : Up w w') : Tab w' :=
  ⟨(Below.cell u (p := ⟨5, 1, none⟩) h.2).trans h.1, Nat.lt_of_lt_of_le h.2 u.size⟩

theorem tz64_two (w : World) (hT : Tab w) : Calls Tryd.prog 112 #[.int .u64 2] w fun e w' => e = .returned (.int .i64 1) ∧ w = w' := by
  have hc := hT.1
  have h1 : bits BinOp.and IntKind.u64 2 (IntKind.u64.wrap (-2)) = 2 := by decide +kernel
  have h2 : IntKind.u64.wrap (2 * 285870213051353865) = 571740426102707730 := by decide +kernel
  have h3 : (571740426102707730 : Int) / 288230376151711744 = 1 := by decide +kernel
  go_enter Tryd.func112, Tryd.ntmps112
  go_wp2
  go_ret
  exact ⟨rfl, rfl⟩

theorem tz_two (w : World) (hT : Tab w) : Calls Tryd.prog 108 #[.int .u64 2] w fun e w' => e = .returned (.int .i64 1) ∧ w = w' := by
  go_enter Tryd.func108, Tryd.ntmps108
  go_wp2_with (go_at_call 112; refine (tz64_two _ hT).mono ?_; rintro e w' ⟨rfl, rfl⟩)
  go_ret
  exact ⟨rfl, rfl⟩

theorem pow2_two (w : World) : Calls Tryd.prog 107 #[.int .i64 2] w fun e w' => e = .returned (.bool true) ∧ w = w' := by
  go_enter Tryd.func107, Tryd.ntmps107
  go_wp2
  go_ret
  exact ⟨rfl, rfl⟩

end Go.Proofs.YtjbedphofjdfkaaDoor
