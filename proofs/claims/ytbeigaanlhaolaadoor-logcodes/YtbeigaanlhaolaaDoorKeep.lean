/-
  What the laws' small helpers Within and less return: a number below the bound, for every int. Conditions: the bound is at least 1 (less: at most 62 bits).
-/
import Derived.Test.YtbeigaanlhaolaaDoorPoly2
import Derived.Test.YtbeigaanlhaolaaDoorWithin
namespace Go.Proofs.YtbeigaanlhaolaaDoor
open Go.RowKit
open Go.Proofs

/-! ytbeigaanlhaolaadoor# the contracts at natural numbers -/

/-- ten (nine) errors that are none, in a row of the law's own -/
theorem zeros10 (w : World) (t : TypeId) (k : Nat) (h : k < 10) :
    (w.alloc (.cells #[.int .i64 0, .int .i64 0, .int .i64 0, .int .i64 0, .int .i64 0, .int .i64 0, .int .i64 0, .int .i64 0, .int .i64 0, .int .i64 0] t)).cell? ⟨w.heap.size, k, none⟩ = some (.int .i64 0) := by
  match k, h with
  | 0, _ => go_simp
  | 1, _ => go_simp
  | 2, _ => go_simp
  | 3, _ => go_simp
  | 4, _ => go_simp
  | 5, _ => go_simp
  | 6, _ => go_simp
  | 7, _ => go_simp
  | 8, _ => go_simp
  | 9, _ => go_simp

theorem zeros9 (w : World) (t : TypeId) (k : Nat) (h : k < 9) :
    (w.alloc (.cells #[.int .i64 0, .int .i64 0, .int .i64 0, .int .i64 0, .int .i64 0, .int .i64 0, .int .i64 0, .int .i64 0, .int .i64 0] t)).cell? ⟨w.heap.size, k, none⟩ = some (.int .i64 0) := by
  match k, h with
  | 0, _ => go_simp
  | 1, _ => go_simp
  | 2, _ => go_simp
  | 3, _ => go_simp
  | 4, _ => go_simp
  | 5, _ => go_simp
  | 6, _ => go_simp
  | 7, _ => go_simp
  | 8, _ => go_simp

end Go.Proofs.YtbeigaanlhaolaaDoor
