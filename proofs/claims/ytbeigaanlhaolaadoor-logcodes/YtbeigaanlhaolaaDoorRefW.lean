/-
  What the reference's within returns, for every three ints. No condition.
-/
import Derived.Test.YtbeigaanlhaolaaDoorUp
namespace Go.Proofs.YtbeigaanlhaolaaDoor
open Go.RowKit
open Go.Proofs

theorem refWithin_yes (x a b : Int) (w : World) (h1 : a ≤ x) (h2 : x ≤ b) :
    Calls Tryd.prog 11 #[.int .i64 x, .int .i64 a, .int .i64 b] w fun e w' => e = .returned (.bool true) ∧ w = w' := by
  have d1 : decide (a ≤ x) = true := by rw [decide_eq_true_iff]; omega
  have d2 : decide (x ≤ b) = true := by rw [decide_eq_true_iff]; omega
  go_enter Tryd.func11, Tryd.ntmps11
  go_wp2
  go_ret
  exact ⟨rfl, rfl⟩

theorem refWithin_no (x a b : Int) (w : World) (h : x < a ∨ b < x) :
    Calls Tryd.prog 11 #[.int .i64 x, .int .i64 a, .int .i64 b] w fun e w' => e = .returned (.bool false) ∧ w = w' := by
  by_cases h1 : a ≤ x
  · have d1 : decide (a ≤ x) = true := by rw [decide_eq_true_iff]; omega
    have d2 : decide (x ≤ b) = false := by rw [decide_eq_false_iff_not]; omega
    clear h
    go_enter Tryd.func11, Tryd.ntmps11
    go_wp2
    go_ret
    exact ⟨rfl, rfl⟩
  · have d1 : decide (a ≤ x) = false := by rw [decide_eq_false_iff_not]; omega
    clear h
    go_enter Tryd.func11, Tryd.ntmps11
    go_wp2
    go_ret
    exact ⟨rfl, rfl⟩

end Go.Proofs.YtbeigaanlhaolaaDoor
