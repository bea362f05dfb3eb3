/-
  What the reference's Token returns: is it a token. Conditions: none.
-/
import Derived.Test.YtloiciinmdmdkaaGreatDoorRefW
import Derived.Test.YtloiciinmdmdkaaGreatDoorLz3
namespace Go.Proofs.YtloiciinmdmdkaaGreatDoor
open Go.RowKit
open Go.Proofs
open WoolLz

set_option maxRecDepth 100000 in
set_option maxHeartbeats 400000 in
theorem refToken_any (d l b : Int) (w : World) :
    Calls Tryz.prog 45 #[.agg #[.int .i64 d, .int .i64 l, .int .i64 b]] w fun e w' => e = .returned (.bool (litB ⟨d, l, b⟩ || copB ⟨d, l, b⟩)) ∧ Up w w' := by
  generalize hB : (litB ⟨d, l, b⟩ || copB ⟨d, l, b⟩) = B
  unfold litB copB at hB
  have hB' : (decide (l = 0 ∧ d = 0 ∧ 0 ≤ b ∧ b ≤ 255) || decide (1 ≤ l ∧ l ≤ 64 ∧ 1 ≤ d ∧ d ≤ 256 ∧ b = 0)) = B := hB
  clear hB
  have no : ∀ p q : Prop, [Decidable p] → [Decidable q] → ¬ p → ¬ q → (decide p || decide q) = false := by
    intro p q _ _ hp hq
    rw [decide_eq_false hp, decide_eq_false hq]; rfl
  by_cases h1 : l = 0
  · have g1 : (l == 0) = true := by rw [beq_iff_eq]; exact h1
    by_cases h2 : d = 0
    · have g2 : (d == 0) = true := by rw [beq_iff_eq]; exact h2
      by_cases h3 : 0 ≤ b ∧ b ≤ 255
      · obtain rfl : true = B := by rw [← hB', decide_eq_true ⟨h1, h2, h3⟩]; rfl
        obtain ⟨h3a, h3b⟩ := h3
        clear hB' h1 h2 no
        go_enter Tryz.func45, Tryz.ntmps45
        go_wp2_with fail
        refine (refWithin_yes b 0 255 _ h3a h3b).mono ?_
        rintro e w' ⟨rfl, rfl⟩
        go_wp2_with fail
        go_ret
        exact ⟨rfl, Up.alloc _ _⟩
      · obtain rfl : false = B := by rw [← hB', no _ _ (by omega) (by omega)]
        have H3 := Lib.hid (show b < 0 ∨ 255 < b by omega)
        clear hB' h1 h2 h3 no
        go_enter Tryz.func45, Tryz.ntmps45
        go_wp2_with fail
        refine (refWithin_no b 0 255 _ H3.out).mono ?_
        rintro e w' ⟨rfl, rfl⟩
        go_wp2_with fail
        go_ret
        exact ⟨rfl, Up.alloc _ _⟩
    · have g2 : (d == 0) = false := by rw [beq_eq_false_iff_ne]; exact h2
      obtain rfl : false = B := by rw [← hB', no _ _ (by omega) (by omega)]
      clear hB' h1 h2 no
      go_enter Tryz.func45, Tryz.ntmps45
      go_wp2_with fail
      go_ret
      exact ⟨rfl, Up.alloc _ _⟩
  · have g1 : (l == 0) = false := by rw [beq_eq_false_iff_ne]; exact h1
    by_cases h2 : 1 ≤ l ∧ l ≤ 64
    · obtain ⟨h2a, h2b⟩ := h2
      by_cases h3 : 1 ≤ d ∧ d ≤ 256
      · obtain ⟨h3a, h3b⟩ := h3
        obtain rfl : (b == 0) = B := by
          rw [← hB', decide_eq_false (show ¬ (l = 0 ∧ d = 0 ∧ 0 ≤ b ∧ b ≤ 255) by omega), Bool.false_or, Bool.eq_iff_iff, decide_eq_true_iff, beq_iff_eq]
          omega
        clear hB' h1 no
        go_enter Tryz.func45, Tryz.ntmps45
        go_wp2_with fail
        refine (refWithin_yes l 1 64 _ h2a h2b).mono ?_
        rintro e w' ⟨rfl, rfl⟩
        go_wp2_with fail
        refine (refWithin_yes d 1 256 _ h3a h3b).mono ?_
        rintro e w' ⟨rfl, rfl⟩
        go_wp2_with fail
        go_ret
        exact ⟨rfl, Up.alloc _ _⟩
      · obtain rfl : false = B := by rw [← hB', no _ _ (by omega) (by omega)]
        have H3 := Lib.hid (show d < 1 ∨ 256 < d by omega)
        clear hB' h1 h3 no
        go_enter Tryz.func45, Tryz.ntmps45
        go_wp2_with fail
        refine (refWithin_yes l 1 64 _ h2a h2b).mono ?_
        rintro e w' ⟨rfl, rfl⟩
        go_wp2_with fail
        refine (refWithin_no d 1 256 _ H3.out).mono ?_
        rintro e w' ⟨rfl, rfl⟩
        go_wp2_with fail
        go_ret
        exact ⟨rfl, Up.alloc _ _⟩
    · obtain rfl : false = B := by rw [← hB', no _ _ (by omega) (by omega)]
      have H2 := Lib.hid (show l < 1 ∨ 64 < l by omega)
      clear hB' h1 h2 no
      go_enter Tryz.func45, Tryz.ntmps45
      go_wp2_with fail
      refine (refWithin_no l 1 64 _ H2.out).mono ?_
      rintro e w' ⟨rfl, rfl⟩
      go_wp2_with fail
      go_ret
      exact ⟨rfl, Up.alloc _ _⟩

end Go.Proofs.YtloiciinmdmdkaaGreatDoor
