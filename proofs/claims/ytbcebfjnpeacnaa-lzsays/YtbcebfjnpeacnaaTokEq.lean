/-
  What slices.Equal returns at two rows of tokens that read alike: true. Conditions: both rows can be read.
-/
import Derived.Test.YtbcebfjnpeacnaaLzP
namespace Go.Proofs.Ytbcebfjnpeacnaa
open Go.RowKit
open Go.Proofs
open WoolLz

/-- tokens that were just laid -/
theorem Toks.laid (w : World) (l : List Tok) (hl : l.length ≤ 1000) : Toks (w.alloc (.cells (tokL l).toArray 33)) (.slice (some ⟨w.heap.size, 0, none⟩) l.length l.length) l := by
  refine ⟨_, _, rfl, Nat.le_refl _, by unfold maxLen; omega, .inr ⟨w.heap.size, 0, rfl, fun k hk => ?_⟩⟩
  obtain ⟨a1, a2, a3⟩ := tokL_get l k hk
  have hc : ∀ j, (w.alloc (.cells (tokL l).toArray 33)).cell? ⟨w.heap.size, j, none⟩ = (tokL l)[j]? := fun j => by
    rw [cell_of_row _ _ j _ _ _ (heap_alloc_new w _), List.getElem?_toArray]
  refine ⟨?_, ?_, ?_⟩
  · rw [Nat.zero_add, hc]; exact a1
  · rw [Nat.zero_add, hc]; exact a2
  · rw [Nat.zero_add, hc]; exact a3

def TEqRel (N : Nat) (w : World) (i : Value) (wr : World) : Prop := ∃ k : Nat, k ≤ N ∧ i = .int .i64 k ∧ Up w wr

set_option maxRecDepth 100000 in
set_option maxHeartbeats 400000 in
theorem equalT_yes (v1 v2 : Value) (l : List Tok) (w : World) (h1 : Toks w v1 l) (h2 : Toks w v2 l) :
    Calls Try.prog 15 #[v1, v2] w fun e w' => e = .returned (.bool true) ∧ Up w w' := by
  obtain ⟨o1, c1, rfl, p1, p2, p3⟩ := h1
  obtain ⟨o2, c2, rfl, q1, q2, q3⟩ := h2
  have HP := Lib.hid p3
  have HQ := Lib.hid q3
  unfold maxLen at p2 q2
  clear p3 q3
  go_enter Try.func15, Try.ntmps15
  go_wp2_with fail
  go_loopw [13] (fun i wr => TEqRel l.length w i wr) (fun i _ => l.length - (intOf i).toNat)
  case atStart => exact ⟨0, Nat.zero_le _, rfl, Up.refl w⟩
  case round =>
    obtain ⟨k, hk, rfl, hu⟩ := hrel
    by_cases hlt : k < l.length
    · rcases HP.out with h5 | ⟨b, off, rfl, h5⟩
      · rw [h5] at hlt; simp at hlt
      · rcases HQ.out with h6 | ⟨b', off', rfl, h6⟩
        · rw [h6] at hlt; simp at hlt
        · obtain ⟨e1, e2, e3⟩ := h5 k hlt
          rw [← hu.cell (World.block_lt_of_cell? w _ e1)] at e1
          rw [← hu.cell (World.block_lt_of_cell? w _ e2)] at e2
          rw [← hu.cell (World.block_lt_of_cell? w _ e3)] at e3
          obtain ⟨f1, f2, f3⟩ := h6 k hlt
          rw [← hu.cell (World.block_lt_of_cell? w _ f1)] at f1
          rw [← hu.cell (World.block_lt_of_cell? w _ f2)] at f2
          rw [← hu.cell (World.block_lt_of_cell? w _ f3)] at f3
          obtain ⟨⟨td, tl, tb⟩, ht⟩ : ∃ t, l[k] = t := ⟨_, rfl⟩
          rw [ht] at e1 e2 e3 f1 f2 f3
          have HU := Lib.hid hu
          have d1 : decide (k < l.length) = true := decide_eq_true hlt
          clear h5 h6 ht hu
          go_wp2_with fail
          go_quiet (fail)
          go_wp2_with fail
          go_roundw
          case rel => exact ⟨k + 1, by omega, by go_num, HU.out.trans (Up.drewN _ _)⟩
          case measure => simp only [intOf]; omega
    · have d1 : decide (k < l.length) = false := decide_eq_false hlt
      go_wp2_with fail
      go_ret
      exact ⟨rfl, hu⟩

end Go.Proofs.Ytbcebfjnpeacnaa
