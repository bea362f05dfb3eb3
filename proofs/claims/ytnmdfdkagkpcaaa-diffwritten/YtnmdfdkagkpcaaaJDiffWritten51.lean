/-
  slices.Contains of a number in a slice of numbers only reads. Conditions: a slice of the call's own.
-/
import Derived.Test.YtnmdfdkagkpcaaaJDiffWritten47
import Derived.Deep.QuietTactic
import Derived.BigQuiet
namespace Go.Proofs.Ytnmdfdkagkpcaaa
open Go.RowKit
open Go.Proofs

def IdxQRel (l : List Int) (z : Int) (w : World) (i : Value) (wr : World) : Prop :=
  ∃ k : Nat, k ≤ l.length ∧ i = .int .i64 k ∧ (∃ m, wr = w.drewN m) ∧ ∀ j (h : j < l.length), j < k → l[j] ≠ z

def IdxQPost (l : List Int) (z : Int) (w : World) (e : Ending) (w' : World) : Prop := ∃ r : Int, e = .returned (.int .i64 r) ∧ decide (0 ≤ r) = l.contains z ∧ ∃ m, w' = w.drewN m

set_option maxRecDepth 100000 in
set_option maxHeartbeats 400000 in
theorem indexQ (v : Value) (base : Nat) (l : List Int) (z : Int) (w : World) (h : OInts w base v l) :
    Calls Try.prog 45 #[v, .int .i64 z] w (IdxQPost l z w) := by
  obtain ⟨o, c, rfl, h2, h3, h4⟩ := h.shape
  unfold maxLen at h3
  have H4 := Lib.hid h4
  clear h4 h
  go_enter Try.func45, Try.ntmps45
  go_wp2_with fail
  go_loopw [5, 8] (fun _ i wr => IdxQRel l z w i wr) (fun _ i _ => l.length - (intOf i).toNat)
  case atStart => exact ⟨0, Nat.zero_le _, rfl, ⟨0, rfl⟩, fun j _ hj => by omega⟩
  case round =>
    obtain ⟨k, hk, rfl, ⟨m, rfl⟩, hno⟩ := hrel
    have HN := Lib.hid hno
    clear hno
    by_cases hlt : k < l.length
    · rcases H4.out with h5 | ⟨g, rfl, h5⟩
      · rw [h5] at hlt; simp at hlt
      · have a1 := h5 k hlt
        have d1 : decide (k < l.length) = true := decide_eq_true hlt
        obtain ⟨y, hy⟩ : ∃ y, l[k] = y := ⟨_, rfl⟩
        rw [hy] at a1
        simp only [Nat.zero_add, Nat.mul_one] at a1
        have HY := Lib.hid hy
        clear h5 hy
        by_cases e : z = y
        · subst e
          go_wp2_with fail
          all_goals try go_quiet (fail)
          all_goals
            go_wp2_with fail
            go_ret
            refine ⟨(k : Int), rfl, ?_, by first | exact ⟨_, rfl⟩ | exact ⟨_, World.drewN_drewN⟩⟩
            have hc : l.contains z = true := List.contains_iff_mem.2 (by rw [← HY.out]; exact List.getElem_mem hlt)
            rw [hc]
            simp
        · have e1 : (z == y) = false := by simpa using e
          have e2 : (y == z) = false := by simpa using fun h => e h.symm
          have HE := Lib.hid e
          clear e
          go_wp2_with fail
          all_goals try go_quiet (fail)
          all_goals
            go_wp2_with fail
            go_roundw
            case rel =>
              refine ⟨k + 1, by omega, by go_num, by first | exact ⟨_, rfl⟩ | exact ⟨_, World.drewN_drewN⟩, fun j hj hjk => ?_⟩
              by_cases ej : j = k
              · subst ej; rw [HY.out]; exact fun h => HE.out h.symm
              · exact HN.out j hj (by omega)
            case measure => simp only [intOf]; omega
    · have d1 : decide (k < l.length) = false := decide_eq_false hlt
      go_wp2_with fail
      go_ret
      refine ⟨-1, rfl, ?_, ⟨m, rfl⟩⟩
      have hc : l.contains z = false := by
        rw [Bool.eq_false_iff]
        intro h
        obtain ⟨i, hi, e⟩ := List.getElem_of_mem (List.contains_iff_mem.1 h)
        exact HN.out i hi (by omega) e
      rw [hc]; rfl

set_option maxRecDepth 100000 in
theorem containsQ (v : Value) (base : Nat) (l : List Int) (z : Int) (w : World) (h : OInts w base v l) :
    Calls Try.prog 17 #[v, .int .i64 z] w fun e w' => e = .returned (.bool (l.contains z)) ∧ ∃ m, w' = w.drewN m := by
  obtain ⟨o, c, hv, _⟩ := h.shape
  have hcall := indexQ v base l z w h
  generalize hq : l.contains z = q at hcall ⊢
  have HQ := Lib.hid hq
  subst hv
  clear h hq
  go_enter Try.func17, Try.ntmps17
  go_wp2_with fail
  refine hcall.mono ?_
  rintro e w1 ⟨r, rfl, hr, m, rfl⟩
  rw [HQ.out] at hr
  have HR := Lib.hid hr
  clear hr
  go_wp2_with fail
  go_ret
  exact ⟨by rw [← HR.out]; rfl, m, rfl⟩

end Go.Proofs.Ytnmdfdkagkpcaaa
