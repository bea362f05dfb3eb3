/-
  Slices of ints that the call owns; what slices.Contains (of ints) returns of them. Conditions: as each says.
-/
import Derived.Test.YtnmdfdkagkpcaaaJDiffCopies24
namespace Go.Proofs.Ytnmdfdkagkpcaaa
open Go.RowKit
open Go.Proofs

def inL (l : List Int) : List Value := l.map (Value.int .i64)
theorem inL_length (l : List Int) : (inL l).length = l.length := List.length_map _
theorem inL_one (l : List Int) : ∀ u ∈ inL l, u.oneCell' = true := by
  intro u hu
  obtain ⟨x, _, rfl⟩ := List.mem_map.1 hu
  rfl

theorem inInfo : ∃ i, Try.prog.info? 3 = some i ∧ i.zero = some (.int .i64 0) ∧ i.size = 1 ∧ i.bytes = 8 := by
  have h : (Try.prog.info? 3).map (fun i => (i.zero, i.size, i.bytes)) = some (some (.int .i64 0), 1, 8) := by kernel_rfl
  cases hq : Try.prog.info? 3 with
  | none => rw [hq] at h; cases h
  | some i =>
    rw [hq] at h
    simp only [Option.map_some, Option.some.injEq, Prod.mk.injEq] at h
    exact ⟨i, rfl, h.1, h.2.1, h.2.2⟩

/-- a slice of ints of the call's own -/
def OInts (w : World) (base : Nat) (v : Value) (l : List Int) : Prop := w.ownsRow base 3 1 v l.length (inL l)

theorem OInts.nil (w : World) (base : Nat) : OInts w base (.slice none 0 0) [] := World.ownsRow_nil _ _ _ _
theorem OInts.keep {w w' : World} {base : Nat} {v : Value} {l : List Int} (h : OInts w base v l) (hu : ∀ b, v.ownBlock = some b → w'.heap[b]? = w.heap[b]?) : OInts w' base v l := by
  refine ⟨h.1, ?_⟩
  rcases h.2 with h | ⟨g, cap, cur, rfl, h2, h3, h4⟩
  · exact .inl h
  · exact .inr ⟨g, cap, cur, rfl, h2, (hu g rfl).trans h3, h4⟩
theorem OInts.up {w w' : World} {base : Nat} {v : Value} {l : List Int} (h : OInts w base v l) (hu : Up w w') : OInts w' base v l :=
  h.keep fun b hb => hu.block b (World.ownsRow.lt h b hb).2
theorem OInts.shape {w : World} {base : Nat} {v : Value} {l : List Int} (h : OInts w base v l) : ∃ o c, v = .slice o l.length c ∧ l.length ≤ c ∧ c ≤ maxLen ∧ (l = [] ∨ ∃ g, o = some ⟨g, 0, none⟩ ∧ ∀ k (hk : k < l.length), w.cell? ⟨g, 0 + k * 1, none⟩ = some (.int .i64 l[k])) := by
  have h' := h
  rcases h.2 with ⟨rfl, h0⟩ | ⟨g, cap, cur, rfl, _, _, h3, h4, _⟩
  · have : l = [] := List.eq_nil_of_length_eq_zero h0
    subst this
    exact ⟨none, 0, rfl, Nat.le_refl _, by unfold maxLen; omega, .inl rfl⟩
  · refine ⟨_, cap, rfl, h3, h4, .inr ⟨g, rfl, fun k hk => ?_⟩⟩
    have := World.ownsRow.cellAt h' k (by omega)
    rw [Nat.zero_add, Nat.mul_one, this]
    unfold inL
    rw [List.getElem?_map, List.getElem?_eq_getElem hk]
    rfl

def IdxIRel (l : List Int) (z : Int) (w : World) (i : Value) (wr : World) : Prop :=
  ∃ k : Nat, k ≤ l.length ∧ i = .int .i64 k ∧ Up w wr ∧ ∀ j (h : j < l.length), j < k → l[j] ≠ z

/-- what slices.Index says of whether it is there -/
def IdxIPost (l : List Int) (z : Int) (w : World) (e : Ending) (w' : World) : Prop := ∃ r : Int, e = .returned (.int .i64 r) ∧ decide (0 ≤ r) = l.contains z ∧ Up w w'

set_option maxRecDepth 100000 in
set_option maxHeartbeats 400000 in
theorem indexInt (v : Value) (base : Nat) (l : List Int) (z : Int) (w : World) (h : OInts w base v l) :
    Calls Try.prog 45 #[v, .int .i64 z] w (IdxIPost l z w) := by
  obtain ⟨o, c, rfl, h2, h3, h4⟩ := h.shape
  unfold maxLen at h3
  have H4 := Lib.hid h4
  clear h4 h
  go_enter Try.func45, Try.ntmps45
  go_wp2_with fail
  go_loopw [5, 8] (fun _ i wr => IdxIRel l z w i wr) (fun _ i _ => l.length - (intOf i).toNat)
  case atStart => exact ⟨0, Nat.zero_le _, rfl, Up.refl w, fun j _ hj => by omega⟩
  case round =>
    obtain ⟨k, hk, rfl, hu, hno⟩ := hrel
    have HN := Lib.hid hno
    clear hno
    by_cases hlt : k < l.length
    · rcases H4.out with h5 | ⟨g, rfl, h5⟩
      · rw [h5] at hlt; simp at hlt
      · have a1 := h5 k hlt
        rw [← hu.cell (World.block_lt_of_cell? w _ a1)] at a1
        have d1 : decide (k < l.length) = true := decide_eq_true hlt
        obtain ⟨y, hy⟩ : ∃ y, l[k] = y := ⟨_, rfl⟩
        rw [hy] at a1
        simp only [Nat.zero_add, Nat.mul_one] at a1
        have HY := Lib.hid hy
        have HU := Lib.hid hu
        clear h5 hy hu
        by_cases e : z = y
        · subst e
          go_wp2_with fail
          all_goals try go_quiet (fail)
          all_goals
            go_wp2_with fail
            go_ret
            refine ⟨(k : Int), rfl, ?_, by first | exact HU.out | exact HU.out.trans (Up.drewN _ _)⟩
            have hc : l.contains z = true := List.contains_iff_mem.2 (by rw [← HY.out]; exact List.getElem_mem hlt)
            rw [hc]
            simp
        · have e1 : (z == y) = false := by simpa using e
          have e2 : (y == z) = false := by simpa using fun h => e h.symm
          have HE := Lib.hid e
          clear e
          go_wp2_with fail
          all_goals try go_quiet (fail)
          all_goals
            go_wp2_with fail
            go_roundw
            case rel =>
              refine ⟨k + 1, by omega, by go_num, by first | exact HU.out | exact HU.out.trans (Up.drewN _ _), fun j hj hjk => ?_⟩
              by_cases ej : j = k
              · subst ej; rw [HY.out]; exact fun h => HE.out h.symm
              · exact HN.out j hj (by omega)
            case measure => simp only [intOf]; omega
    · have d1 : decide (k < l.length) = false := decide_eq_false hlt
      have HU := Lib.hid hu
      clear hu
      go_wp2_with fail
      go_ret
      refine ⟨-1, rfl, ?_, HU.out⟩
      have hc : l.contains z = false := by
        rw [Bool.eq_false_iff]
        intro h
        obtain ⟨i, hi, e⟩ := List.getElem_of_mem (List.contains_iff_mem.1 h)
        exact HN.out i hi (by omega) e
      rw [hc]; rfl

set_option maxRecDepth 100000 in
theorem containsInt (v : Value) (base : Nat) (l : List Int) (z : Int) (w : World) (h : OInts w base v l) :
    Calls Try.prog 17 #[v, .int .i64 z] w fun e w' => e = .returned (.bool (l.contains z)) ∧ Up w w' := by
  obtain ⟨o, c, hv, _⟩ := h.shape
  have hcall := indexInt v base l z w h
  generalize hq : l.contains z = q at hcall ⊢
  have HQ := Lib.hid hq
  subst hv
  clear h hq
  go_enter Try.func17, Try.ntmps17
  go_wp2_with fail
  refine hcall.mono ?_
  rintro e w1 ⟨r, rfl, hr, u1⟩
  rw [HQ.out] at hr
  have HR := Lib.hid hr
  clear hr
  go_wp2_with fail
  go_ret
  exact ⟨by rw [← HR.out]; rfl, u1⟩

end Go.Proofs.Ytnmdfdkagkpcaaa
