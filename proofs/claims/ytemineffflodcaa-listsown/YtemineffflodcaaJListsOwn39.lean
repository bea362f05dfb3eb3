/-
  Slices of tokens that the call owns; slices.Equal of two rows of tokens that read alike. Conditions: as each says.
-/
import Derived.Test.YtemineffflodcaaJListsOwn38
import Derived.Deep.QuietTactic
import Derived.BigQuiet
namespace Go.Proofs.Ytemineffflodcaa
open Go.RowKit
open Go.Proofs
open WoolLz

/-- tokens as cells -/
def tokL : List Tok → List Value
  | [] => []
  | t :: r => .int .i64 t.d :: .int .i64 t.l :: .int .i64 t.b :: tokL r

theorem tokL_snoc (t : Tok) : ∀ l : List Tok, tokL (l ++ [t]) = tokL l ++ [.int .i64 t.d, .int .i64 t.l, .int .i64 t.b]
  | [] => rfl
  | x :: r => by rw [List.cons_append]; unfold tokL; rw [tokL_snoc t r]; rfl

theorem tokL_length : ∀ l : List Tok, (tokL l).length = l.length * 3
  | [] => rfl
  | x :: r => by unfold tokL; rw [List.length_cons, List.length_cons, List.length_cons, tokL_length r, List.length_cons]; omega

theorem tokL_get : ∀ (l : List Tok) (k : Nat) (h : k < l.length), (tokL l)[k * 3]? = some (.int .i64 l[k].d) ∧ (tokL l)[k * 3 + 1]? = some (.int .i64 l[k].l) ∧ (tokL l)[k * 3 + 2]? = some (.int .i64 l[k].b)
  | [], k, h => by simp at h
  | x :: r, 0, h => ⟨rfl, rfl, rfl⟩
  | x :: r, k + 1, h => by
    have ih := tokL_get r k (by rw [List.length_cons] at h; omega)
    unfold tokL
    rw [show (k + 1) * 3 = k * 3 + 1 + 1 + 1 by omega, show k * 3 + 1 + 1 + 1 + 1 = (k * 3 + 1) + 1 + 1 + 1 by omega, show k * 3 + 1 + 1 + 1 + 2 = (k * 3 + 2) + 1 + 1 + 1 by omega]
    simp only [List.getElem?_cons_succ, List.getElem_cons_succ]
    exact ih

theorem tokInfo : (Try.prog.info? 49).map (fun i => (i.zero, i.size, i.bytes)) = some (some (.agg #[.int .i64 0, .int .i64 0, .int .i64 0]), 3, 24) := by kernel_rfl

/-- a slice of tokens of the call's own -/
def OToks (w : World) (base : Nat) (v : Value) (l : List Tok) : Prop := w.ownsRow base 49 3 v l.length (tokL l)

theorem OToks.toks {w : World} {base : Nat} {v : Value} {l : List Tok} (h : OToks w base v l) : Toks w v l := by
  have h' := h
  rcases h.2 with ⟨rfl, h0⟩ | ⟨g, cap, cur, rfl, _, _, h3, h4, _⟩
  · have : l = [] := List.eq_nil_of_length_eq_zero h0
    subst this
    exact ⟨none, 0, rfl, Nat.le_refl _, by unfold maxLen; omega, .inl rfl⟩
  · refine ⟨_, cap, rfl, h3, h4, .inr ⟨g, 0, rfl, fun k hk => ?_⟩⟩
    obtain ⟨a1, a2, a3⟩ := tokL_get l k hk
    have hc : ∀ j, j < l.length * 3 → w.cell? ⟨g, j, none⟩ = (tokL l)[j]? := fun j hj => World.ownsRow.cellAt h' j (by omega)
    refine ⟨?_, ?_, ?_⟩
    · rw [Nat.zero_add]; exact (hc _ (by omega)).trans a1
    · rw [Nat.zero_add]; exact (hc _ (by omega)).trans a2
    · rw [Nat.zero_add]; exact (hc _ (by omega)).trans a3

theorem OToks.up {w w' : World} {base : Nat} {v : Value} {l : List Tok} (h : OToks w base v l) (hu : Up w w') : OToks w' base v l := by
  refine ⟨h.1, ?_⟩
  rcases h.2 with h | ⟨g, cap, cur, h1, h2, h3, h4⟩
  · exact .inl h
  · refine .inr ⟨g, cap, cur, h1, h2, ?_, h4⟩
    have hg : g < w.heap.size := by
      rcases Nat.lt_or_ge g w.heap.size with hlt | hge
      · exact hlt
      · rw [Array.getElem?_eq_none hge] at h3; cases h3
    rw [← h3]; exact hu.block g hg

theorem cell_three_new (w : World) (x y z : Value) (t : TypeId) : ∀ j u, [x, y, z][j]? = some u → (w.alloc (.cells #[x, y, z] t)).cell? ((⟨w.heap.size, 0, none⟩ : Addr).add j) = some u := by
  intro j u hj
  have e : (⟨w.heap.size, 0, none⟩ : Addr).add j = ⟨w.heap.size, j, none⟩ := by
    unfold Addr.add
    split
    · rename_i h; subst h; rfl
    · simp
  rw [e, cell_of_row _ _ j _ _ _ (heap_alloc_new w _), ← hj]
  simp

theorem OToks.more {w wr w3 : World} {v v' : Value} {l : List Tok} {t : Tok} {o : Obj} (hu : Up w wr) (h : OToks wr w.heap.size v l)
    (hown : w3.ownsRow w.heap.size 49 3 v' (l.length + 1) (tokL l ++ [.int .i64 t.d, .int .i64 t.l, .int .i64 t.b])) (hg : (wr.alloc o).grownBy w3 v.ownBlock) : OToks w3 w.heap.size v' (l ++ [t]) ∧ Up w w3 := by
  refine ⟨?_, grown_below (hu.trans (Up.alloc _ _)) (by have := hu.size; simp; omega) (World.ownsRow.alloc h _) hg⟩
  unfold OToks
  rw [tokL_snoc, List.length_append]
  exact hown

/-- tokens that were just laid -/
theorem Toks.laid (w : World) (l : List Tok) (hl : l.length ≤ 1000) : Toks (w.alloc (.cells (tokL l).toArray 49)) (.slice (some ⟨w.heap.size, 0, none⟩) l.length l.length) l := by
  refine ⟨_, _, rfl, Nat.le_refl _, by unfold maxLen; omega, .inr ⟨w.heap.size, 0, rfl, fun k hk => ?_⟩⟩
  obtain ⟨a1, a2, a3⟩ := tokL_get l k hk
  have hc : ∀ j, (w.alloc (.cells (tokL l).toArray 49)).cell? ⟨w.heap.size, j, none⟩ = (tokL l)[j]? := fun j => by
    rw [cell_of_row _ _ j _ _ _ (heap_alloc_new w _), List.getElem?_toArray]
  refine ⟨?_, ?_, ?_⟩
  · rw [Nat.zero_add, hc]; exact a1
  · rw [Nat.zero_add, hc]; exact a2
  · rw [Nat.zero_add, hc]; exact a3

def TEqRel (N : Nat) (w : World) (i : Value) (wr : World) : Prop := ∃ k : Nat, k ≤ N ∧ i = .int .i64 k ∧ Up w wr

set_option maxRecDepth 100000 in
set_option maxHeartbeats 400000 in
theorem equalT_yes (v1 v2 : Value) (l : List Tok) (w : World) (h1 : Toks w v1 l) (h2 : Toks w v2 l) :
    Calls Try.prog 23 #[v1, v2] w fun e w' => e = .returned (.bool true) ∧ Up w w' := by
  obtain ⟨o1, c1, rfl, p1, p2, p3⟩ := h1
  obtain ⟨o2, c2, rfl, q1, q2, q3⟩ := h2
  have HP := Lib.hid p3
  have HQ := Lib.hid q3
  unfold maxLen at p2 q2
  clear p3 q3
  go_enter Try.func23, Try.ntmps23
  go_wp2_with fail
  go_loopw [13] (fun i wr => TEqRel l.length w i wr) (fun i _ => l.length - (intOf i).toNat)
  case atStart => exact ⟨0, Nat.zero_le _, rfl, Up.refl w⟩
  case round =>
    obtain ⟨k, hk, rfl, hu⟩ := hrel
    by_cases hlt : k < l.length
    · rcases HP.out with h5 | ⟨b, off, rfl, h5⟩
      · rw [h5] at hlt; simp at hlt
      · rcases HQ.out with h6 | ⟨b', off', rfl, h6⟩
        · rw [h6] at hlt; simp at hlt
        · obtain ⟨e1, e2, e3⟩ := h5 k hlt
          rw [← hu.cell (World.block_lt_of_cell? w _ e1)] at e1
          rw [← hu.cell (World.block_lt_of_cell? w _ e2)] at e2
          rw [← hu.cell (World.block_lt_of_cell? w _ e3)] at e3
          obtain ⟨f1, f2, f3⟩ := h6 k hlt
          rw [← hu.cell (World.block_lt_of_cell? w _ f1)] at f1
          rw [← hu.cell (World.block_lt_of_cell? w _ f2)] at f2
          rw [← hu.cell (World.block_lt_of_cell? w _ f3)] at f3
          obtain ⟨⟨td, tl, tb⟩, ht⟩ : ∃ t, l[k] = t := ⟨_, rfl⟩
          rw [ht] at e1 e2 e3 f1 f2 f3
          have HU := Lib.hid hu
          have d1 : decide (k < l.length) = true := decide_eq_true hlt
          clear h5 h6 ht hu
          go_wp2_with fail
          go_quiet (fail)
          go_wp2_with fail
          go_roundw
          case rel => exact ⟨k + 1, by omega, by go_num, HU.out.trans (Up.drewN _ _)⟩
          case measure => simp only [intOf]; omega
    · have d1 : decide (k < l.length) = false := decide_eq_false hlt
      go_wp2_with fail
      go_ret
      exact ⟨rfl, hu⟩

end Go.Proofs.Ytemineffflodcaa
