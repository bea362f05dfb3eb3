/-
  Slices of items of a bag: that read as a list of items (Items), and that the call owns (OItems); their cells. Conditions: as each says.
-/
import Derived.Test.YtabhalajelbfoaaBs
import Derived.Test.YtabhalajelbfoaaBagM
import Derived.Lib.SliceRun
import Derived.Maps.AppendAt
namespace Go.Proofs.Ytabhalajelbfoaa
open Go.RowKit
open Go.Proofs
open WoolBag

/-- an item's cells -/
def itC (x : Itm) : List Value := [.int .i64 x.s, .int .i64 x.n, .string (bs x.t), .int .i64 x.r]
/-- an item as a value -/
def itV (x : Itm) : Value := .agg #[.int .i64 x.s, .int .i64 x.n, .string (bs x.t), .int .i64 x.r]
/-- an identifier as a value -/
def idV (i : Bool × Int × Int) : Value := .agg #[.bool i.1, .int .i64 i.2.1, .int .i64 i.2.2]

/-- items as cells -/
def itL : List Itm → List Value
  | [] => []
  | x :: r => .int .i64 x.s :: .int .i64 x.n :: .string (bs x.t) :: .int .i64 x.r :: itL r

theorem itL_cons (x : Itm) (r : List Itm) : itL (x :: r) = itC x ++ itL r := rfl

theorem itL_append : ∀ a b : List Itm, itL (a ++ b) = itL a ++ itL b
  | [], _ => rfl
  | x :: r, b => by rw [List.cons_append, itL_cons, itL_cons, itL_append r b, List.append_assoc]

theorem itL_length : ∀ l : List Itm, (itL l).length = l.length * 4
  | [] => rfl
  | x :: r => by rw [itL_cons, List.length_append, itL_length r, List.length_cons]; unfold itC; simp; omega

theorem itL_take : ∀ (l : List Itm) (k : Nat), itL (l.take k) = (itL l).take (k * 4)
  | [], k => by simp [itL]
  | x :: r, 0 => by simp [itL]
  | x :: r, k + 1 => by
    rw [List.take_succ_cons, itL_cons, itL_cons, itL_take r k, List.take_append]
    have h4 : (itC x).length = 4 := rfl
    rw [h4, List.take_of_length_le (l := itC x) (by rw [h4]; omega), show (k + 1) * 4 - 4 = k * 4 by omega]

theorem itL_drop : ∀ (l : List Itm) (k : Nat), itL (l.drop k) = (itL l).drop (k * 4)
  | [], k => by simp [itL]
  | x :: r, 0 => by simp
  | x :: r, k + 1 => by
    rw [List.drop_succ_cons, itL_cons, itL_drop r k, List.drop_append]
    have h4 : (itC x).length = 4 := rfl
    rw [h4, List.drop_of_length_le (l := itC x) (by rw [h4]; omega), show (k + 1) * 4 - 4 = k * 4 by omega, List.nil_append]

theorem itL_get : ∀ (l : List Itm) (k : Nat) (h : k < l.length), (itL l)[k * 4]? = some (.int .i64 l[k].s) ∧ (itL l)[k * 4 + 1]? = some (.int .i64 l[k].n) ∧ (itL l)[k * 4 + 2]? = some (.string (bs l[k].t)) ∧ (itL l)[k * 4 + 3]? = some (.int .i64 l[k].r)
  | [], k, h => by simp at h
  | x :: r, 0, h => ⟨rfl, rfl, rfl, rfl⟩
  | x :: r, k + 1, h => by
    have ih := itL_get r k (by rw [List.length_cons] at h; omega)
    unfold itL
    rw [show (k + 1) * 4 = k * 4 + 1 + 1 + 1 + 1 by omega, show k * 4 + 1 + 1 + 1 + 1 + 1 = (k * 4 + 1) + 1 + 1 + 1 + 1 by omega, show k * 4 + 1 + 1 + 1 + 1 + 2 = (k * 4 + 2) + 1 + 1 + 1 + 1 by omega, show k * 4 + 1 + 1 + 1 + 1 + 3 = (k * 4 + 3) + 1 + 1 + 1 + 1 by omega]
    simp only [List.getElem?_cons_succ, List.getElem_cons_succ]
    exact ih

theorem itL_one : ∀ (l : List Itm), ∀ u ∈ itL l, u.oneCell' = true
  | [], u, h => by simp [itL] at h
  | x :: r, u, h => by
    rw [itL_cons, List.mem_append] at h
    rcases h with h | h
    · unfold itC at h
      simp at h
      rcases h with rfl | rfl | rfl | rfl <;> rfl
    · exact itL_one r u h

/-- the cell of one field, set -/
theorem itL_set : ∀ (l : List Itm) (k : Nat) (_ : k < l.length) (y : Itm), itL (l.set k y) = (itL l).take (k * 4) ++ (itC y ++ (itL l).drop (k * 4 + 4))
  | [], k, h, _ => by simp at h
  | x :: r, 0, h, y => by simp [itL_cons, itL, itC]
  | x :: r, k + 1, h, y => by
    rw [List.set_cons_succ, itL_cons, itL_set r k (by simpa using h) y, itL_cons, List.take_append, List.drop_append]
    have h4 : (itC x).length = 4 := rfl
    rw [h4, List.take_of_length_le (l := itC x) (by rw [h4]; omega), List.drop_of_length_le (l := itC x) (by rw [h4]; omega), show (k + 1) * 4 - 4 = k * 4 by omega, show (k + 1) * 4 + 4 - 4 = k * 4 + 4 by omega, List.nil_append, List.append_assoc]

theorem itInfo : (Try.prog.info? 43).map (fun i => (i.zero, i.size, i.bytes)) = some (some (.agg #[.int .i64 0, .int .i64 0, .string ⟨#[]⟩, .int .i64 0]), 4, 40) := by kernel_rfl

/-- a slice that reads as items -/
def Items (w : World) (v : Value) (l : List Itm) : Prop :=
  ∃ o c, v = .slice o l.length c ∧ l.length ≤ c ∧ c ≤ maxLen ∧ (l = [] ∨ ∃ b off, o = some ⟨b, off, none⟩ ∧ ∀ k (h : k < l.length),
    w.cell? ⟨b, off + k * 4, none⟩ = some (.int .i64 l[k].s) ∧ w.cell? ⟨b, off + k * 4 + 1, none⟩ = some (.int .i64 l[k].n) ∧ w.cell? ⟨b, off + k * 4 + 2, none⟩ = some (.string (bs l[k].t)) ∧ w.cell? ⟨b, off + k * 4 + 3, none⟩ = some (.int .i64 l[k].r))

theorem Items.below {w w' : World} {n : Nat} {v : Value} {l : List Itm} (h : Items w v l) (hu : Below n w w') (hn : ∀ b, v.ownBlock = some b → b < n) : Items w' v l := by
  obtain ⟨o, c, rfl, h2, h3, h4⟩ := h
  refine ⟨o, c, rfl, h2, h3, ?_⟩
  rcases h4 with h4 | ⟨b, off, rfl, h6⟩
  · exact .inl h4
  · refine .inr ⟨b, off, rfl, fun k hk => ?_⟩
    have hb : b < n := hn b rfl
    obtain ⟨a1, a2, a3, a4⟩ := h6 k hk
    exact ⟨(hu.cell (p := ⟨b, _, none⟩) hb).trans a1, (hu.cell (p := ⟨b, _, none⟩) hb).trans a2, (hu.cell (p := ⟨b, _, none⟩) hb).trans a3, (hu.cell (p := ⟨b, _, none⟩) hb).trans a4⟩

theorem Items.up {w w' : World} {v : Value} {l : List Itm} (h : Items w v l) (hu : Up w w') : Items w' v l := by
  obtain ⟨o, c, h1, h2, h3, h4⟩ := h
  refine ⟨o, c, h1, h2, h3, ?_⟩
  rcases h4 with h4 | ⟨b, off, h5, h6⟩
  · exact .inl h4
  · refine .inr ⟨b, off, h5, fun k hk => ?_⟩
    obtain ⟨a1, a2, a3, a4⟩ := h6 k hk
    exact ⟨(hu.cell (World.block_lt_of_cell? w _ a1)).trans a1, (hu.cell (World.block_lt_of_cell? w _ a2)).trans a2, (hu.cell (World.block_lt_of_cell? w _ a3)).trans a3, (hu.cell (World.block_lt_of_cell? w _ a4)).trans a4⟩

theorem Items.slice {w : World} {v : Value} {l : List Itm} (h : Items w v l) : ∃ o c, v = .slice o l.length c ∧ c ≤ maxLen := by
  obtain ⟨o, c, h1, _, h3, _⟩ := h
  exact ⟨o, c, h1, h3⟩

theorem Items.nil (w : World) : Items w (.slice none 0 0) [] := ⟨none, 0, rfl, Nat.le_refl _, by unfold maxLen; omega, .inl rfl⟩

/-- the items ahead of a place -/
theorem Items.front {w : World} {o : Option Addr} {n c : Nat} {l : List Itm} (h : Items w (.slice o n c) l) (k : Nat) (hk : k ≤ l.length) : Items w (.slice o k c) (l.take k) := by
  obtain ⟨o', c', h1, h2, h3, h4⟩ := h
  simp only [Value.slice.injEq] at h1
  obtain ⟨rfl, rfl, rfl⟩ := h1
  have hlen : (l.take k).length = k := by rw [List.length_take]; omega
  refine ⟨o, c, by rw [hlen], by omega, h3, ?_⟩
  rcases h4 with h4 | ⟨b, off, h5, h6⟩
  · left; rw [h4]; simp
  · right
    refine ⟨b, off, h5, fun j hj => ?_⟩
    rw [hlen] at hj
    rw [List.getElem_take]
    exact h6 j (by omega)

/-- a slice of items of the call's own -/
def OItems (w : World) (base : Nat) (v : Value) (l : List Itm) : Prop := w.ownsRow base 43 4 v l.length (itL l)

theorem OItems.items {w : World} {base : Nat} {v : Value} {l : List Itm} (h : OItems w base v l) : Items w v l := by
  have h' := h
  rcases h.2 with ⟨rfl, h0⟩ | ⟨g, cap, cur, rfl, _, _, h3, h4, _⟩
  · have : l = [] := List.eq_nil_of_length_eq_zero h0
    subst this
    exact Items.nil w
  · refine ⟨_, cap, rfl, h3, h4, .inr ⟨g, 0, rfl, fun k hk => ?_⟩⟩
    obtain ⟨a1, a2, a3, a4⟩ := itL_get l k hk
    have hc : ∀ j, j < l.length * 4 → w.cell? ⟨g, j, none⟩ = (itL l)[j]? := fun j hj => World.ownsRow.cellAt h' j (by omega)
    refine ⟨?_, ?_, ?_, ?_⟩
    · rw [Nat.zero_add]; exact (hc _ (by omega)).trans a1
    · rw [Nat.zero_add]; exact (hc _ (by omega)).trans a2
    · rw [Nat.zero_add]; exact (hc _ (by omega)).trans a3
    · rw [Nat.zero_add]; exact (hc _ (by omega)).trans a4

theorem OItems.below {w w' : World} {base n : Nat} {v : Value} {l : List Itm} (h : OItems w base v l) (hu : Below n w w') (hn : ∀ b, v.ownBlock = some b → b < n) : OItems w' base v l := by
  refine ⟨h.1, ?_⟩
  rcases h.2 with h | ⟨g, cap, cur, rfl, h2, h3, h4⟩
  · exact .inl h
  · refine .inr ⟨g, cap, cur, rfl, h2, ?_, h4⟩
    rw [← h3]; exact hu.block g (hn g rfl)

theorem OItems.up {w w' : World} {base : Nat} {v : Value} {l : List Itm} (h : OItems w base v l) (hu : Up w w') : OItems w' base v l :=
  h.below hu (fun b hb => (World.ownsRow.lt h b hb).2)

theorem OItems.base {w : World} {base base' : Nat} {v : Value} {l : List Itm} (h : OItems w base v l) (hb : base' ≤ base) : OItems w base' v l := by
  refine ⟨h.1, ?_⟩
  rcases h.2 with h | ⟨g, cap, cur, h1, h2, h3⟩
  · exact .inl h
  · exact .inr ⟨g, cap, cur, h1, by omega, h3⟩

theorem OItems.nil (w : World) (base : Nat) : OItems w base (.slice none 0 0) [] := World.ownsRow_nil w base _ _

end Go.Proofs.Ytabhalajelbfoaa
