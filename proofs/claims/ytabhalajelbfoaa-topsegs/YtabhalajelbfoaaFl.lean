/-
  Lists of elements of several cells each, as rows of cells; slices that read as such rows (Sl), rows that are known whole (RowC). Conditions: as each says.
-/
import Derived.Test.YtabhalajelbfoaaBs
import Derived.Lib.SliceRun
import Derived.Maps.AppendAt
namespace Go.Proofs.Ytabhalajelbfoaa
open Go.RowKit
open Go.Proofs

/-- elements as cells -/
def fl {α : Type} (f : α → List Value) : List α → List Value
  | [] => []
  | x :: r => f x ++ fl f r

section
variable {α : Type} {f : α → List Value} {m : Nat}

theorem fl_append : ∀ a b : List α, fl f (a ++ b) = fl f a ++ fl f b
  | [], _ => rfl
  | x :: r, b => by rw [List.cons_append]; show f x ++ fl f (r ++ b) = f x ++ fl f r ++ fl f b; rw [fl_append r b, List.append_assoc]

theorem fl_length (hf : ∀ x, (f x).length = m) : ∀ l : List α, (fl f l).length = l.length * m
  | [] => by simp [fl]
  | x :: r => by show (f x ++ fl f r).length = _; rw [List.length_append, fl_length hf r, List.length_cons, hf, Nat.add_mul]; omega

theorem fl_take (hf : ∀ x, (f x).length = m) : ∀ (l : List α) (k : Nat), fl f (l.take k) = (fl f l).take (k * m)
  | [], k => by simp [fl]
  | x :: r, 0 => by simp [fl]
  | x :: r, k + 1 => by
    show f x ++ fl f (r.take k) = (f x ++ fl f r).take ((k + 1) * m)
    have e : (k + 1) * m = m + k * m := by rw [Nat.add_mul]; omega
    rw [fl_take hf r k, List.take_append, hf, List.take_of_length_le (l := f x) (by rw [hf, e]; omega), e, Nat.add_sub_cancel_left]

theorem fl_drop (hf : ∀ x, (f x).length = m) : ∀ (l : List α) (k : Nat), fl f (l.drop k) = (fl f l).drop (k * m)
  | [], k => by simp [fl]
  | x :: r, 0 => by simp
  | x :: r, k + 1 => by
    show fl f (r.drop k) = (f x ++ fl f r).drop ((k + 1) * m)
    have e : (k + 1) * m = m + k * m := by rw [Nat.add_mul]; omega
    rw [fl_drop hf r k, List.drop_append, hf, List.drop_of_length_le (l := f x) (by rw [hf, e]; omega), e, Nat.add_sub_cancel_left, List.nil_append]

theorem fl_get (hf : ∀ x, (f x).length = m) : ∀ (l : List α) (k : Nat) (h : k < l.length) (j : Nat) (_ : j < m), (fl f l)[k * m + j]? = (f l[k])[j]?
  | [], k, h, _, _ => by simp at h
  | x :: r, 0, h, j, hj => by
    show (f x ++ fl f r)[0 * m + j]? = (f x)[j]?
    rw [Nat.zero_mul, Nat.zero_add, List.getElem?_append_left (by rw [hf]; exact hj)]
  | x :: r, k + 1, h, j, hj => by
    have hk : k < r.length := by simpa using h
    show (f x ++ fl f r)[(k + 1) * m + j]? = (f r[k])[j]?
    have e : (k + 1) * m + j = m + (k * m + j) := by rw [Nat.add_mul]; omega
    rw [e, List.getElem?_append_right (by rw [hf]; omega), hf, Nat.add_sub_cancel_left]
    exact fl_get hf r k hk j hj

theorem fl_one (h1 : ∀ x, ∀ u ∈ f x, u.oneCell' = true) : ∀ (l : List α), ∀ u ∈ fl f l, u.oneCell' = true
  | [], u, h => by simp [fl] at h
  | x :: r, u, h => by
    change u ∈ f x ++ fl f r at h
    rw [List.mem_append] at h
    rcases h with h | h
    · exact h1 x u h
    · exact fl_one h1 r u h

theorem fl_set (hf : ∀ x, (f x).length = m) (l : List α) (k : Nat) (h : k < l.length) (y : α) : fl f (l.set k y) = (fl f l).take (k * m) ++ (f y ++ (fl f l).drop (k * m + m)) := by
  have e : l.set k y = l.take k ++ y :: l.drop (k + 1) := by rw [List.set_eq_take_append_cons_drop, if_pos h]
  have e2 : k * m + m = (k + 1) * m := by rw [Nat.add_mul]; omega
  rw [e, fl_append, fl_take hf, e2]
  show _ ++ (f y ++ fl f (l.drop (k + 1))) = _
  rw [fl_drop hf]

end

/-- a slice that reads as n elements of m cells each -/
def Sl (w : World) (m : Nat) (v : Value) (n : Nat) (L : List Value) : Prop :=
  L.length = n * m ∧ ∃ o c, v = .slice o n c ∧ n ≤ c ∧ c ≤ maxLen ∧ (n = 0 ∨ ∃ b off, o = some ⟨b, off, none⟩ ∧ ∀ (j : Nat) (u : Value), L[j]? = some u → w.cell? ⟨b, off + j, none⟩ = some u)

theorem Sl.below {w w' : World} {m n N : Nat} {v : Value} {L : List Value} (h : Sl w m v n L) (hu : Below N w w') (hn : ∀ b, v.ownBlock = some b → b < N) : Sl w' m v n L := by
  obtain ⟨h0, o, c, rfl, h2, h3, h4⟩ := h
  refine ⟨h0, o, c, rfl, h2, h3, ?_⟩
  rcases h4 with h4 | ⟨b, off, rfl, h6⟩
  · exact .inl h4
  · exact .inr ⟨b, off, rfl, fun j u hj => (hu.cell (p := ⟨b, _, none⟩) (hn b rfl)).trans (h6 j u hj)⟩

theorem Sl.up {w w' : World} {m n : Nat} {v : Value} {L : List Value} (h : Sl w m v n L) (hu : Up w w') : Sl w' m v n L := by
  obtain ⟨h0, o, c, h1, h2, h3, h4⟩ := h
  refine ⟨h0, o, c, h1, h2, h3, ?_⟩
  rcases h4 with h4 | ⟨b, off, h5, h6⟩
  · exact .inl h4
  · exact .inr ⟨b, off, h5, fun j u hj => (hu.cell (World.block_lt_of_cell? w _ (h6 j u hj))).trans (h6 j u hj)⟩

/-- kept by whatever leaves its block as it is -/
theorem Sl.kept {w w' : World} {m n : Nat} {v : Value} {L : List Value} {row : Option Nat} (h : Sl w m v n L) (hg : w.grownBy w' row) (hne : ∀ b, v.ownBlock = some b → row ≠ some b) : Sl w' m v n L := by
  obtain ⟨h0, o, c, rfl, h2, h3, h4⟩ := h
  refine ⟨h0, o, c, rfl, h2, h3, ?_⟩
  rcases h4 with h4 | ⟨b, off, rfl, h6⟩
  · exact .inl h4
  · refine .inr ⟨b, off, rfl, fun j u hj => ?_⟩
    have hc := h6 j u hj
    have hlt := World.block_lt_of_cell? w _ hc
    have hb := hg.block b hlt (fun e => hne b rfl e.symm)
    unfold World.cell? at hc ⊢
    rw [hb]; exact hc

theorem Sl.nil (w : World) (m : Nat) : Sl w m (.slice none 0 0) 0 [] := ⟨by simp, none, 0, rfl, Nat.le_refl _, by unfold maxLen; omega, .inl rfl⟩

theorem Sl.slice {w : World} {m n : Nat} {v : Value} {L : List Value} (h : Sl w m v n L) : ∃ o c, v = .slice o n c ∧ n ≤ c ∧ c ≤ maxLen := by
  obtain ⟨_, o, c, h1, h2, h3, _⟩ := h
  exact ⟨o, c, h1, h2, h3⟩

theorem Sl.cells {w : World} {m n : Nat} {o : Option Addr} {n' c : Nat} {L : List Value} (h : Sl w m (.slice o n' c) n L) (hne : n ≠ 0) : ∃ b off, o = some ⟨b, off, none⟩ ∧ ∀ (j : Nat) (u : Value), L[j]? = some u → w.cell? ⟨b, off + j, none⟩ = some u := by
  obtain ⟨_, o', c', h1, _, _, h4⟩ := h
  cases h1
  exact h4.resolve_left hne

theorem Sl.of_own {w : World} {base e m n : Nat} {v : Value} {L : List Value} (h : w.ownsRow base e m v n L) : Sl w m v n L := by
  refine ⟨h.1, ?_⟩
  rcases h.2 with ⟨rfl, h0⟩ | ⟨g, cap, cur, rfl, _, h2, h3, h4, h5, h6⟩
  · subst h0; exact ⟨none, 0, rfl, Nat.le_refl _, by unfold maxLen; omega, .inl rfl⟩
  · refine ⟨_, cap, rfl, h3, h4, .inr ⟨g, 0, rfl, fun j u hj => ?_⟩⟩
    have hlt : j < n * m := by rw [← h.1]; exact (List.getElem?_eq_some_iff.1 hj).1
    rw [Nat.zero_add, cell_of_row _ _ j _ _ _ h2]
    rw [← h6, List.getElem?_take_of_lt hlt] at hj
    rw [← hj]; simp

/-- a block that is a row of cells, known whole -/
def RowC (w : World) (g : Nat) (T : TypeId) (L : List Value) : Prop := w.heap[g]? = some (.cells L.toArray T (0, 0))

theorem RowC.lt {w : World} {g T : Nat} {L : List Value} (h : RowC w g T L) : g < w.heap.size := (Array.getElem?_eq_some_iff.1 h).1
theorem RowC.at {w : World} {g T : Nat} {L : List Value} (h : RowC w g T L) (j : Nat) : w.cell? ⟨g, j, none⟩ = L[j]? := by
  rw [cell_of_row _ _ j _ _ _ h, List.getElem?_toArray]
theorem RowC.cell {w : World} {g T : Nat} {L : List Value} {j : Nat} {v : Value} (h : RowC w g T L) (hj : L[j]? = some v) : w.cell? ⟨g, j, none⟩ = some v := (h.at j).trans hj
theorem RowC.frozen {w : World} {g T : Nat} {L : List Value} (h : RowC w g T L) (j : Nat) : w.frozen? ⟨g, j, none⟩ = false := by
  unfold RowC at h; simp [World.frozen?, h]
theorem RowC.set {w : World} {g T : Nat} {L : List Value} (h : RowC w g T L) (j : Nat) (v : Value) : RowC (w.setCell ⟨g, j, none⟩ v) g T (L.set j v) := by
  unfold RowC at h ⊢
  simp [World.setCell, Array.getElem?_modify, h]
theorem RowC.other {w : World} {g T g' : Nat} {L : List Value} (h : RowC w g T L) (hne : g ≠ g') (j : Nat) (v : Value) : RowC (w.setCell ⟨g', j, none⟩ v) g T L := by
  unfold RowC at h ⊢
  simp [World.setCell, Array.getElem?_modify, h, Ne.symm hne]
theorem RowC.below {w w' : World} {g T n : Nat} {L : List Value} (h : RowC w g T L) (hb : Below n w w') (hg : g < n) : RowC w' g T L := (hb.block g hg).trans h
theorem RowC.up {w w' : World} {g T : Nat} {L : List Value} (h : RowC w g T L) (hb : Up w w') : RowC w' g T L := h.below hb h.lt
theorem RowC.kept {w w' : World} {g T : Nat} {L : List Value} {row : Option Nat} (h : RowC w g T L) (hg : w.grownBy w' row) (hne : row ≠ some g) : RowC w' g T L := (hg.block g h.lt (fun e => hne e.symm)).trans h
theorem RowC.apart {w : World} {g T g' T' : Nat} {L L' : List Value} (h : RowC w g T L) (h' : RowC w g' T' L') (hne : T ≠ T') : g ≠ g' := by
  rintro rfl
  unfold RowC at h h'
  rw [h] at h'
  simp at h'
  exact hne h'.2

theorem own_mk {w : World} {base g T m n cap : Nat} {L sp : List Value} (hb : base ≤ g) (h : RowC w g T (L ++ sp)) (h0 : L.length = n * m) (h1 : n ≤ cap) (h2 : cap ≤ maxLen) (h3 : n * m + sp.length = cap * m) :
    w.ownsRow base T m (.slice (some ⟨g, 0, none⟩) n cap) n L := by
  refine ⟨h0, .inr ⟨g, cap, (L ++ sp).toArray, rfl, hb, h, h1, h2, ?_, ?_⟩⟩
  · rw [List.size_toArray, List.length_append, h0]; exact h3
  · rw [← h0]; simp

theorem own_row {w : World} {base T m n : Nat} {v : Value} {L : List Value} (h : w.ownsRow base T m v n L) :
    (v = .slice none 0 0 ∧ n = 0 ∧ L = []) ∨ ∃ g cap sp, v = .slice (some ⟨g, 0, none⟩) n cap ∧ base ≤ g ∧ RowC w g T (L ++ sp) ∧ n ≤ cap ∧ cap ≤ maxLen ∧ n * m + sp.length = cap * m := by
  have h0 := h.1
  rcases h.2 with ⟨h1, h2⟩ | ⟨g, cap, cur, h1, h2, h3, h4, h5, h6, h7⟩
  · subst h2; exact .inl ⟨h1, rfl, List.eq_nil_of_length_eq_zero (by simpa using h0)⟩
  · refine .inr ⟨g, cap, cur.toList.drop (n * m), h1, h2, ?_, h4, h5, ?_⟩
    · unfold RowC
      rw [h3, ← h7, List.take_append_drop]
    · have hs : cur.toList.length = cur.size := Array.length_toList
      have hm : n * m ≤ cap * m := Nat.mul_le_mul_right m h4
      rw [List.length_drop, hs, h6]
      omega

end Go.Proofs.Ytabhalajelbfoaa
