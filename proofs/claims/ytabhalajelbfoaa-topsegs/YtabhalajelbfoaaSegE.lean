/-
  What add of package seg returns: a record more at the end of segments of the call's own. Conditions: right records, segments whose sizes fit.
-/
import Derived.Test.YtabhalajelbfoaaSegD
namespace Go.Proofs.Ytabhalajelbfoaa
open Go.RowKit
open Go.Proofs
open WoolBag
open WoolSeg

/-- a new row of one record -/
theorem recs_new (w : World) (r : Rc) : ORecs (w.alloc (.cells (rcC r).toArray 36)) w.heap.size (.slice (some ⟨w.heap.size, 0, none⟩) 1 1) [r] := by
  have h : RowC (w.alloc (.cells (rcC r).toArray 36)) w.heap.size 36 (rcC r) := heap_alloc_new w _
  have := own_mk (m := 4) (n := 1) (cap := 1) (L := rcC r) (sp := []) (Nat.le_refl w.heap.size) (by rw [List.append_nil]; exact h) (by rw [rcC_len]) (Nat.le_refl _) (by unfold maxLen; omega) (by simp)
  have e : fl rcC [r] = rcC r := List.append_nil _
  unfold ORecs
  rw [e]
  exact this

/-- one of the segments grew, and stands in its place -/
theorem OSl.grow {w w4 : World} {base ba n c k : Nat} {o : Option Addr} {C : List Value} {l : List (List Rc)} {u : Value} {s : List Rc} (h1 : OSl w ba (.slice o n c) C) (h2 : OSr w base C l) (hk : k < l.length)
    (hown : ORecs w4 base u s) (hg : w.grownBy w4 (C[k]'(by have := h2.len; omega)).ownBlock) (hat : u.ownBlock = (C[k]'(by have := h2.len; omega)).ownBlock ∨ ∃ b, u.ownBlock = some b ∧ w.heap.size ≤ b) :
    ∃ g, o = some ⟨g, 0, none⟩ ∧ ba ≤ g ∧ w4.frozen? ⟨g, k, none⟩ = false ∧ w4.cell? ⟨g, k, none⟩ = some (C[k]'(by have := h2.len; omega)) ∧ OSl (w4.setCell ⟨g, k, none⟩ u) ba (.slice o n c) (C.set k u) ∧ OSr (w4.setCell ⟨g, k, none⟩ u) base (C.set k u) (l.set k s) := by
  have hlen := h2.len
  have hkC : k < C.length := by omega
  rcases own_row h1 with ⟨_, h3, _⟩ | ⟨g, cap, sp, hv, hgb, hrow, hc1, hc2, hc3⟩
  · omega
  simp only [Value.slice.injEq] at hv
  obtain ⟨rfl, rfl, rfl⟩ := hv
  have hap : ∀ b, (C[k]'(by omega)).ownBlock = some b → b ≠ g := fun b hb e => own_apartS (h2.own k hk) hrow rec_ne_seg (by rw [hb, e])
  have hrow4 : RowC w4 g 45 (C ++ sp) := hrow.kept hg (fun e => hap g e rfl)
  have hu : u.ownBlock ≠ some g := by
    rcases hat with e | ⟨b, e, hb'⟩
    · rw [e]; exact fun e2 => hap g e2 rfl
    · rw [e]
      intro e2
      cases e2
      have := hrow.lt
      omega
  refine ⟨g, rfl, hgb, hrow4.frozen k, ?_, ?_, ?_⟩
  · refine hrow4.cell ?_
    rw [List.getElem?_append_left hkC, List.getElem?_eq_getElem hkC]
  · have hr := hrow4.set k u
    rw [List.set_append_left _ _ hkC] at hr
    have := own_mk (m := 1) (n := C.length) hgb hr (by rw [Nat.mul_one, List.length_set]) hc1 hc2 hc3
    unfold OSl
    rw [List.length_set]
    exact this
  · have hset : ∀ {n : Nat} {v : Value} {L : List Value}, w4.ownsRow base 36 4 v n L → v.ownBlock ≠ some g → (w4.setCell ⟨g, k, none⟩ u).ownsRow base 36 4 v n L := fun ho hne => own_setS ho hne
    refine ⟨by rw [List.length_set, List.length_set]; exact hlen, fun j hj => ?_, fun j i hj hi b hne hb1 => ?_⟩
    · rw [List.length_set] at hj
      by_cases e : j = k
      · subst e
        rw [List.getElem_set_self, List.getElem_set_self]
        exact hset hown hu
      · rw [List.getElem_set_ne (Ne.symm e), List.getElem_set_ne (Ne.symm e)]
        refine hset (own_grownS (h2.own j hj) hg fun b hb2 e2 => ?_) (own_apartS (h2.own j hj) hrow rec_ne_seg)
        exact h2.apart j k hj hk b e hb2 e2
    · have hj2 : j < l.length := by rw [List.length_set] at hj; exact hj
      have hi2 : i < l.length := by rw [List.length_set] at hi; exact hi
      have hlt : ∀ i (hi : i < l.length) b, (C[i]'(by omega)).ownBlock = some b → b < w.heap.size := fun i hi b hb => (World.ownsRow.lt (h2.own i hi) b hb).2
      by_cases e : j = k
      · subst e
        rw [List.getElem_set_self] at hb1
        rw [List.getElem_set_ne hne]
        intro hb2
        rcases hat with e2 | ⟨b', e2, hb'⟩
        · rw [e2] at hb1; exact h2.apart j i hj2 hi2 b hne hb1 hb2
        · rw [e2] at hb1; cases hb1
          have := hlt i hi2 b hb2
          omega
      · rw [List.getElem_set_ne (Ne.symm e)] at hb1
        by_cases e3 : i = k
        · subst e3
          rw [List.getElem_set_self]
          intro hb2
          rcases hat with e2 | ⟨b', e2, hb'⟩
          · rw [e2] at hb2; exact h2.apart j i hj2 hi2 b hne hb1 hb2
          · rw [e2] at hb2; cases hb2
            have := hlt j hj2 b hb1
            omega
        · rw [List.getElem_set_ne (Ne.symm e3)]
          exact h2.apart j i hj2 hi2 b hne hb1

theorem OSgs.grow {w w4 : World} {base n c k : Nat} {o : Option Addr} {C : List Value} {l : List (List Rc)} {u : Value} {s : List Rc} (h1 : OSl w base (.slice o n c) C) (h2 : OSr w base C l) (hk : k < l.length)
    (hown : ORecs w4 base u s) (hg : w.grownBy w4 (C[k]'(by have := h2.len; omega)).ownBlock) (hat : u.ownBlock = (C[k]'(by have := h2.len; omega)).ownBlock ∨ ∃ b, u.ownBlock = some b ∧ w.heap.size ≤ b) :
    ∃ g, o = some ⟨g, 0, none⟩ ∧ base ≤ g ∧ w4.frozen? ⟨g, k, none⟩ = false ∧ w4.cell? ⟨g, k, none⟩ = some (C[k]'(by have := h2.len; omega)) ∧ OSgs (w4.setCell ⟨g, k, none⟩ u) base (.slice o n c) (l.set k s) := by
  obtain ⟨g, e1, e2, e3, e4, e5, e6⟩ := OSl.grow h1 h2 hk hown hg hat
  exact ⟨g, e1, e2, e3, e4, _, e5, e6⟩

/-- a segment more -/
theorem OSgs.more {w w4 : World} {base : Nat} {v v' : Value} {C : List Value} {l : List (List Rc)} {u : Value} {s : List Rc} (h1 : OSl w base v C) (h2 : OSr w base C l) (hu : ORecs w base u s) (hnew : ∀ k (h : k < l.length) b, (C[k]'(by have := h2.len; omega)).ownBlock = some b → u.ownBlock ≠ some b)
    (hg : w.grownBy w4 v.ownBlock) (hown : w4.ownsRow base 45 1 v' (C.length + 1) (C ++ [u])) : OSgs w4 base v' (l ++ [s]) := by
  have hlen := h2.len
  have hk : ∀ {x : Value} {t : List Rc}, ORecs w base x t → ORecs w4 base x t := fun h => own_grownS h hg (fun b hb e => by
    rcases own_row h1 with ⟨rfl, _⟩ | ⟨g, cap, sp, rfl, _, hrow, _⟩
    · cases e
    · have : g = b := by injection e
      subst this
      exact own_apartS h hrow rec_ne_seg hb)
  refine ⟨C ++ [u], ?_, ⟨by simp [hlen], fun j hj => ?_, fun j i hj hi b hne hb1 => ?_⟩⟩
  · unfold OSl
    rw [List.length_append, List.length_singleton]
    exact hown
  · rw [List.length_append, List.length_singleton] at hj
    by_cases e : j < l.length
    · rw [List.getElem_append_left (by omega), List.getElem_append_left e]
      exact hk (h2.own j e)
    · obtain rfl : j = l.length := by omega
      have e1 : (C ++ [u])[l.length]'(by simp [hlen]) = u := by
        rw [List.getElem_append_right (by omega)]; simp
      have e2 : (l ++ [s])[l.length]'(by simp) = s := by simp
      rw [e1, e2]
      exact hk hu
  · rw [List.length_append, List.length_singleton] at hj hi
    by_cases e : j < l.length
    · rw [List.getElem_append_left (by omega)] at hb1
      by_cases e2 : i < l.length
      · rw [List.getElem_append_left (by omega)]
        exact h2.apart j i e e2 b hne hb1
      · obtain rfl : i = l.length := by omega
        have e1 : (C ++ [u])[l.length]'(by simp [hlen]) = u := by
          rw [List.getElem_append_right (by omega)]; simp
        rw [e1]
        exact hnew j e b hb1
    · obtain rfl : j = l.length := by omega
      have e1 : (C ++ [u])[l.length]'(by simp [hlen]) = u := by
        rw [List.getElem_append_right (by omega)]; simp
      rw [e1] at hb1
      have e2 : i < l.length := by omega
      rw [List.getElem_append_left (by omega)]
      exact fun hb2 => hnew i e2 b hb2 hb1

end Go.Proofs.Ytabhalajelbfoaa
