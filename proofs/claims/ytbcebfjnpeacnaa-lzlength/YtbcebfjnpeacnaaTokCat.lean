/-
  What slices.Grow (of nil) and slices.Concat (of two) return at rows of tokens: a new row of the two, one behind the other. Conditions: both rows can be read, and take together at most 2^48 bytes.
-/
import Derived.Test.YtbcebfjnpeacnaaLzP
import Derived.Lib.AppendZerosOnto
import Derived.Lib.SliceRun
namespace Go.Proofs.Ytbcebfjnpeacnaa
open Go.RowKit
open Go.Proofs
open WoolLz

/-- an append whose run is known -/
theorem wpList_append_run {P : Program} (w : World) {ops : Array Oper} {rest : List Oper} {o : Oper} {a : Act} {Q : Exit → Act → World → Prop} (hgd : o.guard = none) (s x : Operand) (ts : Array TypeId)
    (ho : o.op = .call { callee := .builtin .append, args := #[s, x], argTypes := ts }) (v1 v2 v' : Value) (w' : World) (hs : a.eval s = v1) (hx : a.eval x = v2)
    (hrun : (Builtin.append_ ts o.type #[v1, v2]).run P w = .ok v' w') (h : wpList P ops Q rest (a.put o.dst v') w') : wpList P ops Q (o :: rest) a w := by
  refine wpList_plain hgd fun K hK => ?_
  unfold Oper.wp execOp
  simp only [ho, resolve, invoke, builtin, Sem.run_bind, Sem.run_pure, Result.andThen_ok, List.map_toArray, List.map_cons, List.map_nil, hs, hx, hrun]
  exact hK _ _ h

theorem grown_upB' {w wr w' : World} {g k G n : Nat} {xs : List Value} {e : TypeId} {size : Nat} (hu : Up w wr) (hown : wr.ownsRow w.heap.size e size (.slice (some ⟨g, 0, none⟩) k G) n xs) (hg : wr.grownBy w' (some g)) : Up w w' :=
  grown_below hu hu.size hown hg

def GrowPost (n : Nat) (w : World) (e : Ending) (w' : World) : Prop :=
  ∃ G, e = .returned (.slice (some ⟨w.heap.size, 0, none⟩) 0 G) ∧ n ≤ G ∧ w'.ownsRow w.heap.size 33 3 (.slice (some ⟨w.heap.size, 0, none⟩) 0 G) 0 [] ∧ Up w w'

theorem zero_size (n : Nat) : (Builtin.zeroCells (Value.agg #[.int .i64 0, .int .i64 0, .int .i64 0]).cells n).size = n * 3 := by
  unfold Builtin.zeroCells
  rw [Array.size_map, Array.size_range]
  rfl

set_option maxRecDepth 100000 in
set_option maxHeartbeats 400000 in
theorem grow_nil (n : Nat) (w : World) (h0 : 0 < n) (h : n * 24 ≤ 281474976710656) :
    Calls Try.prog 30 #[.slice none 0 0, .int .i64 (n : Int)] w (GrowPost n w) := by
  obtain ⟨i0, hi, hz0, hz1, hz2⟩ := info_parts tokInfo
  have hold : (Builtin.firstCells i0.size 0 (.slice none 0 0)).run Try.prog w.drew = .ok ([] : List Value).toArray w.drew := by simp [Builtin.firstCells]
  have hnx : Builtin.nextslicecap (0 + n) 0 = n := by unfold Builtin.nextslicecap; rw [if_pos (by omega)]; omega
  have hrun := fun ty => Lib.run_append_grow_zeros (P := Try.prog) w 28 3 ty 33 i0 _ .i64 .i64 Try.underlying28 Try.underlying3 hi hz0 none 0 0 [] hold n h0 (by rw [hz1]; omega) (by omega) (by omega) (by rw [hz2]; exact h) (by rw [hz2, hnx]; exact h)
  have hG1 := grownCap_ge w (0 + n) 0 33
  have hG2 := grownCap_le_maxLen w (0 + n) 0 33 (by unfold maxLen; omega)
  obtain ⟨G, hG⟩ : ∃ G, grownCap w (0 + n) 0 33 = G := ⟨_, rfl⟩
  rw [hG] at hG1 hG2
  simp only [hG] at hrun
  obtain ⟨cs, hcs⟩ : ∃ cs, (([] : List Value).toArray ++ Builtin.zeroCells (Value.agg #[.int .i64 0, .int .i64 0, .int .i64 0]).cells n ++ Builtin.zeroCells (Value.agg #[.int .i64 0, .int .i64 0, .int .i64 0]).cells (G - (0 + n))) = cs := ⟨_, rfl⟩
  have hsz : cs.size = G * 3 := by rw [← hcs, Array.size_append, Array.size_append, zero_size, zero_size]; simp; omega
  simp only [hcs] at hrun
  have HSZ := Lib.hid hsz
  unfold maxLen at hG2
  clear hcs hsz hG hold hnx hi hz0 hz1 hz2
  have d1 : decide ((n : Int) < 0) = false := by rw [decide_eq_false_iff_not]; omega
  have d2 : decide (0 < n) = true := decide_eq_true h0
  rw [Nat.zero_add] at hrun
  go_enter Try.func30, Try.ntmps30
  go_wp2_with (at_builtin; refine wpList_append_run _ rfl _ _ #[28, 3] rfl _ _ _ _ rfl rfl (hrun _) ?_)
  go_ret
  refine ⟨G, rfl, by omega, ⟨rfl, .inr ⟨w.heap.size, G, cs, rfl, Nat.le_refl _, heap_alloc_new _ _, Nat.zero_le _, by unfold maxLen; omega, HSZ.out, rfl⟩⟩, (Up.drew _).trans (Up.alloc _ _)⟩

set_option maxRecDepth 100000 in
theorem grow_none (w : World) :
    Calls Try.prog 30 #[.slice none 0 0, .int .i64 0] w fun e w' => e = .returned (.slice none 0 0) ∧ w = w' := by
  go_enter Try.func30, Try.ntmps30
  go_wp2_with fail
  go_ret
  exact ⟨rfl, rfl⟩

/-- a row's cells, one after another -/
theorem Toks.news {w : World} {o : Option Addr} {n c : Nat} {l : List Tok} (h : Toks w (.slice o n c) l) (h0 : 0 < l.length) : ∃ ad : Addr, o = some ad ∧ ∀ j u, (tokL l)[j]? = some u → w.cell? (ad.add j) = some u := by
  obtain ⟨o', c', hv, h2, h3, h4⟩ := h
  simp only [Value.slice.injEq] at hv
  obtain ⟨rfl, _, rfl⟩ := hv
  rcases h4 with h4 | ⟨b, off, h5, h6⟩
  · rw [h4] at h0; exact absurd h0 (by simp)
  · refine ⟨⟨b, off, none⟩, h5, fun j u hj => ?_⟩
    have hjl := (List.getElem?_eq_some_iff.1 hj).1
    rw [tokL_length] at hjl
    have ea : (⟨b, off, none⟩ : Addr).add j = ⟨b, off + j, none⟩ := by
      unfold Addr.add
      split
      · rename_i e; subst e; rfl
      · rfl
    obtain ⟨a1, a2, a3⟩ := h6 (j / 3) (by omega)
    obtain ⟨b1, b2, b3⟩ := tokL_get l (j / 3) (by omega)
    rw [ea]
    rcases (show j = j / 3 * 3 ∨ j = j / 3 * 3 + 1 ∨ j = j / 3 * 3 + 2 by omega) with e | e | e
    · rw [e] at hj ⊢
      rw [b1] at hj
      rw [← hj]; exact a1
    · rw [e] at hj ⊢
      rw [b2] at hj
      rw [← hj]; exact a2
    · rw [e] at hj ⊢
      rw [b3] at hj
      rw [← hj]; exact a3

theorem tokL_one : ∀ (l : List Tok) u, u ∈ tokL l → u.oneCell' = true
  | [], u, h => by unfold tokL at h; simp at h
  | t :: r, u, h => by
    unfold tokL at h
    simp only [List.mem_cons] at h
    rcases h with rfl | rfl | rfl | h
    · rfl
    · rfl
    · rfl
    · exact tokL_one r u h

theorem tokL_append : ∀ (l m : List Tok), tokL (l ++ m) = tokL l ++ tokL m
  | [], m => rfl
  | t :: r, m => by rw [List.cons_append]; unfold tokL; rw [tokL_append r m]; cases m <;> rfl

/-- an append into a row that has room -/
theorem run_cat {w : World} {base g k G n c : Nat} {o : Option Addr} {xs l : List Tok} (ty : TypeId) (hown : w.ownsRow base 33 3 (.slice (some ⟨g, 0, none⟩) k G) k (tokL xs)) (hs : Toks w (.slice o n c) l) (hroom : k + l.length ≤ G) :
    ∃ w', (Builtin.append_ #[28, 28] ty #[.slice (some ⟨g, 0, none⟩) k G, .slice o n c]).run Try.prog w = .ok (.slice (some ⟨g, 0, none⟩) (k + l.length) G) w' ∧
      w'.ownsRow base 33 3 (.slice (some ⟨g, 0, none⟩) (k + l.length) G) (k + l.length) (tokL (xs ++ l)) ∧ w.grownBy w' (some g) := by
  obtain ⟨i0, hi, hz0, hz1, hz2⟩ := info_parts tokInfo
  have hn : n = l.length := by
    obtain ⟨o', c', hv, _⟩ := hs
    simp only [Value.slice.injEq] at hv
    exact hv.2.1
  subst hn
  rcases Nat.eq_zero_or_pos l.length with h0 | h0
  · have hl : l = [] := List.eq_nil_of_length_eq_zero h0
    subst hl
    refine ⟨w, ?_, by rw [List.append_nil]; exact hown, World.grownBy.refl _ _⟩
    have hkG : k ≤ G := hroom
    cases o with
    | none => simp [Builtin.append_, run_underlying Try.underlying28, sizeOf, typeInfo, hi, Builtin.lenOf, Builtin.firstCells, storeCells, hkG]
    | some a => simp [Builtin.append_, run_underlying Try.underlying28, sizeOf, typeInfo, hi, Builtin.lenOf, Builtin.firstCells, storeCells, loadCells, loadCellsFrom, hkG]
  · obtain ⟨ad, rfl, hnews⟩ := hs.news h0
    obtain ⟨w', hrun, r1, r2⟩ := run_append_fits (P := Try.prog) w base 28 ty 33 i0 3 Try.underlying28 hi hz1 g k G (tokL xs) hown ad l.length c (tokL l) (tokL_length l) hnews (fun u hu => tokL_one l u hu) hroom
    exact ⟨w', hrun, by rw [tokL_append]; exact r1, r2⟩

/-- an append of nothing to nil -/
theorem run_cat_none {w : World} {n c : Nat} {o : Option Addr} {l : List Tok} (ty : TypeId) (hs : Toks w (.slice o n c) l) (h0 : l.length = 0) :
    (Builtin.append_ #[28, 28] ty #[.slice none 0 0, .slice o n c]).run Try.prog w = .ok (.slice none 0 0) w := by
  obtain ⟨i0, hi, hz0, hz1, hz2⟩ := info_parts tokInfo
  have hn : n = 0 := by
    obtain ⟨o', c', hv, _⟩ := hs
    simp only [Value.slice.injEq] at hv
    rw [hv.2.1, h0]
  subst hn
  cases o with
  | none => simp [Builtin.append_, run_underlying Try.underlying28, sizeOf, typeInfo, hi, Builtin.lenOf, Builtin.firstCells]
  | some a => simp [Builtin.append_, run_underlying Try.underlying28, sizeOf, typeInfo, hi, Builtin.lenOf, Builtin.firstCells, loadCells, loadCellsFrom]

def SumRel (n m : Nat) (s i : Value) : Prop := (s = .int .i64 0 ∧ i = .int .i64 0) ∨ (s = .int .i64 (n : Int) ∧ i = .int .i64 1) ∨ (s = .int .i64 ((n : Int) + (m : Int)) ∧ i = .int .i64 2)

/-- what has been put together -/
def CatRow (w : World) (base N : Nat) (v : Value) (xs : List Tok) : Prop :=
  (N = 0 ∧ xs = [] ∧ v = .slice none 0 0) ∨ ∃ g G, v = .slice (some ⟨g, 0, none⟩) xs.length G ∧ N ≤ G ∧ w.ownsRow base 33 3 v xs.length (tokL xs)

theorem CatRow.toks {w : World} {base N : Nat} {v : Value} {xs : List Tok} (h : CatRow w base N v xs) : Toks w v xs := by
  rcases h with ⟨_, rfl, rfl⟩ | ⟨g, G, rfl, _, h⟩
  · exact ⟨none, 0, rfl, Nat.le_refl _, by unfold maxLen; omega, .inl rfl⟩
  · exact OToks.toks (base := base) h

def CatRel (l m : List Tok) (w : World) (v i : Value) (wr : World) : Prop :=
  Up w wr ∧ ((i = .int .i64 0 ∧ CatRow wr w.heap.size (l.length + m.length) v []) ∨ (i = .int .i64 1 ∧ CatRow wr w.heap.size (l.length + m.length) v l) ∨ (i = .int .i64 2 ∧ CatRow wr w.heap.size (l.length + m.length) v (l ++ m)))

def CatPost (l m : List Tok) (w : World) (e : Ending) (w' : World) : Prop := ∃ v, e = .returned v ∧ Toks w' v (l ++ m) ∧ Up w w'

/-- one more row behind what has been put together -/
theorem CatRow.more {w wr : World} {N : Nat} {v : Value} {xs l : List Tok} {o : Option Addr} {n c : Nat} (ty : TypeId) (h : CatRow wr w.heap.size N v xs) (hu : Up w wr) (hs : Toks wr (.slice o n c) l) (hN : xs.length + l.length ≤ N) :
    ∃ v' w', (Builtin.append_ #[28, 28] ty #[v, .slice o n c]).run Try.prog wr = .ok v' w' ∧ CatRow w' w.heap.size N v' (xs ++ l) ∧ Up w w' := by
  rcases h with ⟨h0, rfl, rfl⟩ | ⟨g, G, rfl, hG, hown⟩
  · have hl : l.length = 0 := by omega
    refine ⟨_, _, run_cat_none ty hs hl, ?_, hu⟩
    rw [List.eq_nil_of_length_eq_zero hl]
    exact .inl ⟨h0, rfl, rfl⟩
  · obtain ⟨w', hrun, r1, r2⟩ := run_cat ty hown hs (by omega)
    refine ⟨_, w', hrun, .inr ⟨g, G, by rw [List.length_append], hG, by rw [List.length_append]; exact r1⟩, ?_⟩
    exact grown_upB' hu hown r2

end Go.Proofs.Ytbcebfjnpeacnaa
