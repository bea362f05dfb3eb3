/-
  slices.Delete of one segment of a row that is known whole. Conditions: as each says.
-/
import Derived.Test.YtabhalajelbfoaaSegC
import Derived.Laws.CopyOwn
import Derived.Deep.RegionLaw
namespace Go.Proofs.Ytabhalajelbfoaa
open Go.RowKit
open Go.Proofs
open WoolBag
open WoolSeg

/-- the cell of a segment that is cleared -/
def zcS : List Value := [.slice none 0 0]

theorem splice_consS {L : List Value} {s : Nat} {v : Value} {r : List Value} (h : s < L.length) : splice (L.set s v) (s + 1) r = splice L s (v :: r) := by
  unfold splice
  rw [List.take_set, List.drop_set, if_pos (by omega), List.length_cons, List.take_succ_eq_append_getElem (by omega), List.set_append_right _ _ (by rw [List.length_take]; omega)]
  have h0 : s - (L.take s).length = 0 := by rw [List.length_take]; omega
  rw [h0]
  simp [show s + (r.length + 1) = s + 1 + r.length by omega]

theorem RowC.setCells : ∀ (news : List Value) {w : World} {g T : Nat} {L : List Value} (s : Nat), RowC w g T L → s + news.length ≤ L.length → RowC (w.setCells g s news) g T (splice L s news)
  | [], w, g, T, L, s, h, hl => by
    show RowC w g T _
    unfold splice
    simpa using h
  | v :: r, w, g, T, L, s, h, hl => by
    have hs : s < L.length := by simp at hl; omega
    have ih := RowC.setCells r (s + 1) (h.set s v) (by simp at hl ⊢; omega)
    rw [splice_consS hs] at ih
    exact ih

theorem RowC.setRow {w : World} {g T : Nat} {L : List Value} (h : RowC w g T L) (L' : List Value) : RowC (w.setRow g L'.toArray) g T L' := setRow_heap w g _ _ _ _ h

theorem grown_setCS {w0 w : World} {g : Nat} (h : w0.grownBy w (some g)) (s : Nat) (v : Value) : w0.grownBy (w.setCell ⟨g, s, none⟩ v) (some g) := by
  have h2 := grown_setS w g s v
  exact ⟨h.os, h.tape, h.output, Nat.le_trans h.size h2.size, fun k hk hne => (h2.block k (Nat.lt_of_lt_of_le hk h.size) hne).trans (h.block k hk hne)⟩
theorem grown_setCellsS : ∀ (news : List Value) {g : Nat} {w0 w : World} (s : Nat), w0.grownBy w (some g) → w0.grownBy (w.setCells g s news) (some g)
  | [], _, _, _, _, h => h
  | v :: r, _, _, _, s, h => grown_setCellsS r (s + 1) (grown_setCS h s v)
theorem setRow_otherS (w : World) (g k : Nat) (L : Array Value) (hne : k ≠ g) : (w.setRow g L).heap[k]? = w.heap[k]? := by
  unfold World.setRow
  simp [Array.getElem?_modify, Ne.symm hne]
theorem grown_setRowS {w w' : World} {g : Nat} (h : w.grownBy w' (some g)) (L : Array Value) : w.grownBy (w'.setRow g L) (some g) :=
  ⟨h.os, h.tape, h.output, by simpa [World.setRow] using h.size, fun k hk hne => by rw [setRow_otherS w' g k L (fun e => hne (by rw [e]))]; exact h.block k hk hne⟩
theorem grown_reflS (w : World) (row : Option Nat) : w.grownBy w row := ⟨rfl, rfl, rfl, Nat.le_refl _, fun _ _ _ => rfl⟩
theorem grown_drewS {w w' : World} {row : Option Nat} (h : w.grownBy w' row) : w.grownBy w'.drew row := ⟨h.os, h.tape, h.output, h.size, h.block⟩

/-- clear of one segment -/
theorem clearS_one {w : World} {g s c : Nat} {L : List Value} (h : RowC w g 45 L) (hs : s + 1 ≤ L.length) (ty : TypeId) :
    (Builtin.clear_ #[26] ty #[.slice (some ⟨g, s, none⟩) 1 c]).run Try.prog w = .ok (.tuple #[]) (w.setRow g (splice L s zcS).toArray) := by
  have hst := run_storeCells_at Try.prog g s 45 zcS 0 L.toArray w h (by simp [zcS]; omega) (by intro u hu; simp [zcS] at hu; rcases hu with rfl; rfl)
  have hz : (Builtin.zeroCells (Value.slice none 0 0).cells 1).toList = zcS := by kernel_rfl
  simp only [Nat.add_zero] at hst
  simp [Builtin.clear_, run_underlying Try.underlying26, hz, hst, splice]

/-- the row behind the two steps of a Delete -/
theorem eraseS_row (l : List Value) (k : Nat) (hk : k < l.length) (sp : List Value) :
    splice (splice (l ++ sp) k (l.drop (k + 1))) (l.length - 1) zcS = l.eraseIdx k ++ (zcS ++ sp) := by
  have e1 : splice (l ++ sp) k (l.drop (k + 1)) = l.eraseIdx k ++ (l.drop (l.length - 1) ++ sp) := by
    unfold splice
    rw [List.take_append_of_le_length (by omega), List.length_drop, List.drop_append_of_le_length (by omega), List.eraseIdx_eq_take_drop_succ, List.append_assoc,
      show k + (l.length - (k + 1)) = l.length - 1 by omega]
  rw [e1]
  have e2 : (l.eraseIdx k).length = l.length - 1 := by rw [List.length_eraseIdx_of_lt hk]
  have e3 : (l.drop (l.length - 1)).length = 1 := by rw [List.length_drop]; omega
  have e4 : zcS.length = 1 := rfl
  generalize l.drop (l.length - 1) = D at e3
  unfold splice
  rw [← e2, List.take_left, e4, List.drop_append, List.drop_of_length_le (by omega), List.nil_append, show (l.eraseIdx k).length + 1 - (l.eraseIdx k).length = 1 by omega, List.drop_append, List.drop_of_length_le (by omega), e3, List.nil_append]
  rfl

set_option maxRecDepth 100000 in
set_option maxHeartbeats 2000000 in
theorem deleteS_any (l : List Value) (k j g cap : Nat) (sp : List Value) (w : World) (h1l : ∀ u ∈ l, u.oneCell' = true) (hj : j = k + 1) (hk : k < l.length) (hrow : RowC w g 45 (l ++ sp)) (hc1 : l.length ≤ cap) (hc2 : cap ≤ maxLen) (hc3 : l.length + sp.length = cap) :
    Calls Try.prog 31 #[.slice (some ⟨g, 0, none⟩) l.length cap, .int .i64 (k : Int), .int .i64 (j : Int)] w fun e w' => e = .returned (.slice (some ⟨g, 0, none⟩) (l.length - 1) cap) ∧ RowC w' g 45 (l.eraseIdx k ++ (zcS ++ sp)) ∧ w.grownBy w' (some g) := by
  obtain ⟨i0, hi0, hz0, hz1, hz2⟩ := sgInfo'
  have hcm := hc2
  unfold maxLen at hcm
  clear hc2
  have HE := Lib.hid (eraseS_row l k hk sp)
  obtain ⟨news, hnews⟩ : ∃ news, l.drop (k + 1) = news := ⟨_, rfl⟩
  have hlen : news.length = (l.length - j) * 1 := by rw [← hnews, List.length_drop, hj, Nat.mul_one]
  have hget : ∀ t u, news[t]? = some u → w.cell? ⟨g, j + t, none⟩ = some u := by
    intro t u hu
    rw [← hnews, List.getElem?_drop] at hu
    rw [hj]
    refine hrow.cell ?_
    rw [List.getElem?_append_left ((List.getElem?_eq_some_iff.1 hu).1)]
    exact hu
  have hone : ∀ u ∈ news, u.oneCell' = true := by rw [← hnews]; exact fun u hu => h1l u (List.mem_of_mem_drop hu)
  rw [hnews] at HE
  obtain ⟨A, hA, hsrc⟩ : ∃ A : Addr, (if cap = j then some (⟨g, 0, none⟩ : Addr) else some ⟨g, j, none⟩) = some A ∧ Hid (∀ t u, news[t]? = some u → w.drew.cell? (A.add t) = some u) := by
    by_cases h : cap = j
    · refine ⟨⟨g, 0, none⟩, by simp [h], fun t u hu => ?_⟩
      have h0 : news.length = 0 := by rw [hlen]; omega
      rw [List.length_eq_zero_iff.1 h0] at hu
      simp at hu
    · refine ⟨⟨g, j, none⟩, by simp [h], fun t u hu => ?_⟩
      rw [add_offS]
      exact hget t u hu
  have hLL : (l ++ sp).length = cap := by rw [List.length_append]; exact hc3
  have s1 := Lib.hid hlen
  have s2 := Lib.hid hone
  have s3 : Hid (∀ t, t < news.length → (w.drew.cell? ⟨g, 0 + k * 1 + t, none⟩).isSome = true ∧ w.drew.frozen? ⟨g, 0 + k * 1 + t, none⟩ = false) := by
    intro t ht
    rw [hlen] at ht
    refine ⟨?_, hrow.frozen _⟩
    show (w.cell? _).isSome = true
    rw [hrow.at, List.getElem?_eq_getElem (by rw [hLL]; omega)]; rfl
  obtain ⟨W1, hW1⟩ : ∃ W1, W1 = w.drew.setCells g (0 + k * 1) news := ⟨_, rfl⟩
  have hrd : RowC w.drew g 45 (l ++ sp) := hrow
  have hR1 : RowC W1 g 45 (splice (l ++ sp) k news) := by
    rw [hW1, Nat.zero_add, Nat.mul_one]
    exact hrd.setCells news k (by rw [hLL, hlen]; omega)
  have hB1 : w.grownBy W1 (some g) := by rw [hW1]; exact grown_setCellsS news _ (grown_drewS (grown_reflS w (some g)))
  have hspl : (splice (l ++ sp) k news).length = cap := by rw [length_splice _ _ _ (by rw [hLL, hlen]; omega), hLL]
  have hcl := fun c ty => clearS_one (c := c) hR1 (s := l.length - 1) (by rw [hspl]; omega) ty
  have hR2 := hR1.setRow (splice (splice (l ++ sp) k news) (l.length - 1) zcS)
  rw [HE.out] at hcl hR2
  have HW := Lib.hid hW1
  have HR2 := Lib.hid hR2
  have HB1 := Lib.hid hB1
  have HLN : Hid (k + (l.length - j) = l.length - 1) := by show _ = _; omega
  have HLN2 : Hid (l.length - (l.length - 1) = 1) := by show _ = _; omega
  have hkj : ((k : Int) == (j : Int)) = false := by simp; omega
  have hkc : k ≤ cap := by omega
  have hjc : j ≤ cap := by omega
  have hjl : j ≤ l.length := by omega
  have hkj' : k ≤ j := by omega
  obtain ⟨n, hn⟩ : ∃ n, l.length = n := ⟨_, rfl⟩
  rw [hn] at hc1 s1 hcl HLN HLN2 hjl hk ⊢
  have hnk : ¬ n = k := by omega
  have HJ := Lib.hid hj
  have HN1 : Hid (n - 1 ≤ cap) := by show _ ≤ _; omega
  have hnj : n - 1 = k + (n - j) := by omega
  rw [hnj] at hcl ⊢
  have hx1 : n - (k + (n - j)) = 1 := by omega
  have hx2 : k + (n - j) ≤ n := by omega
  have hx3 : k + (n - j) ≤ cap := by omega
  have hx4 : ¬ cap = k + (n - j) := by omega
  clear h1l hW1 hR1 hB1 hspl hrow hrd hget hone hlen hnews hR2 hLL hn hc3 hj hnj HE
  go_enter Try.func31, Try.ntmps31
  go_wp2_with fail
  go_region_law (refine step_append_room rfl (.tmp 22) (.tmp 25) 26 rfl 45 i0 1 Try.underlying26 hi0 hz1 g 0 k cap (by simp [Act.eval, Act.put]) A (n - j) (cap - j) news (by simp [Act.eval, Act.put]) s1.out hsrc.out s2.out (by omega) s3.out ?_; rw [← HW.out])
  all_goals
    go_wp2_with fail
    go_ret
    exact ⟨rfl, HR2.out, grown_setRowS HB1.out _⟩

end Go.Proofs.Ytabhalajelbfoaa
