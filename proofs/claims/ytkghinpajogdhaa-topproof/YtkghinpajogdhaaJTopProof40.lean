/-
  slices.Delete of one volume of a row that is known whole. Conditions: as each says.
-/
import Derived.Test.YtkghinpajogdhaaJTopProof35
import Derived.Test.YtkghinpajogdhaaJTopProof32
namespace Go.Proofs.Ytkghinpajogdhaa
open Go.RowKit
open Go.Proofs
open WoolBag
open WoolVol

/-- the cells of the empty volume -/
def zcV : List Value := [.string ⟨#[]⟩, .slice none 0 0]

theorem RowV.setCells : ∀ (news : List Value) {w : World} {g : Nat} {L : List Value} (s : Nat), RowV w g L → s + news.length ≤ L.length → RowV (w.setCells g s news) g (splice L s news)
  | [], w, g, L, s, h, hl => by
    show RowV w g _
    unfold splice
    simpa using h
  | v :: r, w, g, L, s, h, hl => by
    have hs : s < L.length := by simp at hl; omega
    have ih := RowV.setCells r (s + 1) (h.set s v) (by simp at hl ⊢; omega)
    rw [splice_cons hs] at ih
    exact ih

theorem grown_setC {w0 w : World} {g : Nat} (h : w0.grownBy w (some g)) (s : Nat) (v : Value) : w0.grownBy (w.setCell ⟨g, s, none⟩ v) (some g) := by
  have h2 := grown_set w g s v
  exact ⟨h.os, h.tape, h.output, Nat.le_trans h.size h2.size, fun k hk hne => (h2.block k (Nat.lt_of_lt_of_le hk h.size) hne).trans (h.block k hk hne)⟩
theorem grown_setCells : ∀ (news : List Value) {g : Nat} {w0 w : World} (s : Nat), w0.grownBy w (some g) → w0.grownBy (w.setCells g s news) (some g)
  | [], _, _, _, _, h => h
  | v :: r, _, _, _, s, h => grown_setCells r (s + 1) (grown_setC h s v)

/-- clear of one volume -/
theorem clearV_one {w : World} {g s c : Nat} {L : List Value} (h : RowV w g L) (hs : s + 2 ≤ L.length) (ty : TypeId) :
    (Builtin.clear_ #[25] ty #[.slice (some ⟨g, s, none⟩) 1 c]).run Try.prog w = .ok (.tuple #[]) (w.setRow g (splice L s zcV).toArray) := by
  have hst := run_storeCells_at Try.prog g s 35 zcV 0 L.toArray w h (by simp [zcV]; omega) (by intro u hu; simp [zcV] at hu; rcases hu with rfl | rfl <;> rfl)
  have hz : (Builtin.zeroCells (Value.agg #[.string ⟨#[]⟩, .slice none 0 0]).cells 1).toList = zcV := by kernel_rfl
  simp only [Nat.add_zero] at hst
  simp [Builtin.clear_, run_underlying Try.underlying25, hz, hst, splice]

/-- the row behind the two steps of a Delete -/
theorem eraseV_row (l : List VC) (k : Nat) (hk : k < l.length) (sp : List Value) :
    splice (splice (fl vcC l ++ sp) (k * 2) (fl vcC (l.drop (k + 1)))) ((l.length - 1) * 2) zcV = fl vcC (l.eraseIdx k) ++ (zcV ++ sp) := by
  have e1 : splice (fl vcC l ++ sp) (k * 2) (fl vcC (l.drop (k + 1))) = fl vcC (l.eraseIdx k) ++ ((fl vcC l).drop ((l.length - 1) * 2) ++ sp) := by
    unfold splice
    rw [List.take_append_of_le_length (by rw [vL_length]; omega), ← vL_take, vL_length, List.length_drop, List.drop_append_of_le_length (by rw [vL_length]; omega), List.eraseIdx_eq_take_drop_succ, vL_append, List.append_assoc,
      show k * 2 + (l.length - (k + 1)) * 2 = (l.length - 1) * 2 by omega]
  rw [e1]
  have e2 : (fl vcC (l.eraseIdx k)).length = (l.length - 1) * 2 := by rw [vL_length, List.length_eraseIdx_of_lt hk]
  have e3 : ((fl vcC l).drop ((l.length - 1) * 2)).length = 2 := by rw [List.length_drop, vL_length]; omega
  have e4 : zcV.length = 2 := rfl
  generalize (fl vcC l).drop ((l.length - 1) * 2) = D at e3
  unfold splice
  rw [← e2, List.take_left, e4, List.drop_append, List.drop_of_length_le (by omega), List.nil_append, show (fl vcC (l.eraseIdx k)).length + 2 - (fl vcC (l.eraseIdx k)).length = 2 by omega, List.drop_append, List.drop_of_length_le (by omega), e3, List.nil_append]
  rfl

set_option maxRecDepth 100000 in
set_option maxHeartbeats 2000000 in
theorem deleteV_any (l : List VC) (k j g cap : Nat) (sp : List Value) (w : World) (h1l : ∀ u ∈ fl vcC l, u.oneCell' = true) (hj : j = k + 1) (hk : k < l.length) (hrow : RowV w g (fl vcC l ++ sp)) (hc1 : l.length ≤ cap) (hc2 : cap ≤ maxLen) (hc3 : l.length * 2 + sp.length = cap * 2) :
    Calls Try.prog 42 #[.slice (some ⟨g, 0, none⟩) l.length cap, .int .i64 (k : Int), .int .i64 (j : Int)] w fun e w' => e = .returned (.slice (some ⟨g, 0, none⟩) (l.length - 1) cap) ∧ RowV w' g (fl vcC (l.eraseIdx k) ++ (zcV ++ sp)) ∧ w.grownBy w' (some g) := by
  obtain ⟨i0, hi0, hz0, hz1, hz2⟩ := volInfo'
  have hcm := hc2
  unfold maxLen at hcm
  clear hc2
  have HE := Lib.hid (eraseV_row l k hk sp)
  obtain ⟨news, hnews⟩ : ∃ news, fl vcC (l.drop (k + 1)) = news := ⟨_, rfl⟩
  have hlen : news.length = (l.length - j) * 2 := by rw [← hnews, vL_length, List.length_drop, hj]
  have hget : ∀ t u, news[t]? = some u → w.cell? ⟨g, j * 2 + t, none⟩ = some u := by
    intro t u hu
    rw [← hnews, vL_drop, List.getElem?_drop] at hu
    rw [hj]
    exact hrow.cell (get_appV hu)
  have hone : ∀ u ∈ news, u.oneCell' = true := by rw [← hnews]; exact vL_one h1l (k + 1)
  rw [hnews] at HE
  obtain ⟨A, hA, hsrc⟩ : ∃ A : Addr, (if cap = j then some (⟨g, 0, none⟩ : Addr) else some ⟨g, j * 2, none⟩) = some A ∧ Hid (∀ t u, news[t]? = some u → w.drew.cell? (A.add t) = some u) := by
    by_cases h : cap = j
    · refine ⟨⟨g, 0, none⟩, by simp [h], fun t u hu => ?_⟩
      have h0 : news.length = 0 := by rw [hlen]; omega
      rw [List.length_eq_zero_iff.1 h0] at hu
      simp at hu
    · refine ⟨⟨g, j * 2, none⟩, by simp [h], fun t u hu => ?_⟩
      rw [add_lit]
      exact hget t u hu
  have hLL : (fl vcC l ++ sp).length = cap * 2 := by rw [List.length_append, vL_length]; exact hc3
  have s1 := Lib.hid hlen
  have s2 := Lib.hid hone
  have s3 : Hid (∀ t, t < news.length → (w.drew.cell? ⟨g, 0 + k * 2 + t, none⟩).isSome = true ∧ w.drew.frozen? ⟨g, 0 + k * 2 + t, none⟩ = false) := by
    intro t ht
    rw [hlen] at ht
    refine ⟨?_, hrow.frozen _⟩
    show (w.cell? _).isSome = true
    rw [hrow.at, List.getElem?_eq_getElem (by rw [hLL]; omega)]; rfl
  obtain ⟨W1, hW1⟩ : ∃ W1, W1 = w.drew.setCells g (0 + k * 2) news := ⟨_, rfl⟩
  have hrd : RowV w.drew g (fl vcC l ++ sp) := hrow
  have hR1 : RowV W1 g (splice (fl vcC l ++ sp) (k * 2) news) := by
    rw [hW1, Nat.zero_add]
    exact hrd.setCells news (k * 2) (by rw [hLL, hlen]; omega)
  have hB1 : w.grownBy W1 (some g) := by rw [hW1]; exact grown_setCells news _ (grown_drew (grown_refl w (some g)))
  have hspl : (splice (fl vcC l ++ sp) (k * 2) news).length = cap * 2 := by rw [length_splice _ _ _ (by rw [hLL, hlen]; omega), hLL]
  have hcl := fun c ty => clearV_one (c := c) hR1 (s := (l.length - 1) * 2) (by rw [hspl]; omega) ty
  have hR2 := hR1.setRow (splice (splice (fl vcC l ++ sp) (k * 2) news) ((l.length - 1) * 2) zcV)
  rw [HE.out] at hcl hR2
  have HW := Lib.hid hW1
  have HR2 := Lib.hid hR2
  have HB1 := Lib.hid hB1
  have HLN : Hid (k + (l.length - j) = l.length - 1) := by show _ = _; omega
  have HLN2 : Hid (l.length - (l.length - 1) = 1) := by show _ = _; omega
  have hkj : ((k : Int) == (j : Int)) = false := by simp; omega
  have hkc : k ≤ cap := by omega
  have hjc : j ≤ cap := by omega
  have hjl : j ≤ l.length := by omega
  have hkj' : k ≤ j := by omega
  obtain ⟨n, hn⟩ : ∃ n, l.length = n := ⟨_, rfl⟩
  rw [hn] at hc1 s1 hcl HLN HLN2 hjl hk ⊢
  have hnk : ¬ n = k := by omega
  have HJ := Lib.hid hj
  have HN1 : Hid (n - 1 ≤ cap) := by show _ ≤ _; omega
  have hnj : n - 1 = k + (n - j) := by omega
  rw [hnj] at hcl ⊢
  have hx1 : n - (k + (n - j)) = 1 := by omega
  have hx2 : k + (n - j) ≤ n := by omega
  have hx3 : k + (n - j) ≤ cap := by omega
  have hx4 : ¬ cap = k + (n - j) := by omega
  clear h1l hW1 hR1 hB1 hspl hrow hrd hget hone hlen hnews hR2 hLL hn hc3 hj hnj HE
  go_enter Try.func42, Try.ntmps42
  go_wp2_with fail
  go_region_law (refine step_append_room rfl (.tmp 22) (.tmp 25) 25 rfl 35 i0 2 Try.underlying25 hi0 hz1 g 0 k cap (by simp [Act.eval, Act.put]) A (n - j) (cap - j) news (by simp [Act.eval, Act.put]) s1.out hsrc.out s2.out (by omega) s3.out ?_; rw [← HW.out])
  all_goals
    go_wp2_with fail
    go_ret
    exact ⟨rfl, HR2.out, grown_setRow HB1.out _⟩

end Go.Proofs.Ytkghinpajogdhaa
