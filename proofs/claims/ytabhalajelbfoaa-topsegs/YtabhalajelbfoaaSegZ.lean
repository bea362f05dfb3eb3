/-
  slices.Delete of one identifier of a row that is known whole. Conditions: as each says.
-/
import Derived.Test.YtabhalajelbfoaaSegP
namespace Go.Proofs.Ytabhalajelbfoaa
open Go.RowKit
open Go.Proofs
open WoolBag
open WoolSeg

abbrev IdS := Bool × Int × Int
def idnC (i : IdS) : List Value := [.bool i.1, .int .i64 i.2.1, .int .i64 i.2.2]
theorem idnC_len (i : IdS) : (idnC i).length = 3 := rfl
theorem idnC_one (i : IdS) : ∀ u ∈ idnC i, u.oneCell' = true := by
  intro u h; unfold idnC at h; simp at h; rcases h with rfl | rfl | rfl <;> rfl
theorem idnInfo : (Try.prog.info? 29).map (fun i => (i.zero, i.size, i.bytes)) = some (some (.agg #[.bool false, .int .i64 0, .int .i64 0]), 3, 24) := by kernel_rfl
theorem idnInfo' : ∃ i, Try.prog.info? 29 = some i ∧ i.zero = some (.agg #[.bool false, .int .i64 0, .int .i64 0]) ∧ i.size = 3 ∧ i.bytes = 24 := by
  have h := idnInfo
  cases hq : Try.prog.info? 29 with
  | none => rw [hq] at h; cases h
  | some i =>
    rw [hq] at h
    simp only [Option.map_some, Option.some.injEq, Prod.mk.injEq] at h
    exact ⟨i, rfl, h.1, h.2.1, h.2.2⟩
/-- identifiers in a row of the call's own -/
def OIdS (w : World) (base : Nat) (v : Value) (l : List IdS) : Prop := w.ownsRow base 29 3 v l.length (fl idnC l)
theorem OIdS.nil (w : World) (base : Nat) : OIdS w base (.slice none 0 0) [] := World.ownsRow_nil w base _ _
theorem OIdS.up {w w' : World} {base : Nat} {v : Value} {l : List IdS} (h : OIdS w base v l) (hu : Up w w') : OIdS w' base v l := own_upS h hu

/-- the cells of the empty identifier -/
def zcId : List Value := [.bool false, .int .i64 0, .int .i64 0]

/-- clear of one volume -/
theorem clearId_one {w : World} {g s c : Nat} {L : List Value} (h : RowC w g 29 L) (hs : s + 3 ≤ L.length) (ty : TypeId) :
    (Builtin.clear_ #[27] ty #[.slice (some ⟨g, s, none⟩) 1 c]).run Try.prog w = .ok (.tuple #[]) (w.setRow g (splice L s zcId).toArray) := by
  have hst := run_storeCells_at Try.prog g s 29 zcId 0 L.toArray w h (by simp [zcId]; omega) (by intro u hu; simp [zcId] at hu; rcases hu with rfl | rfl | rfl <;> rfl)
  have hz : (Builtin.zeroCells (Value.agg #[.bool false, .int .i64 0, .int .i64 0]).cells 1).toList = zcId := by kernel_rfl
  simp only [Nat.add_zero] at hst
  simp [Builtin.clear_, run_underlying Try.underlying27, hz, hst, splice]

/-- the row behind the two steps of a Delete -/
theorem eraseId_row (l : List IdS) (k : Nat) (hk : k < l.length) (sp : List Value) :
    splice (splice (fl idnC l ++ sp) (k * 3) (fl idnC (l.drop (k + 1)))) ((l.length - 1) * 3) zcId = fl idnC (l.eraseIdx k) ++ (zcId ++ sp) := by
  have e1 : splice (fl idnC l ++ sp) (k * 3) (fl idnC (l.drop (k + 1))) = fl idnC (l.eraseIdx k) ++ ((fl idnC l).drop ((l.length - 1) * 3) ++ sp) := by
    unfold splice
    rw [List.take_append_of_le_length (by rw [fl_length idnC_len]; omega), ← fl_take idnC_len, fl_length idnC_len, List.length_drop, List.drop_append_of_le_length (by rw [fl_length idnC_len]; omega), List.eraseIdx_eq_take_drop_succ, fl_append, List.append_assoc,
      show k * 3 + (l.length - (k + 1)) * 3 = (l.length - 1) * 3 by omega]
  rw [e1]
  have e2 : (fl idnC (l.eraseIdx k)).length = (l.length - 1) * 3 := by rw [fl_length idnC_len, List.length_eraseIdx_of_lt hk]
  have e3 : ((fl idnC l).drop ((l.length - 1) * 3)).length = 3 := by rw [List.length_drop, fl_length idnC_len]; omega
  have e4 : zcId.length = 3 := rfl
  generalize (fl idnC l).drop ((l.length - 1) * 3) = D at e3
  unfold splice
  rw [← e2, List.take_left, e4, List.drop_append, List.drop_of_length_le (by omega), List.nil_append, show (fl idnC (l.eraseIdx k)).length + 3 - (fl idnC (l.eraseIdx k)).length = 3 by omega, List.drop_append, List.drop_of_length_le (by omega), e3, List.nil_append]
  rfl

set_option maxRecDepth 100000 in
set_option maxHeartbeats 2000000 in
theorem deleteId_any (l : List IdS) (k j g cap : Nat) (sp : List Value) (w : World) (hj : j = k + 1) (hk : k < l.length) (hrow : RowC w g 29 (fl idnC l ++ sp)) (hc1 : l.length ≤ cap) (hc2 : cap ≤ maxLen) (hc3 : l.length * 3 + sp.length = cap * 3) :
    Calls Try.prog 9 #[.slice (some ⟨g, 0, none⟩) l.length cap, .int .i64 (k : Int), .int .i64 (j : Int)] w fun e w' => e = .returned (.slice (some ⟨g, 0, none⟩) (l.length - 1) cap) ∧ RowC w' g 29 (fl idnC (l.eraseIdx k) ++ (zcId ++ sp)) ∧ w.grownBy w' (some g) := by
  obtain ⟨i0, hi0, hz0, hz1, hz2⟩ := idnInfo'
  have hcm := hc2
  unfold maxLen at hcm
  clear hc2
  have HE := Lib.hid (eraseId_row l k hk sp)
  obtain ⟨news, hnews⟩ : ∃ news, fl idnC (l.drop (k + 1)) = news := ⟨_, rfl⟩
  have hlen : news.length = (l.length - j) * 3 := by rw [← hnews, fl_length idnC_len, List.length_drop, hj]
  have hget : ∀ t u, news[t]? = some u → w.cell? ⟨g, j * 3 + t, none⟩ = some u := by
    intro t u hu
    rw [← hnews, fl_drop idnC_len, List.getElem?_drop] at hu
    rw [hj]
    exact hrow.cell ((List.getElem?_append_left ((List.getElem?_eq_some_iff.1 hu).1)).trans hu)
  have hone : ∀ u ∈ news, u.oneCell' = true := by rw [← hnews]; exact fun u hu => fl_one idnC_one _ u hu
  rw [hnews] at HE
  obtain ⟨A, hA, hsrc⟩ : ∃ A : Addr, (if cap = j then some (⟨g, 0, none⟩ : Addr) else some ⟨g, j * 3, none⟩) = some A ∧ Hid (∀ t u, news[t]? = some u → w.drew.cell? (A.add t) = some u) := by
    by_cases h : cap = j
    · refine ⟨⟨g, 0, none⟩, by simp [h], fun t u hu => ?_⟩
      have h0 : news.length = 0 := by rw [hlen]; omega
      rw [List.length_eq_zero_iff.1 h0] at hu
      simp at hu
    · refine ⟨⟨g, j * 3, none⟩, by simp [h], fun t u hu => ?_⟩
      rw [add_offS]
      exact hget t u hu
  have hLL : (fl idnC l ++ sp).length = cap * 3 := by rw [List.length_append, fl_length idnC_len]; exact hc3
  have s1 := Lib.hid hlen
  have s2 := Lib.hid hone
  have s3 : Hid (∀ t, t < news.length → (w.drew.cell? ⟨g, 0 + k * 3 + t, none⟩).isSome = true ∧ w.drew.frozen? ⟨g, 0 + k * 3 + t, none⟩ = false) := by
    intro t ht
    rw [hlen] at ht
    refine ⟨?_, hrow.frozen _⟩
    show (w.cell? _).isSome = true
    rw [hrow.at, List.getElem?_eq_getElem (by rw [hLL]; omega)]; rfl
  obtain ⟨W1, hW1⟩ : ∃ W1, W1 = w.drew.setCells g (0 + k * 3) news := ⟨_, rfl⟩
  have hrd : RowC w.drew g 29 (fl idnC l ++ sp) := hrow
  have hR1 : RowC W1 g 29 (splice (fl idnC l ++ sp) (k * 3) news) := by
    rw [hW1, Nat.zero_add]
    exact hrd.setCells news (k * 3) (by rw [hLL, hlen]; omega)
  have hB1 : w.grownBy W1 (some g) := by rw [hW1]; exact grown_setCellsS news _ (grown_drewS (grown_reflS w (some g)))
  have hspl : (splice (fl idnC l ++ sp) (k * 3) news).length = cap * 3 := by rw [length_splice _ _ _ (by rw [hLL, hlen]; omega), hLL]
  have hcl := fun c ty => clearId_one (c := c) hR1 (s := (l.length - 1) * 3) (by rw [hspl]; omega) ty
  have hR2 := hR1.setRow (splice (splice (fl idnC l ++ sp) (k * 3) news) ((l.length - 1) * 3) zcId)
  rw [HE.out] at hcl hR2
  have HW := Lib.hid hW1
  have HR2 := Lib.hid hR2
  have HB1 := Lib.hid hB1
  have HLN : Hid (k + (l.length - j) = l.length - 1) := by show _ = _; omega
  have HLN2 : Hid (l.length - (l.length - 1) = 1) := by show _ = _; omega
  have hkj : ((k : Int) == (j : Int)) = false := by simp; omega
  have hkc : k ≤ cap := by omega
  have hjc : j ≤ cap := by omega
  have hjl : j ≤ l.length := by omega
  have hkj' : k ≤ j := by omega
  obtain ⟨n, hn⟩ : ∃ n, l.length = n := ⟨_, rfl⟩
  rw [hn] at hc1 s1 hcl HLN HLN2 hjl hk ⊢
  have hnk : ¬ n = k := by omega
  have HJ := Lib.hid hj
  have HN1 : Hid (n - 1 ≤ cap) := by show _ ≤ _; omega
  have hnj : n - 1 = k + (n - j) := by omega
  rw [hnj] at hcl ⊢
  have hx1 : n - (k + (n - j)) = 1 := by omega
  have hx2 : k + (n - j) ≤ n := by omega
  have hx3 : k + (n - j) ≤ cap := by omega
  have hx4 : ¬ cap = k + (n - j) := by omega
  clear hW1 hR1 hB1 hspl hrow hrd hget hone hlen hnews hR2 hLL hn hc3 hj hnj HE
  go_enter Try.func9, Try.ntmps9
  go_wp2_with fail
  go_region_law (refine step_append_room rfl (.tmp 22) (.tmp 25) 27 rfl 29 i0 3 Try.underlying27 hi0 hz1 g 0 k cap (by simp [Act.eval, Act.put]) A (n - j) (cap - j) news (by simp [Act.eval, Act.put]) s1.out hsrc.out s2.out (by omega) s3.out ?_; rw [← HW.out])
  all_goals
    go_wp2_with fail
    go_ret
    exact ⟨rfl, HR2.out, grown_setRowS HB1.out _⟩

/-- one identifier out of a row of the call's own -/
theorem deleteId_own (l : List IdS) (k j base : Nat) (v : Value) (w : World) (h : OIdS w base v l) (hj : j = k + 1) (hk : k < l.length) :
    Calls Try.prog 9 #[v, .int .i64 (k : Int), .int .i64 (j : Int)] w fun e w' => ∃ v', e = .returned v' ∧ OIdS w' base v' (l.eraseIdx k) ∧ w.grownBy w' v.ownBlock ∧ v'.ownBlock = v.ownBlock := by
  rcases own_row h with ⟨_, h0, _⟩ | ⟨g, cap, sp, rfl, hg, hrow, hc1, hc2, hc3⟩
  · omega
  · refine (deleteId_any l k j g cap sp w hj hk hrow hc1 hc2 hc3).mono ?_
    rintro e w' ⟨rfl, hr, hg'⟩
    refine ⟨_, rfl, ?_, hg', rfl⟩
    have hl : (l.eraseIdx k).length = l.length - 1 := List.length_eraseIdx_of_lt hk
    have := own_mk (m := 3) (n := l.length - 1) (cap := cap) hg hr (by rw [fl_length idnC_len, hl]) (by omega) hc2 (by rw [List.length_append]; show _ + (3 + _) = _; omega)
    unfold OIdS
    rw [hl]
    exact this

end Go.Proofs.Ytabhalajelbfoaa
