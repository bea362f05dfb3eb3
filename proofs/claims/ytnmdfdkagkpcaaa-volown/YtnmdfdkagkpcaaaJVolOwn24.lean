/-
  The texts Bag8, Bag9, VolI, one behind the other; each says below what it holds and on what conditions.
-/
import Derived.Test.YtnmdfdkagkpcaaaJVolOwn22
import Derived.Laws.CopyOwn
import Derived.Deep.RegionLaw
import Derived.Test.YtnmdfdkagkpcaaaJVolOwn23

/-
  Stores into a row of items that is known whole; slices.Delete of one item of such a row. Conditions: as each says.
-/
namespace Go.Proofs.Ytnmdfdkagkpcaaa
open Go.RowKit
open Go.Proofs
open WoolBag

theorem splice_cons {L : List Value} {s : Nat} {v : Value} {r : List Value} (h : s < L.length) : splice (L.set s v) (s + 1) r = splice L s (v :: r) := by
  unfold splice
  rw [List.take_set, List.drop_set, if_pos (by omega), List.length_cons, List.take_succ_eq_append_getElem (by omega), List.set_append_right _ _ (by rw [List.length_take]; omega)]
  have h0 : s - (L.take s).length = 0 := by rw [List.length_take]; omega
  rw [h0]
  simp [show s + (r.length + 1) = s + 1 + r.length by omega]

theorem RowI.setCells : ∀ (news : List Value) {w : World} {g : Nat} {L : List Value} (s : Nat), RowI w g L → s + news.length ≤ L.length → RowI (w.setCells g s news) g (splice L s news)
  | [], w, g, L, s, h, hl => by
    show RowI w g _
    unfold splice
    simpa using h
  | v :: r, w, g, L, s, h, hl => by
    have hs : s < L.length := by simp at hl; omega
    have ih := RowI.setCells r (s + 1) (h.set s v) (by simp at hl ⊢; omega)
    rw [splice_cons hs] at ih
    exact ih

theorem below_setCells : ∀ (news : List Value) {B g : Nat} {w0 w : World} (s : Nat), Below B w0 w → B ≤ g → Below B w0 (w.setCells g s news)
  | [], _, _, _, _, _, h, _ => h
  | v :: r, _, g, _, _, s, h, hg => below_setCells r (s + 1) (Below.setCell h (p := ⟨g, s, none⟩) hg v) hg

/-- the cells of the empty item -/
def zc : List Value := [.int .i64 0, .int .i64 0, .string ⟨#[]⟩, .int .i64 0]

theorem RowI.setRow {w : World} {g : Nat} {L : List Value} (h : RowI w g L) (L' : List Value) : RowI (w.setRow g L'.toArray) g L' := setRow_heap w g _ _ _ _ h

/-- clear of one item -/
theorem clear_one {w : World} {g s c : Nat} {L : List Value} (h : RowI w g L) (hs : s + 4 ≤ L.length) (ty : TypeId) :
    (Builtin.clear_ #[28] ty #[.slice (some ⟨g, s, none⟩) 1 c]).run Try.prog w = .ok (.tuple #[]) (w.setRow g (splice L s zc).toArray) := by
  have hst := run_storeCells_at Try.prog g s 60 zc 0 L.toArray w h (by simp [zc]; omega) (by intro u hu; simp [zc] at hu; rcases hu with rfl | rfl | rfl | rfl <;> rfl)
  have hz : (Builtin.zeroCells (Value.agg #[.int .i64 0, .int .i64 0, .string ⟨#[]⟩, .int .i64 0]).cells 1).toList = zc := by kernel_rfl
  simp only [Nat.add_zero] at hst
  simp [Builtin.clear_, run_underlying Try.underlying28, hz, hst, splice]

/-- the row behind the two steps of a Delete -/
theorem erase_row (l : List Itm) (k : Nat) (hk : k < l.length) (sp : List Value) :
    splice (splice (itL l ++ sp) (k * 4) (itL (l.drop (k + 1)))) ((l.length - 1) * 4) zc = itL (l.eraseIdx k) ++ (zc ++ sp) := by
  have e1 : splice (itL l ++ sp) (k * 4) (itL (l.drop (k + 1))) = itL (l.eraseIdx k) ++ ((itL l).drop ((l.length - 1) * 4) ++ sp) := by
    unfold splice
    rw [List.take_append_of_le_length (by rw [itL_length]; omega), ← itL_take, itL_length, List.length_drop, List.drop_append_of_le_length (by rw [itL_length]; omega), List.eraseIdx_eq_take_drop_succ, itL_append, List.append_assoc,
      show k * 4 + (l.length - (k + 1)) * 4 = (l.length - 1) * 4 by omega]
  rw [e1]
  have e2 : (itL (l.eraseIdx k)).length = (l.length - 1) * 4 := by rw [itL_length, List.length_eraseIdx_of_lt hk]
  have e3 : ((itL l).drop ((l.length - 1) * 4)).length = 4 := by rw [List.length_drop, itL_length]; omega
  have e4 : zc.length = 4 := rfl
  generalize (itL l).drop ((l.length - 1) * 4) = D at e3
  unfold splice
  rw [← e2, List.take_left, e4, List.drop_append, List.drop_of_length_le (by omega), List.nil_append, show (itL (l.eraseIdx k)).length + 4 - (itL (l.eraseIdx k)).length = 4 by omega, List.drop_append, List.drop_of_length_le (by omega), e3, List.nil_append]
  rfl

set_option maxRecDepth 100000 in
set_option maxHeartbeats 2000000 in
theorem delete_any (l : List Itm) (k j g cap : Nat) (sp : List Value) (w : World) (hj : j = k + 1) (hk : k < l.length) (hrow : RowI w g (itL l ++ sp)) (hc1 : l.length ≤ cap) (hc2 : cap ≤ maxLen) (hc3 : l.length * 4 + sp.length = cap * 4) :
    Calls Try.prog 88 #[.slice (some ⟨g, 0, none⟩) l.length cap, .int .i64 (k : Int), .int .i64 (j : Int)] w fun e w' => e = .returned (.slice (some ⟨g, 0, none⟩) (l.length - 1) cap) ∧ RowI w' g (itL (l.eraseIdx k) ++ (zc ++ sp)) ∧ Below g w w' := by
  obtain ⟨i0, hi0, hz0, hz1, hz2⟩ := itInfo'
  have hcm := hc2
  unfold maxLen at hcm
  clear hc2
  have HE := Lib.hid (erase_row l k hk sp)
  obtain ⟨news, hnews⟩ : ∃ news, itL (l.drop (k + 1)) = news := ⟨_, rfl⟩
  have hlen : news.length = (l.length - j) * 4 := by rw [← hnews, itL_length, List.length_drop, hj]
  have hget : ∀ t u, news[t]? = some u → w.cell? ⟨g, j * 4 + t, none⟩ = some u := by
    intro t u hu
    rw [← hnews, itL_drop, List.getElem?_drop] at hu
    rw [hj]
    exact hrow.cell (get_app hu)
  have hone : ∀ u ∈ news, u.oneCell' = true := by rw [← hnews]; exact itL_one _
  rw [hnews] at HE
  obtain ⟨A, hA, hsrc⟩ : ∃ A : Addr, (if cap = j then some (⟨g, 0, none⟩ : Addr) else some ⟨g, j * 4, none⟩) = some A ∧ Hid (∀ t u, news[t]? = some u → w.drew.cell? (A.add t) = some u) := by
    by_cases h : cap = j
    · refine ⟨⟨g, 0, none⟩, by simp [h], fun t u hu => ?_⟩
      have h0 : news.length = 0 := by rw [hlen]; omega
      rw [List.length_eq_zero_iff.1 h0] at hu
      simp at hu
    · refine ⟨⟨g, j * 4, none⟩, by simp [h], fun t u hu => ?_⟩
      rw [add_lit]
      exact hget t u hu
  have hLL : (itL l ++ sp).length = cap * 4 := by rw [List.length_append, itL_length]; exact hc3
  have s1 := Lib.hid hlen
  have s2 := Lib.hid hone
  have s3 : Hid (∀ t, t < news.length → (w.drew.cell? ⟨g, 0 + k * 4 + t, none⟩).isSome = true ∧ w.drew.frozen? ⟨g, 0 + k * 4 + t, none⟩ = false) := by
    intro t ht
    rw [hlen] at ht
    refine ⟨?_, hrow.frozen _⟩
    show (w.cell? _).isSome = true
    rw [hrow.at, List.getElem?_eq_getElem (by rw [hLL]; omega)]; rfl
  obtain ⟨W1, hW1⟩ : ∃ W1, W1 = w.drew.setCells g (0 + k * 4) news := ⟨_, rfl⟩
  have hrd : RowI w.drew g (itL l ++ sp) := hrow
  have hR1 : RowI W1 g (splice (itL l ++ sp) (k * 4) news) := by
    rw [hW1, Nat.zero_add]
    exact hrd.setCells news (k * 4) (by rw [hLL, hlen]; omega)
  have hB1 : Below g w W1 := by rw [hW1]; exact below_setCells news _ (Below.drew (Below.refl g w)) (Nat.le_refl _)
  have hspl : (splice (itL l ++ sp) (k * 4) news).length = cap * 4 := by rw [length_splice _ _ _ (by rw [hLL, hlen]; omega), hLL]
  have hcl := fun c ty => clear_one (c := c) hR1 (s := (l.length - 1) * 4) (by rw [hspl]; omega) ty
  have hR2 := hR1.setRow (splice (splice (itL l ++ sp) (k * 4) news) ((l.length - 1) * 4) zc)
  rw [HE.out] at hcl hR2
  have HW := Lib.hid hW1
  have HR2 := Lib.hid hR2
  have HB1 := Lib.hid hB1
  have HLN : Hid (k + (l.length - j) = l.length - 1) := by show _ = _; omega
  have HLN2 : Hid (l.length - (l.length - 1) = 1) := by show _ = _; omega
  have hkj : ((k : Int) == (j : Int)) = false := by simp; omega
  have hkc : k ≤ cap := by omega
  have hjc : j ≤ cap := by omega
  have hjl : j ≤ l.length := by omega
  have hkj' : k ≤ j := by omega
  obtain ⟨n, hn⟩ : ∃ n, l.length = n := ⟨_, rfl⟩
  rw [hn] at hc1 s1 hcl HLN HLN2 hjl hk ⊢
  have hnk : ¬ n = k := by omega
  have HJ := Lib.hid hj
  have HN1 : Hid (n - 1 ≤ cap) := by show _ ≤ _; omega
  have hnj : n - 1 = k + (n - j) := by omega
  rw [hnj] at hcl ⊢
  have hx1 : n - (k + (n - j)) = 1 := by omega
  have hx2 : k + (n - j) ≤ n := by omega
  have hx3 : k + (n - j) ≤ cap := by omega
  have hx4 : ¬ cap = k + (n - j) := by omega
  clear hW1 hR1 hB1 hspl hrow hrd hget hone hlen hnews hR2 hLL hn hc3 hj hnj HE
  go_enter Try.func88, Try.ntmps88
  go_wp2_with fail
  go_region_law (refine step_append_room rfl (.tmp 22) (.tmp 25) 28 rfl 60 i0 4 Try.underlying28 hi0 hz1 g 0 k cap (by simp [Act.eval, Act.put]) A (n - j) (cap - j) news (by simp [Act.eval, Act.put]) s1.out hsrc.out s2.out (by omega) s3.out ?_; rw [← HW.out])
  all_goals
    go_wp2_with fail
    go_ret
    exact ⟨rfl, HR2.out, below_setRow HB1.out (Nat.le_refl _) _⟩

end Go.Proofs.Ytnmdfdkagkpcaaa

/-
  What Drop of package bag returns. Condition: the row can be read.
-/
namespace Go.Proofs.Ytnmdfdkagkpcaaa
open Go.RowKit
open Go.Proofs
open WoolBag

/-- what Drop leaves: a new row and an error -/
def DropPost (w : World) (R : List Itm × Int) (e : Ending) (w' : World) : Prop :=
  ∃ v', e = .returned (.tuple #[v', .int .i64 R.2]) ∧ OItems w' w.heap.size v' R.1 ∧ Up w w'

theorem less_set (l : List Itm) (k : Nat) (h : k < l.length) : (l.set k (more l[k] (-1))).eraseIdx k = l.eraseIdx k := by
  rw [List.eraseIdx_set_eq]

set_option maxRecDepth 100000 in
set_option maxHeartbeats 1000000 in
theorem drop_any (v : Value) (l : List Itm) (i : Bool × Int × Int) (w : World) (h : Items w v l) :
    Calls Try.prog 74 #[v, idV i] w (DropPost w (WoolBag.drop FP l i)) := by
  obtain ⟨R, hR⟩ : ∃ R, WoolBag.drop FP l i = R := ⟨_, rfl⟩
  rw [hR]
  unfold WoolBag.drop at hR
  have hfi := Lib.hid (fun W (hW : Up w W) => find_any v l i W (h.up hW))
  unfold findR at hfi
  have HL := Lib.hid (find_lt (l := l) (i := i))
  obtain ⟨k, hK⟩ : ∃ K, (find FP l i).1 = K := ⟨_, rfl⟩
  obtain ⟨E, hE⟩ : ∃ E, (find FP l i).2 = E := ⟨_, rfl⟩
  rw [hK, hE] at hfi HL hR
  have HCL := Lib.hid (fun W (hW : Up w W) hb => clone_any v l W (h.up hW) (Bag.len hb) (fun x hx => (Bag.ok (F := FP) hb x hx).1))
  have HRR := Lib.hid hR
  obtain ⟨o, c, rfl, h3⟩ := h.slice
  unfold maxLen at h3
  unfold idV at hfi ⊢
  obtain ⟨ib, is, iN⟩ := i
  simp only at hfi ⊢
  clear hR hK hE h
  go_enter Try.func74, Try.ntmps74
  go_wp2_with fail
  refine (hfi.out _ (Up.alloc _ _)).mono ?_
  rintro e w1 ⟨rfl, u1⟩
  have HU1 : Hid (Up w w1) := Up.after _ _ _ u1
  clear u1
  by_cases h0 : E = 0
  · subst h0
    obtain ⟨hk, hbag, _⟩ := HL.out rfl
    have hl := hbag.len
    have hok := hbag.ok _ (List.getElem_mem hk)
    have r1 := hok.2.2.2.2.1
    have r2 := hok.2.2.2.2.2
    have hr := HRR.out
    rw [if_pos rfl] at hr
    unfold less at hr
    rw [getElem!_pos l k hk] at hr
    have HC := Lib.hid (HCL.out w1 HU1.out hbag)
    have hgets := (itL_get l k hk).2.2.2
    have hsetR := itL_setR l k hk (-1)
    obtain ⟨L', hL'⟩ : ∃ L', l.set k (more l[k] (-1)) = L' := ⟨_, rfl⟩
    have hLl : L'.length = l.length := by rw [← hL', List.length_set]
    have hgets' := (itL_get L' k (by omega)).2.2.2
    have hk' : L'[k]'(by omega) = more l[k] (-1) := by subst hL'; rw [List.getElem_set_self]
    have hera : L'.eraseIdx k = l.eraseIdx k := by rw [← hL']; exact less_set l k hk
    rw [hk'] at hgets'
    simp only [more] at hgets'
    rw [hL'] at hr hsetR
    obtain ⟨r, hrr⟩ : ∃ r, l[k].r = r := ⟨_, rfl⟩
    rw [hrr] at r1 r2 hr hgets hsetR hgets'
    have HG1 := Lib.hid hgets
    have HG2 := Lib.hid hgets'
    have HSR := Lib.hid hsetR
    have HLL := Lib.hid hLl
    have HER := Lib.hid hera
    have HRV := Lib.hid hr
    clear hgets hgets' hsetR hLl hk' hr hrr hok hbag hL' HL HRR HCL hera
    go_wp2_with fail
    refine HC.out.mono ?_
    rintro e w2 ⟨v', rfl, hown, u2⟩
    rcases hown.row with ⟨_, hnil⟩ | ⟨g, cap, sp, rfl, hg, hrow, hc1, hc2, hc3⟩
    · rw [hnil] at hk; simp at hk
    have hU2 := HU1.out.trans u2
    have hgw : w.heap.size ≤ g := Nat.le_trans HU1.out.size hg
    have c3 := hrow.cell (get_app (sp := sp) HG1.out)
    have fz := hrow.frozen (k * 4 + 3)
    obtain ⟨w3, hw3⟩ : ∃ w3, w2.setCell ⟨g, k * 4 + 3, none⟩ (.int .i64 (r + -1)) = w3 := ⟨_, rfl⟩
    have hrow3 := hrow.set (k * 4 + 3) (.int .i64 (r + -1))
    rw [List.set_append_left _ _ (by rw [itL_length]; omega), HSR.out, hw3] at hrow3
    have hU3 : Up w w3 := by rw [← hw3]; exact Below.setCell hU2 (p := ⟨g, k * 4 + 3, none⟩) hgw _
    have e3 := hrow3.cell (get_app (sp := sp) HG2.out)
    have hwr : IntKind.i64.wrap (r - 1) = r + -1 := by rw [Int.sub_eq_add_neg]; exact IntWalk.i64_in _ (by omega)
    have hm : r - 1 = r + -1 := Int.sub_eq_add_neg
    have HROW3 := Lib.hid hrow3
    have HU3 := Lib.hid hU3
    have HC3 := Lib.hid hc3
    have HW3 := Lib.hid hw3
    have HGW := Lib.hid hgw
    have HC2 := Lib.hid hc2
    unfold maxLen at hc2
    rw [← hw3, ← hm] at e3
    rw [← hm] at HW3
    clear hown hrow hg u2 hU2 hrow3 hU3 hw3 hc3 HG1 HG2 HSR hwr
    by_cases h1 : r = 1
    · have hr := HRV.out
      rw [if_pos h1] at hr
      subst h1
      have HRV2 := Lib.hid hr
      have HDEL := Lib.hid (delete_any L' k (k + 1) g cap sp w3 rfl (by rw [HLL.out]; exact hk) HROW3.out (by rw [HLL.out]; exact hc1) HC2.out (by rw [HLL.out]; exact HC3.out))
      rw [HLL.out, HER.out] at HDEL
      clear hr hm
      have hel : (l.eraseIdx k).length = l.length - 1 := List.length_eraseIdx_of_lt hk
      have HEL := Lib.hid hel
      clear hel
      go_wp2_with fail
      rw [show w2.setCell ⟨g, k * 4 + 3, none⟩ (.int .i64 0) = w3 from HW3.out]
      have hd := HDEL.out
      rw [show ((k + 1 : Nat) : Int) = (k : Int) + 1 by omega] at hd
      refine hd.mono ?_
      rintro e w4 ⟨rfl, hr4, hb4⟩
      have HR4 := Lib.hid hr4
      have HB4 := Lib.hid hb4
      clear hd hr4 hb4
      go_wp2_with fail
      go_ret2
      have hel := HEL.out
      refine ⟨_, by rw [← HRV2.out]; rfl, ?_, Below.trans HU3.out (HB4.out.mono hgw)⟩
      rw [← HRV2.out]
      show OItems w4 w.heap.size (.slice (some ⟨g, 0, none⟩) (l.length - 1) cap) (l.eraseIdx k)
      rw [← hel]
      have hz : zc.length = 4 := rfl
      exact OItems.mk hgw HR4.out (by omega) HC2.out (by rw [List.length_append, hz]; have := HC3.out; omega)
    · have hr := HRV.out
      rw [if_neg h1] at hr
      have HRV2 := Lib.hid hr
      have d0 : (r - 1 == 0) = false := by simp; omega
      clear hr hm
      go_wp2_with fail
      rw [HW3.out]
      go_ret2
      have hll := HLL.out
      refine ⟨_, by rw [← HRV2.out]; rfl, ?_, HU3.out⟩
      rw [← HRV2.out]
      show OItems w3 w.heap.size (.slice (some ⟨g, 0, none⟩) l.length cap) L'
      rw [← hll]
      exact OItems.mk hgw HROW3.out (by omega) HC2.out (by rw [hll]; exact HC3.out)
  · have hr := HRR.out
    rw [if_neg h0] at hr
    have HRV := Lib.hid hr
    have hne : (E != 0) = true := by rw [bne_iff_ne]; exact h0
    clear hr h0
    go_wp2_with fail
    go_ret2
    exact ⟨_, by rw [← HRV.out]; rfl, by rw [← HRV.out]; exact OItems.nil _ _, HU1.out⟩

end Go.Proofs.Ytnmdfdkagkpcaaa

/-
  What vol's release returns: a bag from which a reference of each was taken; identifiers laid in a volume's own row. Conditions: as each says.
-/
namespace Go.Proofs.Ytnmdfdkagkpcaaa
open Go.RowKit
open Go.Proofs
open WoolBag
open WoolVol

/-- one reference taken -/
def rel1 (l : List Itm) (i : Idn) : List Itm := if i.1 then (WoolBag.drop FP l i).1 else l

theorem rel_snoc : ∀ (a : List Idn) (l : List Itm) (i : Idn), rel FP l (a ++ [i]) = rel1 (rel FP l a) i
  | [], l, i => rfl
  | j :: r, l, i => by show rel FP _ (r ++ [i]) = _; rw [rel_snoc r]; rfl

theorem rel1_bag {l : List Itm} (h : Bag FP l) (i : Idn) : Bag FP (rel1 l i) := by
  unfold rel1
  split
  · by_cases e : (WoolBag.drop FP l i).2 = 0
    · exact drop_bag (F := FP) (l := l) (i := i) (b := (WoolBag.drop FP l i).1) (by rw [← e])
    · rw [drop_err e]; exact Bag.nil
  · exact h

theorem rel_bag : ∀ (a : List Idn) {l : List Itm}, Bag FP l → Bag FP (rel FP l a)
  | [], _, h => h
  | j :: r, _, h => rel_bag r (rel1_bag h j)

def RlRel (l : List Itm) (bl : List Idn) (base : Nat) (w : World) (v i : Value) (wr : World) : Prop := ∃ k : Nat, k ≤ bl.length ∧ i = .int .i64 (k : Int) ∧ OItems wr base v (rel FP l (bl.take k)) ∧ Up w wr

def RlPost (w : World) (base : Nat) (l : List Itm) (e : Ending) (w' : World) : Prop := ∃ v', e = .returned v' ∧ OItems w' base v' l ∧ Up w w'

set_option maxRecDepth 100000 in
set_option maxHeartbeats 1000000 in
theorem release_any (v vd : Value) (l : List Itm) (bl : List Idn) (base : Nat) (w : World) (h : OItems w base v l) (hb : Bag FP l) (hd : Ids w vd bl) (hbs : base ≤ w.heap.size) :
    Calls Try.prog 48 #[v, vd] w (RlPost w base (rel FP l bl)) := by
  obtain ⟨oD, cD, rfl, hD1, hD2⟩ := hd.slice
  unfold maxLen at hD2
  have HI := Lib.hid hd
  have HB := Lib.hid hb
  have HO := Lib.hid h
  clear h hb hd
  go_enter Try.func48, Try.ntmps48
  go_wp2_with fail
  go_loopw [0, 9] (fun v i wr => RlRel l bl base w v i wr) (fun _ i _ => bl.length - (intOf i).toNat)
  case atStart => exact ⟨0, Nat.zero_le _, rfl, HO.out, Up.refl w⟩
  case round =>
    obtain ⟨k, hk, rfl, ho, hu⟩ := hrel
    by_cases hlt : k < bl.length
    · obtain ⟨b, off, rfl, h5⟩ := HI.out.at (by intro e; rw [e] at hlt; simp at hlt)
      obtain ⟨a1, a2, a3⟩ := h5 k hlt
      rw [← hu.cell (World.block_lt_of_cell? w _ a1)] at a1
      rw [← hu.cell (World.block_lt_of_cell? w _ a2)] at a2
      rw [← hu.cell (World.block_lt_of_cell? w _ a3)] at a3
      have HST : Hid (rel FP l (bl.take (k + 1)) = rel1 (rel FP l (bl.take k)) bl[k]) := by
        show _ = _
        rw [List.take_succ_eq_append_getElem hlt, rel_snoc]
      obtain ⟨l', hl'⟩ : ∃ l', rel FP l (bl.take k) = l' := ⟨_, rfl⟩
      rw [hl'] at ho HST
      obtain ⟨x, hx⟩ : ∃ x, bl[k] = x := ⟨_, rfl⟩
      rw [hx] at a1 a2 a3 HST
      obtain ⟨xb, xs, xn⟩ := x
      simp only at a1 a2 a3
      have HDR := Lib.hid (fun W (hW : Up wr W) => drop_any u0 l' (xb, xs, xn) W (ho.items.up hW))
      unfold idV at HDR
      simp only at HDR
      have HOO := Lib.hid ho
      have HU := Lib.hid hu
      have hbw : base ≤ wr.heap.size := Nat.le_trans hbs hu.size
      have d1 : decide (k < bl.length) = true := decide_eq_true hlt
      clear h5 ho hu hl' hx
      cases xb with
      | false =>
        have HST2 : Hid (rel FP l (bl.take (k + 1)) = l') := HST.out
        go_wp2_with fail
        go_roundw
        case rel => exact ⟨k + 1, by omega, by go_num, by rw [HST2.out]; exact HOO.out.up (Up.alloc _ _), HU.out.trans (Up.alloc _ _)⟩
        case measure => simp only [intOf]; omega
      | true =>
        have HST2 : Hid (rel FP l (bl.take (k + 1)) = (WoolBag.drop FP l' (true, xs, xn)).1) := HST.out
        go_wp2_with fail
        refine (HDR.out _ (Up.alloc _ _)).mono ?_
        rintro e w1 ⟨v1, rfl, ho1, u1⟩
        have HO1 : Hid (OItems w1 base v1 (WoolBag.drop FP l' (true, xs, xn)).1) := ho1.base (Nat.le_trans hbw (Up.alloc _ _).size)
        have HU1 : Hid (Up w w1) := HU.out.trans ((Up.alloc _ _).trans u1)
        clear ho1 u1
        go_wp2_with fail
        go_roundw
        case rel => exact ⟨k + 1, by omega, by go_num, by rw [HST2.out]; exact HO1.out, HU1.out⟩
        case measure => simp only [intOf]; omega
    · have d1 : decide (k < bl.length) = false := decide_eq_false hlt
      rw [List.take_of_length_le (by omega)] at ho
      have HOO := Lib.hid ho
      have HU := Lib.hid hu
      clear ho hu
      go_wp2_with fail
      go_ret
      exact ⟨_, rfl, HOO.out, HU.out⟩

theorem id_set : ∀ (l : List Idn) (k : Nat) (_ : k < l.length) (x : Idn) (sp : List Value), (((fl idC l ++ sp).set (k * 3) (.bool x.1)).set (k * 3 + 1) (.int .i64 x.2.1)).set (k * 3 + 2) (.int .i64 x.2.2) = fl idC (l.set k x) ++ sp
  | [], k, h, _, _ => by simp at h
  | y :: r, 0, h, x, sp => rfl
  | y :: r, k + 1, h, x, sp => by
    have ih := id_set r k (by simpa using h) x sp
    show (((idC y ++ fl idC r ++ sp).set _ _).set _ _).set _ _ = idC y ++ fl idC (r.set k x) ++ sp
    rw [List.append_assoc, List.append_assoc, ← ih]
    unfold idC
    rw [show (k + 1) * 3 = k * 3 + 1 + 1 + 1 by omega, show k * 3 + 1 + 1 + 1 + 2 = k * 3 + 2 + 1 + 1 + 1 by omega]
    simp only [List.cons_append, List.nil_append, List.set_cons_succ]

/-- an identifier stored -/
def layId (w : World) (g a : Nat) (x : Idn) : World := ((w.setCell ⟨g, a * 3, none⟩ (.bool x.1)).setCell ⟨g, a * 3 + 1, none⟩ (.int .i64 x.2.1)).setCell ⟨g, a * 3 + 2, none⟩ (.int .i64 x.2.2)

theorem own_layId {w : World} {base T m n g a : Nat} {v : Value} {x : Idn} {L : List Value} (h : w.ownsRow base T m v n L) (hne : v.ownBlock ≠ some g) : (layId w g a x).ownsRow base T m v n L := own_set (own_set (own_set h hne) hne) hne

theorem idItem : (51 : Nat) ≠ 60 := by decide

theorem OItems.laidId {w : World} {base g a : Nat} {v : Value} {x : Idn} {l : List Itm} {L : List Value} (h : OItems w base v l) (hr : RowC w g 51 L) : OItems (layId w g a x) base v l := own_layId h (own_apart h hr (Ne.symm idItem))

theorem RowC.laidId {w : World} {g T R a : Nat} {x : Idn} {L : List Value} (h : RowC w R T L) (hne : R ≠ g) : RowC (layId w g a x) R T L := ((h.other hne _ _).other hne _ _).other hne _ _

theorem below_layId {B g a : Nat} {w0 w : World} {x : Idn} (h : Below B w0 w) (hg : B ≤ g) : Below B w0 (layId w g a x) :=
  ((h.setCell (p := ⟨g, a * 3, none⟩) hg _).setCell (p := ⟨g, a * 3 + 1, none⟩) hg _).setCell (p := ⟨g, a * 3 + 2, none⟩) hg _

/-- the row of a volume's blocks, as it lies -/
theorem ORd.at {w : World} {base : Nat} {C : List VC} {l : List Vo} (h : ORd w base C l) {k a : Nat} (hk : k < l.length) (ha : a < l[k].bl.length) :
    ∃ g cap sp, (C[k]'(by have := h.len; omega)).sl = .slice (some ⟨g, 0, none⟩) l[k].bl.length cap ∧ base ≤ g ∧ RowC w g 51 (fl idC l[k].bl ++ sp) ∧ l[k].bl.length ≤ cap ∧ cap ≤ maxLen ∧ l[k].bl.length * 3 + sp.length = cap * 3 := by
  rcases own_row (h.bl k hk) with ⟨_, h1, _⟩ | ⟨g, cap, sp, h1, h2, h3, h4, h5, h6⟩
  · omega
  · exact ⟨g, cap, sp, h1, h2, h3, h4, h5, h6⟩

theorem OVols.laidId {w : World} {base g cap a k : Nat} {v : Value} {x : Idn} {C : List VC} {l : List Vo} {sp : List Value} (hv : OVC w base v C) (h : ORd w base C l) (hk : k < l.length) (ha : a < l[k].bl.length)
    (hsl : (C[k]'(by have := h.len; omega)).sl = .slice (some ⟨g, 0, none⟩) l[k].bl.length cap) (hg : base ≤ g) (hr : RowC w g 51 (fl idC l[k].bl ++ sp)) (h4 : l[k].bl.length ≤ cap) (h5 : cap ≤ maxLen) (h6 : l[k].bl.length * 3 + sp.length = cap * 3) :
    OVols (layId w g a x) base v (setB l k a x) := by
  have hlen := h.len
  have hsB : setB l k a x = l.set k ⟨l[k].nm, l[k].bl.set a x⟩ := by
    unfold setB
    rw [getElem!_pos l k hk]
  have hb : (C[k]'(by omega)).sl.ownBlock = some g := by rw [hsl]; rfl
  rw [hsB]
  refine ⟨C, own_layId hv (own_apart hv hr (Ne.symm idVol)), ⟨by rw [List.length_set]; exact hlen, ?_, ?_, ?_⟩⟩
  · intro j hj
    rw [List.length_set] at hj
    by_cases e : k = j
    · subst e; rw [List.getElem_set_self]; exact h.nm k hk
    · rw [List.getElem_set_ne e]; exact h.nm j hj
  · intro j hj
    rw [List.length_set] at hj
    by_cases e : k = j
    · subst e
      rw [List.getElem_set_self]
      have hr' : RowC (layId w g a x) g 51 (fl idC (l[k].bl.set a x) ++ sp) := by
        have := ((hr.set (a * 3) (.bool x.1)).set (a * 3 + 1) (.int .i64 x.2.1)).set (a * 3 + 2) (.int .i64 x.2.2)
        rw [id_set l[k].bl a ha x sp] at this
        exact this
      have := own_mk (m := 3) (n := (l[k].bl.set a x).length) hg hr' (by rw [fl_length idC_len]) (by rw [List.length_set]; exact h4) h5 (by rw [List.length_set]; exact h6)
      rw [hsl]
      rw [List.length_set] at this
      show OIds _ _ _ (l[k].bl.set a x)
      unfold OIds
      rw [List.length_set]
      exact this
    · rw [List.getElem_set_ne e]
      exact own_layId (h.bl j hj) (h.apart k j hk hj g e hb)
  · intro i j hi hj b hne
    rw [List.length_set] at hi hj
    exact h.apart i j hi hj b hne

end Go.Proofs.Ytnmdfdkagkpcaaa
