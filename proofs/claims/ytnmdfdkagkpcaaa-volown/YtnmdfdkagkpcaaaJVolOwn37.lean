/-
  The texts VolT, VolZ, VolK0, one behind the other; each says below what it holds and on what conditions.
-/
import Derived.Test.YtnmdfdkagkpcaaaJVolOwn34
import Derived.Test.YtnmdfdkagkpcaaaJVolOwn24
import Derived.Test.YtnmdfdkagkpcaaaJVolOwn36
import Derived.Test.YtnmdfdkagkpcaaaJVolOwn25

/-
  slices.Delete of one volume of a row that is known whole. Conditions: as each says.
-/
namespace Go.Proofs.Ytnmdfdkagkpcaaa
open Go.RowKit
open Go.Proofs
open WoolBag
open WoolVol

/-- the cells of the empty volume -/
def zcV : List Value := [.string ⟨#[]⟩, .slice none 0 0]

theorem RowV.setCells : ∀ (news : List Value) {w : World} {g : Nat} {L : List Value} (s : Nat), RowV w g L → s + news.length ≤ L.length → RowV (w.setCells g s news) g (splice L s news)
  | [], w, g, L, s, h, hl => by
    show RowV w g _
    unfold splice
    simpa using h
  | v :: r, w, g, L, s, h, hl => by
    have hs : s < L.length := by simp at hl; omega
    have ih := RowV.setCells r (s + 1) (h.set s v) (by simp at hl ⊢; omega)
    rw [splice_cons hs] at ih
    exact ih

theorem grown_setC {w0 w : World} {g : Nat} (h : w0.grownBy w (some g)) (s : Nat) (v : Value) : w0.grownBy (w.setCell ⟨g, s, none⟩ v) (some g) := by
  have h2 := grown_set w g s v
  exact ⟨h.os, h.tape, h.output, Nat.le_trans h.size h2.size, fun k hk hne => (h2.block k (Nat.lt_of_lt_of_le hk h.size) hne).trans (h.block k hk hne)⟩
theorem grown_setCells : ∀ (news : List Value) {g : Nat} {w0 w : World} (s : Nat), w0.grownBy w (some g) → w0.grownBy (w.setCells g s news) (some g)
  | [], _, _, _, _, h => h
  | v :: r, _, _, _, s, h => grown_setCells r (s + 1) (grown_setC h s v)

/-- clear of one volume -/
theorem clearV_one {w : World} {g s c : Nat} {L : List Value} (h : RowV w g L) (hs : s + 2 ≤ L.length) (ty : TypeId) :
    (Builtin.clear_ #[29] ty #[.slice (some ⟨g, s, none⟩) 1 c]).run Try.prog w = .ok (.tuple #[]) (w.setRow g (splice L s zcV).toArray) := by
  have hst := run_storeCells_at Try.prog g s 62 zcV 0 L.toArray w h (by simp [zcV]; omega) (by intro u hu; simp [zcV] at hu; rcases hu with rfl | rfl <;> rfl)
  have hz : (Builtin.zeroCells (Value.agg #[.string ⟨#[]⟩, .slice none 0 0]).cells 1).toList = zcV := by kernel_rfl
  simp only [Nat.add_zero] at hst
  simp [Builtin.clear_, run_underlying Try.underlying29, hz, hst, splice]

/-- the row behind the two steps of a Delete -/
theorem eraseV_row (l : List VC) (k : Nat) (hk : k < l.length) (sp : List Value) :
    splice (splice (fl vcC l ++ sp) (k * 2) (fl vcC (l.drop (k + 1)))) ((l.length - 1) * 2) zcV = fl vcC (l.eraseIdx k) ++ (zcV ++ sp) := by
  have e1 : splice (fl vcC l ++ sp) (k * 2) (fl vcC (l.drop (k + 1))) = fl vcC (l.eraseIdx k) ++ ((fl vcC l).drop ((l.length - 1) * 2) ++ sp) := by
    unfold splice
    rw [List.take_append_of_le_length (by rw [vL_length]; omega), ← vL_take, vL_length, List.length_drop, List.drop_append_of_le_length (by rw [vL_length]; omega), List.eraseIdx_eq_take_drop_succ, vL_append, List.append_assoc,
      show k * 2 + (l.length - (k + 1)) * 2 = (l.length - 1) * 2 by omega]
  rw [e1]
  have e2 : (fl vcC (l.eraseIdx k)).length = (l.length - 1) * 2 := by rw [vL_length, List.length_eraseIdx_of_lt hk]
  have e3 : ((fl vcC l).drop ((l.length - 1) * 2)).length = 2 := by rw [List.length_drop, vL_length]; omega
  have e4 : zcV.length = 2 := rfl
  generalize (fl vcC l).drop ((l.length - 1) * 2) = D at e3
  unfold splice
  rw [← e2, List.take_left, e4, List.drop_append, List.drop_of_length_le (by omega), List.nil_append, show (fl vcC (l.eraseIdx k)).length + 2 - (fl vcC (l.eraseIdx k)).length = 2 by omega, List.drop_append, List.drop_of_length_le (by omega), e3, List.nil_append]
  rfl

set_option maxRecDepth 100000 in
set_option maxHeartbeats 2000000 in
theorem deleteV_any (l : List VC) (k j g cap : Nat) (sp : List Value) (w : World) (h1l : ∀ u ∈ fl vcC l, u.oneCell' = true) (hj : j = k + 1) (hk : k < l.length) (hrow : RowV w g (fl vcC l ++ sp)) (hc1 : l.length ≤ cap) (hc2 : cap ≤ maxLen) (hc3 : l.length * 2 + sp.length = cap * 2) :
    Calls Try.prog 49 #[.slice (some ⟨g, 0, none⟩) l.length cap, .int .i64 (k : Int), .int .i64 (j : Int)] w fun e w' => e = .returned (.slice (some ⟨g, 0, none⟩) (l.length - 1) cap) ∧ RowV w' g (fl vcC (l.eraseIdx k) ++ (zcV ++ sp)) ∧ w.grownBy w' (some g) := by
  obtain ⟨i0, hi0, hz0, hz1, hz2⟩ := volInfo'
  have hcm := hc2
  unfold maxLen at hcm
  clear hc2
  have HE := Lib.hid (eraseV_row l k hk sp)
  obtain ⟨news, hnews⟩ : ∃ news, fl vcC (l.drop (k + 1)) = news := ⟨_, rfl⟩
  have hlen : news.length = (l.length - j) * 2 := by rw [← hnews, vL_length, List.length_drop, hj]
  have hget : ∀ t u, news[t]? = some u → w.cell? ⟨g, j * 2 + t, none⟩ = some u := by
    intro t u hu
    rw [← hnews, vL_drop, List.getElem?_drop] at hu
    rw [hj]
    exact hrow.cell (get_appV hu)
  have hone : ∀ u ∈ news, u.oneCell' = true := by rw [← hnews]; exact vL_one h1l (k + 1)
  rw [hnews] at HE
  obtain ⟨A, hA, hsrc⟩ : ∃ A : Addr, (if cap = j then some (⟨g, 0, none⟩ : Addr) else some ⟨g, j * 2, none⟩) = some A ∧ Hid (∀ t u, news[t]? = some u → w.drew.cell? (A.add t) = some u) := by
    by_cases h : cap = j
    · refine ⟨⟨g, 0, none⟩, by simp [h], fun t u hu => ?_⟩
      have h0 : news.length = 0 := by rw [hlen]; omega
      rw [List.length_eq_zero_iff.1 h0] at hu
      simp at hu
    · refine ⟨⟨g, j * 2, none⟩, by simp [h], fun t u hu => ?_⟩
      rw [add_lit]
      exact hget t u hu
  have hLL : (fl vcC l ++ sp).length = cap * 2 := by rw [List.length_append, vL_length]; exact hc3
  have s1 := Lib.hid hlen
  have s2 := Lib.hid hone
  have s3 : Hid (∀ t, t < news.length → (w.drew.cell? ⟨g, 0 + k * 2 + t, none⟩).isSome = true ∧ w.drew.frozen? ⟨g, 0 + k * 2 + t, none⟩ = false) := by
    intro t ht
    rw [hlen] at ht
    refine ⟨?_, hrow.frozen _⟩
    show (w.cell? _).isSome = true
    rw [hrow.at, List.getElem?_eq_getElem (by rw [hLL]; omega)]; rfl
  obtain ⟨W1, hW1⟩ : ∃ W1, W1 = w.drew.setCells g (0 + k * 2) news := ⟨_, rfl⟩
  have hrd : RowV w.drew g (fl vcC l ++ sp) := hrow
  have hR1 : RowV W1 g (splice (fl vcC l ++ sp) (k * 2) news) := by
    rw [hW1, Nat.zero_add]
    exact hrd.setCells news (k * 2) (by rw [hLL, hlen]; omega)
  have hB1 : w.grownBy W1 (some g) := by rw [hW1]; exact grown_setCells news _ (grown_drew (grown_refl w (some g)))
  have hspl : (splice (fl vcC l ++ sp) (k * 2) news).length = cap * 2 := by rw [length_splice _ _ _ (by rw [hLL, hlen]; omega), hLL]
  have hcl := fun c ty => clearV_one (c := c) hR1 (s := (l.length - 1) * 2) (by rw [hspl]; omega) ty
  have hR2 := hR1.setRow (splice (splice (fl vcC l ++ sp) (k * 2) news) ((l.length - 1) * 2) zcV)
  rw [HE.out] at hcl hR2
  have HW := Lib.hid hW1
  have HR2 := Lib.hid hR2
  have HB1 := Lib.hid hB1
  have HLN : Hid (k + (l.length - j) = l.length - 1) := by show _ = _; omega
  have HLN2 : Hid (l.length - (l.length - 1) = 1) := by show _ = _; omega
  have hkj : ((k : Int) == (j : Int)) = false := by simp; omega
  have hkc : k ≤ cap := by omega
  have hjc : j ≤ cap := by omega
  have hjl : j ≤ l.length := by omega
  have hkj' : k ≤ j := by omega
  obtain ⟨n, hn⟩ : ∃ n, l.length = n := ⟨_, rfl⟩
  rw [hn] at hc1 s1 hcl HLN HLN2 hjl hk ⊢
  have hnk : ¬ n = k := by omega
  have HJ := Lib.hid hj
  have HN1 : Hid (n - 1 ≤ cap) := by show _ ≤ _; omega
  have hnj : n - 1 = k + (n - j) := by omega
  rw [hnj] at hcl ⊢
  have hx1 : n - (k + (n - j)) = 1 := by omega
  have hx2 : k + (n - j) ≤ n := by omega
  have hx3 : k + (n - j) ≤ cap := by omega
  have hx4 : ¬ cap = k + (n - j) := by omega
  clear h1l hW1 hR1 hB1 hspl hrow hrd hget hone hlen hnews hR2 hLL hn hc3 hj hnj HE
  go_enter Try.func49, Try.ntmps49
  go_wp2_with fail
  go_region_law (refine step_append_room rfl (.tmp 22) (.tmp 25) 29 rfl 62 i0 2 Try.underlying29 hi0 hz1 g 0 k cap (by simp [Act.eval, Act.put]) A (n - j) (cap - j) news (by simp [Act.eval, Act.put]) s1.out hsrc.out s2.out (by omega) s3.out ?_; rw [← HW.out])
  all_goals
    go_wp2_with fail
    go_ret
    exact ⟨rfl, HR2.out, grown_setRow HB1.out _⟩

end Go.Proofs.Ytnmdfdkagkpcaaa

/-
  What vol's Drop returns. Conditions: a state that can be read.
-/
namespace Go.Proofs.Ytnmdfdkagkpcaaa
open Go.RowKit
open Go.Proofs
open WoolBag
open WoolVol

theorem Rd.erase {w : World} {C : List VC} {l : List Vo} (h : Rd w C l) (k : Nat) : Rd w (C.eraseIdx k) (l.eraseIdx k) := by
  rw [List.eraseIdx_eq_take_drop_succ, List.eraseIdx_eq_take_drop_succ]
  exact (h.take k).app (h.drop (k + 1))

theorem ORd.erase {w : World} {base : Nat} {C : List VC} {l : List Vo} (h : ORd w base C l) (k : Nat) : ORd w base (C.eraseIdx k) (l.eraseIdx k) := by
  have hlen := h.len
  have hrd := Rd.erase h.rd k
  have hl := hrd.len
  have hpw : (C.eraseIdx k).Pairwise (fun a b => ∀ g, a.sl.ownBlock = some g → b.sl.ownBlock ≠ some g) := by
    have h0 : C.Pairwise (fun a b => ∀ g, a.sl.ownBlock = some g → b.sl.ownBlock ≠ some g) := by
      rw [List.pairwise_iff_getElem]
      intro i j hi hj hij g hg
      exact h.apart i j (by omega) (by omega) g (by omega) hg
    exact h0.sublist (List.eraseIdx_sublist _ _)
  have hbl : ∀ i (hi : i < (l.eraseIdx k).length) (hi' : i < (C.eraseIdx k).length), OIds w base (C.eraseIdx k)[i].sl (l.eraseIdx k)[i].bl := by
    intro i hi hi'
    rw [List.getElem_eraseIdx, List.getElem_eraseIdx]
    by_cases hik : i < k
    · rw [dif_pos hik, dif_pos hik]
      exact h.bl i _
    · rw [dif_neg hik, dif_neg hik]
      exact h.bl (i + 1) _
  refine ⟨hl, hrd.nm, fun i hi => hbl i hi (by omega), fun i j hi hj g hij hg e => ?_⟩
  rcases Nat.lt_or_gt_of_ne hij with hlt | hgt
  · exact List.pairwise_iff_getElem.1 hpw i j (by omega) (by omega) hlt g hg e
  · exact List.pairwise_iff_getElem.1 hpw j i (by omega) (by omega) hgt g e hg

/-- what a volume taken from those of the call's own leaves -/
theorem del_own {W w5 : World} {base g n cap : Nat} {vb : Value} {b : List Itm} {l : List Vo} {C : List VC} {k : Nat} {sp sp' : List Value} (hb : OItems W base vb b) (hC : RowV W g (fl vcC C ++ sp)) (hR : ORd W base C l) (hgb : base ≤ g) (hg : W.grownBy w5 (some g))
    (ho : RowV w5 g (fl vcC (C.eraseIdx k) ++ sp')) (hn : (C.eraseIdx k).length = n) (h1 : n ≤ cap) (h2 : cap ≤ maxLen) (h3 : n * 2 + sp'.length = cap * 2) : OSt w5 base (.agg #[vb, .slice (some ⟨g, 0, none⟩) n cap]) ⟨b, l.eraseIdx k⟩ := by
  have hkp : ∀ {T n m : Nat} {v : Value} {L : List Value}, W.ownsRow base T m v n L → T ≠ 62 → w5.ownsRow base T m v n L := by
    intro T n m v L h hT
    exact World.ownsRow.kept h hg (.inr (own_apart h hC hT))
  have hov : OVC w5 base (.slice (some ⟨g, 0, none⟩) n cap) (C.eraseIdx k) := by
    subst hn
    exact OVC.mk hgb ho h1 h2 h3
  exact ⟨_, _, rfl, (show OItems w5 base vb b from hkp hb itVol), ⟨_, hov, ORd.erase ⟨hR.len, hR.nm, fun i hi => (show OIds w5 base _ _ from hkp (hR.bl i hi) idVol), hR.apart⟩ k⟩⟩

set_option maxRecDepth 100000 in
set_option maxHeartbeats 2000000 in
theorem vdrop_own (v : Value) (st : Sta) (s : List UInt8) (w : World) (h : Stat w v st) (hwf : WfS st) :
    Calls Try.prog 20 #[v, .string (bs s)] w (StEPost w (vdrop FP st s)) := by
  have HF := Lib.hid (fun W (hW : Up w W) => vfind_any v st s W (h.up hW) hwf)
  have HSC := Lib.hid (fun (hg : WoolVol.Good FP st) W (hW : Up w W) => stclone_any v st W (h.up hW) hg)
  unfold StPost at HSC
  unfold findVR at HF
  obtain ⟨vb, vv, rfl, hb, hv⟩ := h
  obtain ⟨oB, cB, rfl, _⟩ := hb.slice
  obtain ⟨oV, cV, rfl, _, _⟩ := hv.slice
  clear hb hv hwf
  obtain ⟨RS, hRS⟩ : ∃ RS, vdrop FP st s = RS := ⟨_, rfl⟩
  rw [hRS]
  unfold vdrop at hRS
  have HRS := Lib.hid hRS
  clear hRS
  obtain ⟨M, hM⟩ : ∃ M, st.b.length = M := ⟨_, rfl⟩
  obtain ⟨N, hN⟩ : ∃ N, st.v.length = N := ⟨_, rfl⟩
  have HN := Lib.hid hN
  have HM := Lib.hid hM
  rw [hM, hN] at HF HSC ⊢
  clear hM hN
  have HR : Hid (RowC ((w.alloc (.cells #[.slice oB M cB, .slice oV N cV] 31)).alloc (.cells #[.slice none 0 0, .slice none 0 0] 31)) (w.heap.size + 1) 31 [.slice none 0 0, .slice none 0 0]) := box_new w _ _ _ _
  have HA : Hid (RowC ((w.alloc (.cells #[.slice oB M cB, .slice oV N cV] 31)).alloc (.cells #[.slice none 0 0, .slice none 0 0] 31)) w.heap.size 31 [.slice oB M cB, .slice oV N cV]) := RowC.up (rowN_at [.slice oB M cB, .slice oV N cV] _ rfl) (Up.alloc _ _)
  have HW0 : Hid (Up w ((w.alloc (.cells #[.slice oB M cB, .slice oV N cV] 31)).alloc (.cells #[.slice none 0 0, .slice none 0 0] 31))) := (Up.alloc _ _).trans (Up.alloc _ _)
  by_cases h0 : (vfind FP st s).2 = 0
  · obtain ⟨hck, k, hk, hf, _, _⟩ := vfind_ok h0
    have hgood := chkS_zero.1 hck
    have HRZ : Hid (RS = (⟨rel FP st.b st.v[k].bl, st.v.eraseIdx k⟩, 0)) := by show _ = _; rw [← HRS.out, if_neg (by simpa using h0), hf, getElem!_pos st.v k hk]
    rw [hf] at HF
    simp only at HF
    have HSC2 := Lib.hid (HSC.out hgood)
    have HBG := Lib.hid hgood.bag
    have hN6 : N ≤ 6 := by rw [← HN.out]; exact hgood.len
    have hkN : k < N := by rw [← HN.out]; exact hk
    clear HSC h0 hf hgood hck HRS
    go_enter Try.func20, Try.ntmps20
    go_upto_region 1 with (fail)
    generalize (w.alloc (.cells #[.slice oB M cB, .slice oV N cV] 31)).alloc (.cells #[.slice none 0 0, .slice none 0 0] 31) = W0 at HA HR HW0 ⊢
    have a0 := HA.out.cell (j := 0) rfl
    have a1 := HA.out.cell (j := 1) rfl
    go_wp2_with fail
    refine (HF.out _ HW0.out).mono ?_
    rintro e w1 ⟨rfl, u1⟩
    have HU1 := Lib.hid u1
    have HA1 := Lib.hid (HA.out.up u1)
    clear u1 a0 a1
    have a0 := HA1.out.cell (j := 0) rfl
    have a1 := HA1.out.cell (j := 1) rfl
    go_wp2_with fail
    refine (HSC2.out _ (HW0.out.trans HU1.out)).mono ?_
    rintro e w2 ⟨v2, rfl, ho2, u2⟩
    obtain ⟨vb2, vv2, rfl, hob, C, hvc, hrd⟩ := ho2
    have hCl : C.length = N := hrd.len.trans HN.out
    obtain ⟨ob, cb, hvb⟩ := own_slice hob
    subst hvb
    rcases own_row hvc with ⟨_, hz, _⟩ | ⟨gv, cv, sp, hvv, hgb, hrv, hv4, hv5, hv6⟩
    · exact absurd hz (by omega)
    subst hvv
    obtain ⟨od, cd, hsl⟩ := own_slice (hrd.bl k hk)
    have k2 : w2.cell? ⟨gv, k * 2 + 1, none⟩ = some (.slice od st.v[k].bl.length cd) := by
      have hg2 := fl_get vcC_len C k (by omega) 1 (by omega)
      rw [← hsl]
      exact hrv.cell (get_appV hg2)
    rw [HM.out] at hob ⊢
    rw [hCl] at hv4 hv6 ⊢
    obtain ⟨L, hL⟩ : ∃ L, st.v[k].bl.length = L := ⟨_, rfl⟩
    have HRL : Hid (∀ W, Up w2 W → Calls Try.prog 48 #[.slice ob M cb, .slice od L cd] W (RlPost W w1.heap.size (rel FP st.b st.v[k].bl))) := fun W hW => by
      have hid := (hrd.bl k hk).ids.up hW
      rw [hsl, hL] at hid
      exact release_any _ _ st.b st.v[k].bl w1.heap.size W (hob.up hW) HBG.out hid (Nat.le_trans u2.size hW.size)
    unfold RlPost at HRL
    rw [hL] at k2
    have HU2 := Lib.hid (HU1.out.trans u2)
    have HGB : Hid (w.heap.size ≤ gv) := Nat.le_trans (HW0.out.trans HU1.out).size hgb
    have HGB1 : Hid (w1.heap.size ≤ gv) := hgb
    have HRV := Lib.hid hrv
    have HRD := Lib.hid hrd
    have HC1 : Hid (∀ u ∈ fl vcC C, u.oneCell' = true) := hrd.rd.one
    have HCL := Lib.hid hCl
    have hv5' := hv5
    unfold maxLen at hv5'
    clear a0 a1 u2 hob hvc hrv hsl hL hCl hv5 hrd HF HSC2
    obtain ⟨l', hl'⟩ : ∃ l', rel FP st.b st.v[k].bl = l' := ⟨_, rfl⟩
    rw [hl'] at HRL HRZ
    clear hl'
    go_upto_region 5 with (fail)
    have hal := Up.alloc w2 (.cells #[.slice ob M cb, .slice (some ⟨gv, 0, none⟩) N cv] 31)
    have HX3 : Hid (RowC (w2.alloc (.cells #[.slice ob M cb, .slice (some ⟨gv, 0, none⟩) N cv] 31)) w2.heap.size 31 [.slice ob M cb, .slice (some ⟨gv, 0, none⟩) N cv]) := heap_alloc_new w2 _
    have HU3 := Lib.hid hal
    have k3 := (hal.cell (World.block_lt_of_cell? w2 _ k2)).trans k2
    have hZX : w.heap.size + 1 < w2.heap.size := (HR.out.up HU2.out).lt
    clear k2 hal
    generalize (w2.alloc (.cells #[.slice ob M cb, .slice (some ⟨gv, 0, none⟩) N cv] 31)) = W3 at HX3 HU3 k3 ⊢
    obtain ⟨X, hX⟩ : ∃ X, w2.heap.size = X := ⟨_, rfl⟩
    rw [hX] at HX3 hZX ⊢
    have q0 := HX3.out.cell (j := 0) rfl
    have q1 := HX3.out.cell (j := 1) rfl
    have q2 := HX3.out.frozen 0
    have q3 := HX3.out.lt
    go_region_with ((go_at_call 48; ((with_reducible refine (HRL.out _ (HU3.out.trans (Up.drew _))).mono ?_); rintro e w4 ⟨v4, rfl, ho4, u4⟩; have h4 : Up W3 w4 := (Up.drew _).trans u4; have x0 := (Below.cell h4 (p := ⟨X, 0, none⟩) q3).trans q0; have x1 := (Below.frozen h4 (p := ⟨X, 0, none⟩) q3).trans q2; obtain ⟨o4, c4, hv4', _⟩ := ho4.items.slice; subst hv4')))
    all_goals
      have h24 := HU3.out.trans h4
      have hX4 := HX3.out.up h4
      have hrv4 := HRV.out.up h24
      have hgX : gv ≠ X := RowC.apart hrv4 hX4 voState
      have hZ4 := HR.out.up (HU2.out.trans h24)
      have hgZ : gv ≠ w.heap.size + 1 := RowC.apart hrv4 hZ4 voState
      have hZne : w.heap.size + 1 ≠ X := by omega
      have HRV5 := Lib.hid (hrv4.other hgX 0 (.slice o4 l'.length c4))
      have HO5 := Lib.hid (OItems.setR (i := 0) (x := .slice o4 l'.length c4) ho4 hX4)
      have HX5 := Lib.hid (hX4.set 0 (.slice o4 l'.length c4))
      have HD5 : Hid (ORd (w4.setCell ⟨X, 0, none⟩ (.slice o4 l'.length c4)) w1.heap.size C st.v) := ⟨HRD.out.len, HRD.out.nm, fun i hi => own_set (own_up (HRD.out.bl i hi) h24) (own_apart (own_up (HRD.out.bl i hi) h24) hX4 idState), HRD.out.apart⟩
      have HZ5 := Lib.hid (hZ4.other hZne 0 (.slice o4 l'.length c4))
      have HU5 : Hid (Up w (w4.setCell ⟨X, 0, none⟩ (.slice o4 l'.length c4))) := Below.setCell (HW0.out.trans (HU2.out.trans h24)) (p := ⟨X, 0, none⟩) (show w.heap.size ≤ X by omega) _
      clear h24 hX4 hrv4 hZ4 ho4 h4 u4 x0 x1 q0 q1 q2 q3 k3
      generalize w4.setCell ⟨X, 0, none⟩ (.slice o4 l'.length c4) = W5 at HRV5 HO5 HX5 HD5 HZ5 HU5 ⊢
      have hdel := deleteV_any C k (k + 1) gv cv sp W5 HC1.out rfl (by rw [HCL.out]; exact hkN) HRV5.out (by rw [HCL.out]; exact hv4) (by unfold maxLen; omega) (by rw [HCL.out]; exact hv6)
      rw [HCL.out] at hdel
      have HDEL := Lib.hid hdel
      have HEL : Hid ((C.eraseIdx k).length = N - 1) := by show _ = _; rw [List.length_eraseIdx_of_lt (by rw [HCL.out]; exact hkN), HCL.out]
      have hw1 : IntKind.i64.wrap ((k : Int) + 1) = ((k + 1 : Nat) : Int) := IntWalk.i64_in _ (by omega)
      have x1 := HX5.out.cell (j := 1) rfl
      clear hdel
      go_wp2_with fail
      refine HDEL.out.mono ?_
      rintro e w6 ⟨rfl, hr6, hg6⟩
      have hX6 := HX5.out.kept hg6 (by simpa using hgX)
      have hZ6 := HZ5.out.kept hg6 (by simpa using hgZ)
      have hS6 := del_own (k := k) (cap := cv) (n := N - 1) HO5.out HRV5.out HD5.out HGB1.out hg6 hr6 HEL.out (by omega) (by unfold maxLen; omega) (by simp only [zcV, List.length_append, List.length_cons, List.length_nil]; omega)
      have hU6 : Up w w6 := Below.grown HU5.out hg6 HU5.out.size (fun q hq => by cases hq; exact HGB.out)
      have x2 := hX6.cell (j := 1) rfl
      have x3 := hX6.frozen 1
      have hX7 := hX6.set 1 (.slice (some ⟨gv, 0, none⟩) (N - 1) cv)
      have x4 := hX7.cell (j := 0) rfl
      have x5 := hX7.cell (j := 1) rfl
      have hZ7 := hZ6.other hZne 1 (.slice (some ⟨gv, 0, none⟩) (N - 1) cv)
      have z2 := hZ7.cell (j := 0) rfl
      have z3 := hZ7.cell (j := 1) rfl
      have z4 := hZ7.frozen 0
      have z5 := hZ7.frozen 1
      have HS7 := Lib.hid (hS6.setR1 (i := 1) (x := .slice (some ⟨gv, 0, none⟩) (N - 1) cv) hX6)
      have HZ7 := Lib.hid hZ7
      have HU7 : Hid (Up w (w6.setCell ⟨X, 1, none⟩ (.slice (some ⟨gv, 0, none⟩) (N - 1) cv))) := Below.setCell hU6 (p := ⟨X, 1, none⟩) (show w.heap.size ≤ X by omega) _
      clear hX6 hZ6 hS6 hU6 hX7 hZ7 hr6 hg6 x1
      go_wp2_with fail
      have hz := (HZ7.out.set 0 (.slice o4 l'.length c4)).set 1 (.slice (some ⟨gv, 0, none⟩) (N - 1) cv)
      have z0 := hz.cell (j := 0) rfl
      have z1 := hz.cell (j := 1) rfl
      have HOZ := Lib.hid (OSt.base (OSt.boxed HS7.out HZ7.out) (HW0.out.trans HU1.out).size)
      have HUZ := Lib.hid (up2 (x := .slice o4 l'.length c4) (y := .slice (some ⟨gv, 0, none⟩) (N - 1) cv) HU7.out (Nat.le_succ w.heap.size))
      generalize ((w6.setCell ⟨X, 1, none⟩ (.slice (some ⟨gv, 0, none⟩) (N - 1) cv)).setCell ⟨w.heap.size + 1, 0, none⟩ (.slice o4 l'.length c4)).setCell ⟨w.heap.size + 1, 1, none⟩ (.slice (some ⟨gv, 0, none⟩) (N - 1) cv) = WZ at z0 z1 HOZ HUZ ⊢
      exact bodyPost_ret (v := .tuple #[.agg #[.slice o4 l'.length c4, .slice (some ⟨gv, 0, none⟩) (N - 1) cv], .int .i64 0]) (by simp [results, Try.results20, go_sem, z0, z1]) rfl ⟨_, by rw [HRZ.out], by rw [HRZ.out]; exact HOZ.out, HUZ.out⟩
  · obtain ⟨E, hE⟩ : ∃ E, (vfind FP st s).2 = E := ⟨_, rfl⟩
    have hz := vfind_no h0
    have HRZ : Hid (RS = (zeroS, E)) := by show _ = _; rw [← HRS.out, if_pos h0, hE]
    rw [hE, hz] at HF
    rw [hE] at h0
    have hne : (E != 0) = true := by rw [bne_iff_ne]; exact h0
    clear hE hz h0 HSC HRS
    go_enter Try.func20, Try.ntmps20
    go_upto_region 1 with (fail)
    generalize (w.alloc (.cells #[.slice oB M cB, .slice oV N cV] 31)).alloc (.cells #[.slice none 0 0, .slice none 0 0] 31) = W0 at HA HR HW0 ⊢
    have a0 := HA.out.cell (j := 0) rfl
    have a1 := HA.out.cell (j := 1) rfl
    go_wp2_with fail
    refine (HF.out _ HW0.out).mono ?_
    rintro e w1 ⟨rfl, u1⟩
    have HUw1 := Lib.hid (HW0.out.trans u1)
    have HRw1 := Lib.hid (HR.out.up u1)
    clear a0 a1 u1
    have r0 := HRw1.out.frozen 0
    have r1 := HRw1.out.frozen 1
    have r2 := HRw1.out.cell (j := 0) rfl
    have r3 := HRw1.out.cell (j := 1) rfl
    go_wp2_with fail
    have hz := (HRw1.out.set 0 (.slice none 0 0)).set 1 (.slice none 0 0)
    have z0 := hz.cell (j := 0) rfl
    have z1 := hz.cell (j := 1) rfl
    have HUZ := Lib.hid (up2 (x := .slice none 0 0) (y := .slice none 0 0) HUw1.out (Nat.le_succ w.heap.size))
    generalize (w1.setCell ⟨w.heap.size + 1, 0, none⟩ (.slice none 0 0)).setCell ⟨w.heap.size + 1, 1, none⟩ (.slice none 0 0) = WZ at z0 z1 HUZ ⊢
    exact bodyPost_ret (v := .tuple #[zeroV, .int .i64 E]) (by simp [results, Try.results20, go_sem, z0, z1, zeroV]) rfl ⟨_, by rw [HRZ.out], by rw [HRZ.out]; exact OSt.zero _ _, HUZ.out⟩

theorem vdrop_any (v : Value) (st : Sta) (s : List UInt8) (w : World) (h : Stat w v st) (hwf : WfS st) :
    Calls Try.prog 20 #[v, .string (bs s)] w (RdEPost w (vdrop FP st s)) := by
  refine (vdrop_own v st s w h hwf).mono ?_
  rintro e w' ⟨v', h1, h2, h3⟩
  exact ⟨v', h1, h2.stat, h3⟩

end Go.Proofs.Ytnmdfdkagkpcaaa

/-
  An identifier laid at a place of a volume: what is there then. Conditions: as each says.
-/
namespace Go.Proofs.Ytnmdfdkagkpcaaa
open Go.RowKit
open Go.Proofs
open WoolBag
open WoolVol

theorem far3 {w : World} {g a b c : Nat} {x y z : Value} {p : Addr} (h : p.block ≠ g) : (((w.setCell ⟨g, a, none⟩ x).setCell ⟨g, b, none⟩ y).setCell ⟨g, c, none⟩ z).cell? p = w.cell? p := by
  rw [World.cell?_setCell_far _ _ _ _ (Ne.symm h), World.cell?_setCell_far _ _ _ _ (Ne.symm h), World.cell?_setCell_far _ _ _ _ (Ne.symm h)]

theorem setB_len (l : List Vo) (k a : Nat) (x : Idn) : (setB l k a x).length = l.length := by unfold setB; rw [List.length_set]

theorem setB_get {l : List Vo} {k a : Nat} {x : Idn} (hk : k < l.length) (j : Nat) (hj : j < l.length) : (setB l k a x)[j]'(by rw [setB_len]; exact hj) = if k = j then ⟨l[k].nm, l[k].bl.set a x⟩ else l[j] := by
  have e : setB l k a x = l.set k ⟨l[k].nm, l[k].bl.set a x⟩ := by unfold setB; rw [getElem!_pos l k hk]
  have h2 : ∀ (m : List Vo) (_ : m = l.set k ⟨l[k].nm, l[k].bl.set a x⟩) (hm : j < m.length), m[j] = if k = j then ⟨l[k].nm, l[k].bl.set a x⟩ else l[j] := by
    rintro m rfl hm
    rw [List.getElem_set]
  exact h2 _ e _

theorem vix_setB {l : List Vo} {s : List UInt8} {k a : Nat} {x : Idn} (h : vix (nmB s) l = some k) : vix (nmB s) (setB l k a x) = some k := by
  obtain ⟨h1, h2, h3⟩ := vix_some h
  refine vix_of (by rw [setB_len]; exact h1) ?_ (fun j hj => ?_)
  · rw [setB_get h1 k h1, if_pos rfl]; exact h2
  · rw [setB_get h1 j (by omega), if_neg (by omega)]; exact h3 j hj

end Go.Proofs.Ytnmdfdkagkpcaaa
