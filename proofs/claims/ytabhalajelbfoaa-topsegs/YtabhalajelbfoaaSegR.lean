/-
  What Clean of package seg returns. Conditions: the rows can be read, and their lengths fit.
-/
import Derived.Test.YtabhalajelbfoaaSegQ
import Derived.Test.YtabhalajelbfoaaSegP
namespace Go.Proofs.Ytabhalajelbfoaa
open Go.RowKit
open Go.Proofs
open WoolBag
open WoolSeg

/-- one segment less -/
theorem OSgs.erase {w w' : World} {base k g cap : Nat} {C sp : List Value} {l : List (List Rc)} (h2 : OSr w base C l) (hk : k < l.length) (hg : base ≤ g) (hrow : RowC w g 45 (C ++ sp)) (hc1 : C.length ≤ cap) (hc2 : cap ≤ maxLen) (hc3 : C.length + sp.length = cap)
    (hgr : w.grownBy w' (some g)) (hrow' : RowC w' g 45 (C.eraseIdx k ++ (zcS ++ sp))) : OSgs w' base (.slice (some ⟨g, 0, none⟩) (l.length - 1) cap) (l.eraseIdx k) := by
  have hlen := h2.len
  have hl1 : (C.eraseIdx k).length = l.length - 1 := by rw [List.length_eraseIdx_of_lt (by omega), hlen]
  have hl2 : (l.eraseIdx k).length = l.length - 1 := List.length_eraseIdx_of_lt hk
  refine ⟨C.eraseIdx k, ?_, ⟨by rw [hl1, hl2], fun j hj => ?_, fun j i hj hi b hne hb => ?_⟩⟩
  · have := own_mk (m := 1) (n := l.length - 1) hg hrow' (by rw [hl1, Nat.mul_one]) (by omega) hc2 (by rw [List.length_append]; simp [zcS]; omega)
    unfold OSl
    rw [hl1]
    exact this
  · have hkeep : ∀ {v : Value} {s : List Rc}, ORecs w base v s → ORecs w' base v s := fun h => own_grownS h hgr fun b hb e => own_apartS h hrow rec_ne_seg (by rw [hb]; exact e.symm)
    rw [hl2] at hj
    rw [List.getElem_eraseIdx, List.getElem_eraseIdx]
    by_cases e : j < k
    · rw [dif_pos e, dif_pos e]; exact hkeep (h2.own j (by omega))
    · rw [dif_neg e, dif_neg e]; exact hkeep (h2.own (j + 1) (by omega))
  · have hj' : j < l.length - 1 := by rw [hl2] at hj; exact hj
    have hi' : i < l.length - 1 := by rw [hl2] at hi; exact hi
    rw [List.getElem_eraseIdx] at hb ⊢
    by_cases e : j < k
    · rw [dif_pos e] at hb
      by_cases e2 : i < k
      · rw [dif_pos e2]; exact h2.apart j i (by omega) (by omega) b hne hb
      · rw [dif_neg e2]; exact h2.apart j (i + 1) (by omega) (by omega) b (by omega) hb
    · rw [dif_neg e] at hb
      by_cases e2 : i < k
      · rw [dif_pos e2]; exact h2.apart (j + 1) i (by omega) (by omega) b (by omega) hb
      · rw [dif_neg e2]; exact h2.apart (j + 1) (i + 1) (by omega) (by omega) b (by omega) hb

theorem stand_step (l : List (List Rc)) (rs : List Rc) {k : Nat} (h : k < rs.length) : stand l (rs.take (k + 1)) = put1 (stand l (rs.take k)) rs[k] := by
  rw [List.take_succ_eq_append_getElem h, stand_append]
  rfl

def ClRel (L : List (List Rc)) (rs : List Rc) (W5 : World) (next i : Value) (wr : World) : Prop :=
  ∃ k : Nat, k ≤ rs.length ∧ i = .int .i64 (k : Int) ∧ OSgs wr W5.heap.size next (stand L (rs.take k)) ∧ Up W5 wr

set_option maxRecDepth 100000 in
set_option maxHeartbeats 8000000 in
theorem cleanS_any (v vb : Value) (l : List (List Rc)) (b : List Itm) (w : World) (h : Sgs w v l) (hb : Items w vb b) (hm : ∀ s ∈ l, s.length ≤ 1000000000000000) :
    Calls Try.prog 10 #[v, vb] w (PutSPost w (WoolSeg.clean FP l b)) := by
  have HF := Lib.hid (find_any' v vb l b w h hb hm)
  have HRT : Hid (WoolSeg.chk l = 0 → Right l) := fun e => chk_zero.1 e
  have HCL := Lib.hid (fun W (hW : Up w W) (hr : Right l) => cloneSg_any v l W (h.up hW) hr)
  obtain ⟨o, c, rfl, _, _⟩ := h.slice
  obtain ⟨ob, cb, rfl, _⟩ := hb.slice
  obtain ⟨R, hR⟩ : ∃ R, WoolSeg.clean FP l b = R := ⟨_, rfl⟩
  rw [hR]
  unfold WoolSeg.clean at hR
  unfold findV at HF
  obtain ⟨n, hn⟩ : ∃ n, l.length = n := ⟨_, rfl⟩
  have HN := Lib.hid hn
  rw [hn] at HF HCL ⊢
  generalize b.length = nb at HF ⊢
  obtain ⟨K, hK⟩ : ∃ K, WoolSeg.chk l = K := ⟨_, rfl⟩
  obtain ⟨M, hM⟩ : ∃ M, WoolBag.chk FP b = M := ⟨_, rfl⟩
  rw [hK] at hR HF HRT
  rw [hM] at hR HF
  have HRR := Lib.hid hR
  clear h hb hm hK hM hR hn
  go_enter Try.func10, Try.ntmps10
  go_wp2_with fail
  refine HF.out.mono ?_
  rintro e w1 ⟨v1, rfl, ho1, u1⟩
  have HU1 := Lib.hid u1
  have HO1 := Lib.hid ho1
  have hrr := HRR.out
  obtain ⟨o1, c1, hv1, _, _⟩ := ho1.sgs.slice
  clear u1 ho1
  by_cases hk : K = 0
  · subst hk
    have HRI := Lib.hid (HRT.out rfl)
    by_cases hm : M = 0
    · subst hm
      rw [if_neg (by simp), if_neg (by simp)] at hrr hv1
      have ho := HO1.out
      rw [if_neg (by simp), if_neg (by simp)] at ho ⊢
      by_cases hl0 : l = []
      · rw [if_pos hl0] at hrr
        have HR2 := Lib.hid hrr
        have hn0 : n = 0 := by rw [← HN.out, hl0]; rfl
        generalize (alive b l).length = m1 at hv1
        subst hv1 hn0
        clear ho hrr HO1 HRR
        go_wp2_with fail
        refine bodyPost_ret (v := .tuple #[.slice none 0 0, .int .i64 4]) (by simp [results, Try.results10, go_sem]) rfl ?_
        rw [← HR2.out]
        exact ⟨_, rfl, OSgs.nil _ _, HU1.out⟩
      rw [if_neg hl0] at hrr
      have HR2 := Lib.hid hrr
      have HL0 := Lib.hid hl0
      have HSG : Hid (Sgs w1 v1 (alive b l)) := ho.sgs
      have HSZ := Lib.hid (sizes_any v1 (alive b l) w1 ho.sgs (by rw [alive_length]; exact HRI.out.len) (alive_takes HRI.out))
      have hnpos : 0 < n := by rw [← HN.out]; exact List.length_pos_iff.2 hl0
      have hal : (alive b l).length = n := by rw [alive_length]; exact HN.out
      rw [hal] at hv1
      have HAL := Lib.hid hal
      subst hv1
      have d0 : ((n : Int) == 0) = false := by simp; omega
      clear ho hrr HO1 HRR hl0 hal
      go_wp2_with fail
      refine HSZ.out.mono ?_
      rintro e w2 ⟨v2, rfl, ho2, u2⟩
      have HU2 : Hid (Up w w2) := HU1.out.trans u2
      have HS2 : Hid (Sgs w2 (.slice o1 n c1) (alive b l)) := HSG.out.up u2
      have HNS : Hid (Ns w2 v2 ((alive b l).map takes)) := ho2.ns
      have hne : (alive b l).map takes ≠ [] := by
        intro e
        have h1 := congrArg List.length e
        rw [List.length_map, HAL.out] at h1
        simp at h1
        omega
      have hln : ((alive b l).map takes).length = n := by rw [List.length_map]; exact HAL.out
      have hn16 : n ≤ 16 := by rw [← HN.out]; exact HRI.out.len
      have HMN := Lib.hid (fun W (hW : Up w2 W) => minN_any v2 _ W (HNS.out.up hW) hne (by rw [hln]; exact hn16) (fun x hx => by
        obtain ⟨s, hs, rfl⟩ := List.mem_map.1 hx
        have := alive_takes HRI.out s hs
        omega))
      obtain ⟨hl1', hl2', hl3'⟩ := least_spec hne
      have hl1 : best b l < ((alive b l).map takes).length := hl1'
      have hl3 : ∀ j (hj : j < best b l), ((alive b l).map takes)[best b l] < ((alive b l).map takes)[j]'(by omega) := hl3'
      obtain ⟨Mn, hMn⟩ : ∃ Mn, ((alive b l).map takes)[least ((alive b l).map takes)]?.getD 0 = Mn := ⟨_, rfl⟩
      have hMn2 : ((alive b l).map takes)[best b l] = Mn := by rw [← hMn, List.getElem?_eq_getElem hl1', Option.getD_some]; rfl
      rw [hMn] at HMN
      have HIX := Lib.hid (fun W (hW : Up w2 W) => indexN_any v2 _ Mn (best b l) W (HNS.out.up hW) hl1 hMn2 (fun j hj hjk e => by
        have h1 := hl3 j hjk
        rw [hMn2, e] at h1
        exact Nat.lt_irrefl _ h1) (by rw [hln]; exact hn16))
      have hbl : best b l < l.length := best_lt HL0.out
      have hrs0 := best_alive (b := b) HL0.out
      obtain ⟨rs, hrs⟩ : ∃ rs, (alive b l)[best b l]?.getD [] = rs := ⟨_, rfl⟩
      have hcl : cleaned b l = stand (l.eraseIdx (best b l)) rs := by unfold cleaned; rw [hrs]
      have hgt : (alive b l)[best b l]'(by rw [alive_length]; exact hbl) = rs := by
        rw [← hrs, List.getElem?_eq_getElem (by rw [alive_length]; exact hbl), Option.getD_some]
      rw [hrs] at hrs0
      have hsub : rs.Sublist (l[best b l]'hbl) := by rw [hrs0]; exact aliveS_sub _ _ _
      have hseg := HRI.out.seg _ (List.getElem_mem hbl)
      have HERR : Hid (∀ r ∈ rs, errR r = 0) := fun r hr => errR_zero.2 (hseg.ok r (hsub.subset hr))
      have HTK : Hid (takes rs ≤ 200) := Nat.le_trans (takes_sublist hsub) hseg.room
      rw [hcl] at HR2
      obtain ⟨bst, hbst⟩ : ∃ bst, best b l = bst := ⟨_, rfl⟩
      rw [hbst] at HIX HR2 hbl
      have hbn : bst < n := by rw [← HN.out]; exact hbl
      have HRS : Hid (∀ h : bst < (alive b l).length, (alive b l)[bst] = rs) := fun h => by subst hbst; exact hgt
      have HBL := Lib.hid hbl
      obtain ⟨o2, c2, hv2, _, _⟩ := HNS.out.slice
      rw [hln] at hv2
      subst hv2
      clear ho2 u2 hl3' hl2' hl3 hMn hMn2 hl1' hl1 hne hln hrs0 hrs hcl hgt hsub hseg hbst hbl
      go_wp2_with fail
      refine (HMN.out _ (Up.refl _)).mono ?_
      rintro e w3 ⟨rfl, u3⟩
      have HU3 := Lib.hid u3
      clear u3
      go_wp2_with fail
      refine (HIX.out _ HU3.out).mono ?_
      rintro e w4 ⟨rfl, u4⟩
      have HU4 : Hid (Up w2 w4) := HU3.out.trans u4
      clear u4
      go_wp2_with fail
      refine (HCL.out _ (HU2.out.trans HU4.out) HRI.out).mono ?_
      rintro e w5 ⟨v5, rfl, ⟨C, hC1, hC2⟩, u5⟩
      have hCn : C.length = n := by rw [hC2.len]; exact HN.out
      rcases own_row hC1 with ⟨_, h3, _⟩ | ⟨g, cap, sp, hv5, hgb, hrow, hcc1, hcc2, hcc3⟩
      · omega
      subst hv5
      have hone : ∀ u ∈ C, u.oneCell' = true := hC2.rd.one
      have hcc3' : C.length + sp.length = cap := by omega
      have HDL := Lib.hid (deleteS_any C bst (bst + 1) g cap sp w5 hone rfl (by rw [hCn]; exact hbn) hrow hcc1 hcc2 hcc3')
      have hER := fun w6 hg6 hrow6 => OSgs.erase (w' := w6) hC2 HBL.out hgb hrow hcc1 hcc2 hcc3' hg6 hrow6
      rw [HN.out] at hER
      rw [hCn, show ((bst + 1 : Nat) : Int) = (bst : Int) + 1 by omega] at HDL
      rw [hCn] at hcc1 ⊢
      have HER := Lib.hid hER
      have HUP : Hid (∀ w6, w5.grownBy w6 (some g) → Up w4 w6) := fun w6 hg6 => Below.grown u5 hg6 u5.size (fun k hk => by injection hk with hk; omega)
      unfold maxLen at hcc2
      clear hone hrow hC1 hC2 hER hCn hcc3 hcc3' hgb u5
      go_wp2_with fail
      refine HDL.out.mono ?_
      rintro e w6 ⟨rfl, hrow6, hg6⟩
      have HO6 : Hid (OSgs w6 w4.heap.size (.slice (some ⟨g, 0, none⟩) (n - 1) cap) (l.eraseIdx bst)) := HER.out _ hg6 hrow6
      have HU6 : Hid (Up w4 w6) := HUP.out _ hg6
      obtain ⟨bA, offA, hoA, hat⟩ := HS2.out.at (by intro e; have h1 := HAL.out; rw [e] at h1; simp at h1; omega)
      obtain ⟨x, a0, hx⟩ := hat bst (by rw [HAL.out]; exact hbn)
      rw [HRS.out] at hx
      subst hoA
      rw [← (HU4.out.trans HU6.out).cell (World.block_lt_of_cell? _ _ a0)] at a0
      obtain ⟨oR, cR, hxv, hcR1, hcR2⟩ := hx.slice
      obtain ⟨m, hm⟩ : ∃ m, rs.length = m := ⟨_, rfl⟩
      have HM := Lib.hid hm
      rw [hm] at hxv hcR1
      have HX : Hid (Recs w2 (.slice oR m cR) rs) := by rw [← hxv]; exact hx
      subst hxv
      unfold maxLen at hcR2
      have hbn0 : (0 : Int) ≤ (bst : Int) := Int.natCast_nonneg _
      have HST : Hid (ClRel (l.eraseIdx bst) rs w4 (.slice (some ⟨g, 0, none⟩) (n - 1) cap) (.int .i64 ((0 : Nat) : Int)) w6) := ⟨0, Nat.zero_le _, rfl, by rw [List.take_zero, stand_nil]; exact HO6.out, HU6.out⟩
      have HSTS : Hid (∀ k, k ≤ m → (∀ s ∈ stand (l.eraseIdx bst) (rs.take k), Seg s) ∧ (stand (l.eraseIdx bst) (rs.take k)).length ≤ 16) := fun k hk => by
        have h1 : takes (rs.take k) ≤ 200 := Nat.le_trans (takes_take rs k) HTK.out
        have h2 := stand_len (l := l.eraseIdx bst) h1
        rw [List.length_eraseIdx_of_lt HBL.out, HN.out] at h2
        exact ⟨stand_seg (fun s hs => HRI.out.seg s (List.mem_of_mem_eraseIdx hs)) (fun r hr => HERR.out r (List.mem_of_mem_take hr)), by omega⟩
      clear hrow6 hg6 hat hx hm
      go_wp2_with fail
      go_loopw [10, 42] (fun nx i wr => ClRel (l.eraseIdx bst) rs w4 nx i wr) (fun _ i _ => m - (intOf i).toNat)
      case atStart => exact HST.out
      case round =>
        obtain ⟨k, hk, rfl, ho, hu⟩ := hrel
        rw [HM.out] at hk
        by_cases hlt : k < m
        · have hkr : k < rs.length := by rw [HM.out]; exact hlt
          obtain ⟨bR, offR, rfl, hatR⟩ := HX.out.at (by rintro rfl; simp at hkr)
          obtain ⟨r0, r1, r2, r3⟩ := hatR k hkr
          have hu2 : Up w2 wr := HU4.out.trans hu
          rw [← hu2.cell (World.block_lt_of_cell? _ _ r0)] at r0
          rw [← hu2.cell (World.block_lt_of_cell? _ _ r1)] at r1
          rw [← hu2.cell (World.block_lt_of_cell? _ _ r2)] at r2
          rw [← hu2.cell (World.block_lt_of_cell? _ _ r3)] at r3
          obtain ⟨hsg, hsl⟩ := HSTS.out k (by omega)
          have herr := HERR.out _ (List.getElem_mem hkr)
          have hst := stand_step (l.eraseIdx bst) rs hkr
          obtain ⟨q, hq⟩ : ∃ q, rs[k] = q := ⟨_, rfl⟩
          rw [hq] at r0 r1 r2 r3 herr hst
          obtain ⟨L, hL⟩ : ∃ L, stand (l.eraseIdx bst) (rs.take k) = L := ⟨_, rfl⟩
          rw [hL] at ho hsg hsl hst
          have HAD : Hid (∀ W, Up wr W → Calls Try.prog 22 #[u10, rcA q] W (AddPost w4.heap.size W (put1 L q))) := fun W hW => add_any' u10 L q w4.heap.size W (ho.up hW) (Nat.le_trans hu.size hW.size) hsg herr hsl
          have HNX : Hid (∀ (W wF : World) nx, Up wr W → OSgs wF w4.heap.size nx (put1 L q) → Below w4.heap.size W wF → ClRel (l.eraseIdx bst) rs w4 nx (.int .i64 ((k + 1 : Nat) : Int)) wF) := fun W wF nx hW hO hB => by
            refine ⟨k + 1, by omega, rfl, by rw [hst]; exact hO, ?_⟩
            exact Below.trans (Below.trans (show Below w4.heap.size w4 wr from hu) (Below.mono (show Below wr.heap.size wr W from hW) hu.size)) hB
          obtain ⟨oN, cN, hvN, _, _⟩ := ho.sgs.slice
          unfold rcA at HAD
          have d1 : decide (k < m) = true := decide_eq_true hlt
          clear hatR hsg hsl herr hst hq hL ho hu hu2
          generalize L.length = lN at hvN
          subst hvN
          generalize q.1.1 = x0 at *
          generalize q.1.2.1 = x1 at *
          generalize q.1.2.2 = x2 at *
          generalize bs q.2 = x3 at *
          go_wp2_with fail
          refine (HAD.out _ (Up.alloc _ _)).mono ?_
          rintro e w8 ⟨v8, rfl, ho8, u8⟩
          have HN8 := Lib.hid (HNX.out _ _ _ (Up.alloc _ _) ho8 u8)
          clear ho8 u8
          go_wp2_with fail
          go_roundw
          case rel => exact HN8.out
          case measure => simp only [intOf]; omega
        · have d1 : decide (k < m) = false := decide_eq_false hlt
          rw [List.take_of_length_le (by rw [HM.out]; omega)] at ho
          have HOE : Hid (OSgs wr w.heap.size u10 (stand (l.eraseIdx bst) rs)) := OSgs.base ho (HU2.out.trans HU4.out).size
          have HUE : Hid (Up w wr) := (HU2.out.trans HU4.out).trans hu
          obtain ⟨oN, cN, hvN, _, _⟩ := ho.sgs.slice
          generalize (stand (l.eraseIdx bst) rs).length = lN at hvN
          subst hvN
          clear ho hu
          go_wp2_with fail
          refine bodyPost_ret (v := .tuple #[.slice oN lN cN, .int .i64 0]) (by simp [results, Try.results10, go_sem]) rfl ?_
          rw [← HR2.out]
          exact ⟨_, rfl, HOE.out, HUE.out⟩
    · rw [if_neg (by simp), if_pos hm] at hrr hv1
      rw [if_neg (by simp), if_pos hm]
      have HR2 := Lib.hid hrr
      have d1 : (M != 0) = true := by rw [bne_iff_ne]; exact hm
      subst hv1
      clear hrr HO1 HRR
      go_wp2_with fail
      refine bodyPost_ret (v := .tuple #[.slice none 0 0, .int .i64 M]) (by simp [results, Try.results10, go_sem]) rfl ?_
      rw [← HR2.out]
      exact ⟨_, rfl, OSgs.nil _ _, HU1.out⟩
  · rw [if_pos hk] at hrr hv1
    rw [if_pos hk]
    have HR2 := Lib.hid hrr
    have d1 : (K != 0) = true := by rw [bne_iff_ne]; exact hk
    subst hv1
    clear hrr HO1 HRR
    go_wp2_with fail
    refine bodyPost_ret (v := .tuple #[.slice none 0 0, .int .i64 K]) (by simp [results, Try.results10, go_sem]) rfl ?_
    rw [← HR2.out]
    exact ⟨_, rfl, OSgs.nil _ _, HU1.out⟩

end Go.Proofs.Ytabhalajelbfoaa
