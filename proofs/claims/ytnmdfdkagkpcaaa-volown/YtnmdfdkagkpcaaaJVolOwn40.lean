/-
  What vol's Clone returns. Conditions: a state that can be read.
-/
import Derived.Test.YtnmdfdkagkpcaaaJVolOwn39
namespace Go.Proofs.Ytnmdfdkagkpcaaa
open Go.RowKit
open Go.Proofs
open WoolBag
open WoolVol

theorem kept_apart {w w' : World} {base T m n T' n' m' : Nat} {v u : Value} {L L' : List Value} (h : w.ownsRow base T m v n L) (hu : w.ownsRow base T' m' u n' L') (hT : T ≠ T') (hg : w.grownBy w' u.ownBlock) : w'.ownsRow base T m v n L := by
  refine World.ownsRow.kept h hg ?_
  rcases own_row hu with ⟨rfl, _, _⟩ | ⟨g, cap, sp, rfl, _, h2, _⟩
  · cases hv : v.ownBlock with
    | none => exact .inl rfl
    | some q => exact .inr (by simp [Value.ownBlock])
  · exact .inr (own_apart h h2 hT)

/-- a bag that was changed in its own row, beside volumes of the call's own -/
theorem OSt.bag {w w' : World} {base : Nat} {vb vv : Value} {st : Sta} {b' : List Itm} (h : OSt w base (.agg #[vb, vv]) st) (hg : w.grownBy w' vb.ownBlock) (hb : OItems w' base vb b') : OSt w' base (.agg #[vb, vv]) ⟨b', st.v⟩ := by
  obtain ⟨vb2, vv2, e, h1, C, h2, h3⟩ := h
  simp at e
  obtain ⟨rfl, rfl⟩ := e
  exact ⟨_, _, rfl, hb, C, kept_apart h2 h1 (Ne.symm itVol) hg, ⟨h3.len, h3.nm, fun k hk => kept_apart (h3.bl k hk) h1 (by decide) hg, h3.apart⟩⟩

theorem OFr.bag {w w' : World} {base : Nat} {vb vv vd : Value} {st : Sta} {b' : List Itm} (h : OFr w base (.agg #[vb, vv]) st vd) (hg : w.grownBy w' vb.ownBlock) (hb : OItems w' base vb b') : OFr w' base (.agg #[vb, vv]) ⟨b', st.v⟩ vd := by
  obtain ⟨vb2, vv2, e, h1, C, h2, h3, h4⟩ := h
  simp at e
  obtain ⟨rfl, rfl⟩ := e
  exact ⟨_, _, rfl, hb, C, kept_apart h2 h1 (Ne.symm itVol) hg, ⟨h3.len, h3.nm, fun k hk => kept_apart (h3.bl k hk) h1 (by decide) hg, h3.apart⟩, h4⟩

set_option maxRecDepth 100000 in
set_option maxHeartbeats 2000000 in
theorem vclone_own (v : Value) (st : Sta) (s t : List UInt8) (w : World) (h : Stat w v st) (hwf : WfS st) (ht : t.length ≤ 9223372036854775807) :
    Calls Try.prog 14 #[v, .string (bs s), .string (bs t)] w (StEPost w (clone FP st s t)) := by
  have HF := Lib.hid (fun W (hW : Up w W) => vfind_any v st s W (h.up hW) hwf)
  have HCN := Lib.hid (fun W (hW : Up w W) => checkNew_any v st t W (h.up hW) ht)
  have HSC := Lib.hid (fun (hg : WoolVol.Good FP st) W (hW : Up w W) => stclone_any v st W (h.up hW) hg)
  unfold StPost at HSC
  unfold findVR at HF
  obtain ⟨vb, vv, rfl, hb, hv⟩ := h
  obtain ⟨oB, cB, rfl, _⟩ := hb.slice
  obtain ⟨oV, cV, rfl, hV1, hV2⟩ := hv.slice
  unfold maxLen at hV2
  have HVI := Lib.hid hv
  clear hb hv hwf ht
  obtain ⟨RS, hRS⟩ : ∃ RS, clone FP st s t = RS := ⟨_, rfl⟩
  rw [hRS]
  unfold clone at hRS
  obtain ⟨NE, hNE⟩ : ∃ NE, newE st t = NE := ⟨_, rfl⟩
  rw [hNE] at hRS HCN
  have HNE0 := Lib.hid hNE
  have HRS := Lib.hid hRS
  clear hRS hNE
  obtain ⟨M, hM⟩ : ∃ M, st.b.length = M := ⟨_, rfl⟩
  obtain ⟨N, hN⟩ : ∃ N, st.v.length = N := ⟨_, rfl⟩
  have HN := Lib.hid hN
  have HM := Lib.hid hM
  rw [hM, hN] at HF HSC HCN ⊢
  rw [hN] at HVI hV1
  clear hM hN
  have HR : Hid (RowC ((w.alloc (.cells #[.slice oB M cB, .slice oV N cV] 31)).alloc (.cells #[.slice none 0 0, .slice none 0 0] 31)) (w.heap.size + 1) 31 [.slice none 0 0, .slice none 0 0]) := box_new w _ _ _ _
  have HA : Hid (RowC ((w.alloc (.cells #[.slice oB M cB, .slice oV N cV] 31)).alloc (.cells #[.slice none 0 0, .slice none 0 0] 31)) w.heap.size 31 [.slice oB M cB, .slice oV N cV]) := RowC.up (rowN_at [.slice oB M cB, .slice oV N cV] _ rfl) (Up.alloc _ _)
  have HW0 : Hid (Up w ((w.alloc (.cells #[.slice oB M cB, .slice oV N cV] 31)).alloc (.cells #[.slice none 0 0, .slice none 0 0] 31))) := (Up.alloc _ _).trans (Up.alloc _ _)
  by_cases h0 : (vfind FP st s).2 = 0
  · obtain ⟨hck, k, hk, hf, _, _⟩ := vfind_ok h0
    have hgood := chkS_zero.1 hck
    have HGD := Lib.hid hgood
    rw [hf] at HF HRS
    simp only at HF HRS
    rw [if_neg (by simp), getElem!_pos st.v k hk] at HRS
    have HSC2 := Lib.hid (HSC.out hgood)
    have hN6 : N ≤ 6 := by rw [← HN.out]; exact hgood.len
    have hkN : k < N := by rw [← HN.out]; exact hk
    have hvol := hgood.vol _ (List.getElem_mem hk)
    obtain ⟨b, off, rfl, h5⟩ := HVI.out.at (by intro e; rw [e] at hk; simp at hk)
    obtain ⟨_, uf, af, hidf⟩ := h5 k hk
    obtain ⟨bl, hbl⟩ : ∃ bl, st.v[k].bl = bl := ⟨_, rfl⟩
    rw [hbl] at hvol hidf HRS
    obtain ⟨of, cf, rfl, hcf, hcf'⟩ := hidf.slice
    have HCD := Lib.hid (fun W (hW : Up w W) => cloneD_any _ bl W (hidf.up hW) hvol.2.1)
    unfold IdsPost at HCD
    have HVOL := Lib.hid hvol
    have HAF := Lib.hid af
    obtain ⟨L, hL⟩ : ∃ L, bl.length = L := ⟨_, rfl⟩
    have HL := Lib.hid hL
    rw [hL] at HCD HAF
    clear HSC h0 hf hgood hck h5 hvol hidf hbl af hL
    go_enter Try.func14, Try.ntmps14
    go_upto_region 1 with (fail)
    generalize (w.alloc (.cells #[.slice oB M cB, .slice (some ⟨b, off, none⟩) N cV] 31)).alloc (.cells #[.slice none 0 0, .slice none 0 0] 31) = W0 at HA HR HW0 ⊢
    have a0 := HA.out.cell (j := 0) rfl
    have a1 := HA.out.cell (j := 1) rfl
    go_wp2_with fail
    refine (HF.out _ HW0.out).mono ?_
    rintro e w1 ⟨rfl, u1⟩
    have HUw1 := Lib.hid (HW0.out.trans u1)
    have HRw1 := Lib.hid (HR.out.up u1)
    have HAw1 := Lib.hid (HA.out.up u1)
    clear a0 a1 u1
    have a0 := HAw1.out.cell (j := 0) rfl
    have a1 := HAw1.out.cell (j := 1) rfl
    go_wp2_with fail
    refine (HCN.out _ HUw1.out).mono ?_
    rintro e w2 ⟨rfl, u2⟩
    have HUw2 := Lib.hid (HUw1.out.trans u2)
    have HRw2 := Lib.hid (HRw1.out.up u2)
    have HAw2 := Lib.hid (HAw1.out.up u2)
    clear a0 a1 u2
    by_cases hE : NE = 0
    · subst hE
      obtain ⟨hnm, hno, h6⟩ := newE_zero HNE0.out
      have ht12 : t.length ≤ 12 := by unfold nameB at hnm; simp at hnm; omega
      have HRZ : Hid (RS = (⟨ret st.b bl, vins ⟨t, bl⟩ st.v⟩, 0)) := by show _ = _; rw [← HRS.out, if_neg (by simp)]
      have a0 := HAw2.out.cell (j := 0) rfl
      have a1 := HAw2.out.cell (j := 1) rfl
      clear hnm hno h6 HCN HF
      go_wp2_with fail
      refine (HSC2.out _ HUw2.out).mono ?_
      rintro e w3 ⟨v3, rfl, ho3, u3⟩
      obtain ⟨vb3, vv3, rfl, hob, C, hvc, hrd⟩ := ho3
      have hCl : C.length = N := hrd.len.trans HN.out
      obtain ⟨ob, cb, hvb⟩ := own_slice hob
      obtain ⟨ov, cv, hvv⟩ := own_slice hvc
      subst hvb hvv
      rw [HM.out] at hob ⊢
      rw [hCl] at hvc ⊢
      have HOS3 : Hid (OSt w3 w2.heap.size (.agg #[.slice ob M cb, .slice ov N cv]) st) := ⟨_, _, rfl, hob, C, hvc, hrd⟩
      clear hob hvc hrd hCl a0 a1
      go_upto_region 8 with (fail)
      have hal := Up.alloc w3 (.cells #[.slice ob M cb, .slice ov N cv] 31)
      have HX4 : Hid (RowC (w3.alloc (.cells #[.slice ob M cb, .slice ov N cv] 31)) w3.heap.size 31 [.slice ob M cb, .slice ov N cv]) := heap_alloc_new w3 _
      have HU4 := Lib.hid (u3.trans hal)
      have HOS4 := Lib.hid (HOS3.out.up hal)
      generalize (w3.alloc (.cells #[.slice ob M cb, .slice ov N cv] 31)) = W4 at HX4 HU4 HOS4 ⊢
      obtain ⟨X, hX⟩ : ∃ X, w3.heap.size = X := ⟨_, rfl⟩
      have hXB : w2.heap.size ≤ X := by rw [← hX]; exact u3.size
      rw [hX] at HX4 ⊢
      clear hX u3 hal
      have a1 := (HAw2.out.up HU4.out).cell (j := 1) rfl
      have af := ((HUw2.out.trans HU4.out).cell (World.block_lt_of_cell? w _ HAF.out)).trans HAF.out
      go_wp2_with fail
      refine (HCD.out _ (HUw2.out.trans HU4.out)).mono ?_
      rintro e w5 ⟨v5, rfl, ho5, u5⟩
      obtain ⟨o5, c5, hv5⟩ := own_slice ho5
      subst hv5
      have HFR5 : Hid (OFr w5 w2.heap.size (.agg #[.slice ob M cb, .slice ov N cv]) st (.slice o5 bl.length c5)) := OFr.later HOS4.out u5 (fun g hg => (World.ownsRow.lt ho5 g hg).1)
      have HO5 : Hid (OIds w5 w2.heap.size (.slice o5 bl.length c5) bl) := own_base ho5 HU4.out.size
      have HOS5 := Lib.hid (HOS4.out.up u5)
      have HX5 := Lib.hid (HX4.out.up u5)
      have HU5 := Lib.hid (HU4.out.trans u5)
      rw [HL.out] at HO5 HFR5 ⊢
      clear ho5 u5 a1 af
      have x0 := HX5.out.cell (j := 0) rfl
      have HRT : Hid (Calls Try.prog 41 #[.slice ob M cb, .slice o5 L c5] w5 (RtPost w5 w2.heap.size (.slice ob M cb) (ret st.b bl))) := by
        obtain ⟨vb6, vv6, e, h1, _⟩ := HOS5.out
        simp at e
        obtain ⟨rfl, rfl⟩ := e
        exact retain_any _ _ st.b bl w2.heap.size w5 h1 HGD.out.bag HO5.out.ids HVOL.out.2.2 HVOL.out.2.1
      unfold RtPost at HRT
      go_wp2_with fail
      refine HRT.out.mono ?_
      rintro e w6 ⟨rfl, ho6, hg6⟩
      have hbe : ∀ q, (Value.slice ob M cb).ownBlock = some q → w2.heap.size ≤ q := fun q hq => (World.ownsRow.lt ho6 q hq).1
      have HFR6 := Lib.hid (HFR5.out.bag hg6 ho6)
      have HO6 : Hid (OIds w6 w2.heap.size (.slice o5 L c5) bl) := by
        obtain ⟨vb6, vv6, e, h1, _⟩ := HOS5.out
        simp at e
        obtain ⟨rfl, rfl⟩ := e
        exact kept_apart HO5.out h1 (by decide) hg6
      have HX6 : Hid (RowC w6 X 31 [.slice ob M cb, .slice ov N cv]) := by
        obtain ⟨vb6, vv6, e, h1, _⟩ := HOS5.out
        simp at e
        obtain ⟨rfl, rfl⟩ := e
        exact HX5.out.kept hg6 (own_apart h1 HX5.out itState)
      have HU6 : Hid (Up w2 w6) := Below.grown HU5.out hg6 HU5.out.size hbe
      have HADD := Lib.hid (add_any _ ⟨ret st.b bl, st.v⟩ t _ bl w2.heap.size w6 HFR6.out HO6.out (by show st.v.length ≤ 6; rw [HN.out]; exact hN6) ht12 HU6.out.size)
      unfold AddPost at HADD
      clear ho6 hg6 hbe x0
      have x0 := HX6.out.cell (j := 0) rfl
      have x1 := HX6.out.cell (j := 1) rfl
      go_wp2_with fail
      refine HADD.out.mono ?_
      rintro e w7 ⟨v7, rfl, hs7, hb7⟩
      have h27 := Up.trans' HU6.out hb7
      obtain ⟨o4, c4, o8, c8, hv4⟩ := hs7.stat.shape
      subst hv4
      have HS4 := Lib.hid hs7
      have HZ4 := Lib.hid (HRw2.out.up h27)
      have HU7 := Lib.hid (HUw2.out.trans h27)
      obtain ⟨L5, hL5⟩ : ∃ L5, (vins ⟨t, bl⟩ st.v).length = L5 := ⟨_, rfl⟩
      obtain ⟨L6, hL6⟩ : ∃ L6, (ret st.b bl).length = L6 := ⟨_, rfl⟩
      rw [hL5, hL6] at HS4 ⊢
      clear hs7 hb7 h27 x0 x1 hL5 hL6
      have r0 := HZ4.out.frozen 0
      have r1 := HZ4.out.frozen 1
      have r2 := HZ4.out.cell (j := 0) rfl
      have r3 := HZ4.out.cell (j := 1) rfl
      go_wp2_with fail
      have hz := (HZ4.out.set 0 (.slice o4 L6 c4)).set 1 (.slice o8 L5 c8)
      have z0 := hz.cell (j := 0) rfl
      have z1 := hz.cell (j := 1) rfl
      have HOZ := Lib.hid (OSt.base (OSt.boxed HS4.out HZ4.out) HUw2.out.size)
      have HUZ := Lib.hid (up2 (x := .slice o4 L6 c4) (y := .slice o8 L5 c8) HU7.out (Nat.le_succ w.heap.size))
      generalize (w7.setCell ⟨w.heap.size + 1, 0, none⟩ (.slice o4 L6 c4)).setCell ⟨w.heap.size + 1, 1, none⟩ (.slice o8 L5 c8) = WZ at z0 z1 HOZ HUZ ⊢
      exact bodyPost_ret (v := .tuple #[.agg #[.slice o4 L6 c4, .slice o8 L5 c8], .int .i64 0]) (by simp [results, Try.results14, go_sem, z0, z1]) rfl ⟨_, by rw [HRZ.out], by rw [HRZ.out]; exact HOZ.out, HUZ.out⟩
    · have hne : (NE != 0) = true := by rw [bne_iff_ne]; exact hE
      have HRZ : Hid (RS = (zeroS, NE)) := by show _ = _; rw [← HRS.out, if_pos hE]
      clear hE
      have r0 := HRw2.out.frozen 0
      have r1 := HRw2.out.frozen 1
      have r2 := HRw2.out.cell (j := 0) rfl
      have r3 := HRw2.out.cell (j := 1) rfl
      go_wp2_with fail
      have hz := (HRw2.out.set 0 (.slice none 0 0)).set 1 (.slice none 0 0)
      have z0 := hz.cell (j := 0) rfl
      have z1 := hz.cell (j := 1) rfl
      have HUZ := Lib.hid (up2 (x := .slice none 0 0) (y := .slice none 0 0) HUw2.out (Nat.le_succ w.heap.size))
      generalize (w2.setCell ⟨w.heap.size + 1, 0, none⟩ (.slice none 0 0)).setCell ⟨w.heap.size + 1, 1, none⟩ (.slice none 0 0) = WZ at z0 z1 HUZ ⊢
      exact bodyPost_ret (v := .tuple #[zeroV, .int .i64 NE]) (by simp [results, Try.results14, go_sem, z0, z1, zeroV]) rfl ⟨_, by rw [HRZ.out], by rw [HRZ.out]; exact OSt.zero _ _, HUZ.out⟩
  · obtain ⟨E, hE⟩ : ∃ E, (vfind FP st s).2 = E := ⟨_, rfl⟩
    have hz := vfind_no h0
    have HRZ : Hid (RS = (zeroS, E)) := by show _ = _; rw [← HRS.out, if_pos h0, hE]
    rw [hE, hz] at HF
    rw [hE] at h0
    have hne : (E != 0) = true := by rw [bne_iff_ne]; exact h0
    clear hE hz h0 HSC HRS
    go_enter Try.func14, Try.ntmps14
    go_upto_region 1 with (fail)
    generalize (w.alloc (.cells #[.slice oB M cB, .slice oV N cV] 31)).alloc (.cells #[.slice none 0 0, .slice none 0 0] 31) = W0 at HA HR HW0 ⊢
    have a0 := HA.out.cell (j := 0) rfl
    have a1 := HA.out.cell (j := 1) rfl
    go_wp2_with fail
    refine (HF.out _ HW0.out).mono ?_
    rintro e w1 ⟨rfl, u1⟩
    have HUw1 := Lib.hid (HW0.out.trans u1)
    have HRw1 := Lib.hid (HR.out.up u1)
    clear a0 a1 u1
    have r0 := HRw1.out.frozen 0
    have r1 := HRw1.out.frozen 1
    have r2 := HRw1.out.cell (j := 0) rfl
    have r3 := HRw1.out.cell (j := 1) rfl
    go_wp2_with fail
    have hz := (HRw1.out.set 0 (.slice none 0 0)).set 1 (.slice none 0 0)
    have z0 := hz.cell (j := 0) rfl
    have z1 := hz.cell (j := 1) rfl
    have HUZ := Lib.hid (up2 (x := .slice none 0 0) (y := .slice none 0 0) HUw1.out (Nat.le_succ w.heap.size))
    generalize (w1.setCell ⟨w.heap.size + 1, 0, none⟩ (.slice none 0 0)).setCell ⟨w.heap.size + 1, 1, none⟩ (.slice none 0 0) = WZ at z0 z1 HUZ ⊢
    exact bodyPost_ret (v := .tuple #[zeroV, .int .i64 E]) (by simp [results, Try.results14, go_sem, z0, z1, zeroV]) rfl ⟨_, by rw [HRZ.out], by rw [HRZ.out]; exact OSt.zero _ _, HUZ.out⟩

theorem vclone_any (v : Value) (st : Sta) (s t : List UInt8) (w : World) (h : Stat w v st) (hwf : WfS st) (ht : t.length ≤ 9223372036854775807) :
    Calls Try.prog 14 #[v, .string (bs s), .string (bs t)] w (RdEPost w (clone FP st s t)) := by
  refine (vclone_own v st s t w h hwf ht).mono ?_
  rintro e w' ⟨v', h1, h2, h3⟩
  exact ⟨v', h1, h2.stat, h3⟩

end Go.Proofs.Ytnmdfdkagkpcaaa
