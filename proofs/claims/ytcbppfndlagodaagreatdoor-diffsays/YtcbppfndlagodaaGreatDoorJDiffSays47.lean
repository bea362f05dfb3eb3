/-
  What the reference's Write returns. Conditions: a state of right sizes with a right bag; the place is there.
-/
import Derived.Test.YtcbppfndlagodaaGreatDoorJDiffSays44
import Derived.Test.YtcbppfndlagodaaGreatDoorJDiffSays46
namespace Go.Proofs.YtcbppfndlagodaaGreatDoor
open Go.RowKit
open Go.Proofs
open WoolBag
open WoolVol

/-- a text put into a state at a place -/
def wrS (T : Sta) (k j : Nat) (t : List UInt8) : Sta × Int :=
  if (WoolBag.put FP T.b t).2.2 ≠ 0 then (zeroS, (WoolBag.put FP T.b t).2.2) else (⟨(WoolBag.put FP T.b t).1, setB T.v k j (WoolBag.put FP T.b t).2.1⟩, 0)

theorem Small.set {st : Sta} (h : Small st) {k j : Nat} {x : Idn} (hk : k < st.v.length) (b : List Itm) : Small ⟨b, setB st.v k j x⟩ := by
  refine ⟨by show (setB st.v k j x).length ≤ 6; rw [setB_len]; exact h.1, fun y hy => ?_⟩
  obtain ⟨q, hq, rfl⟩ := List.getElem_of_mem hy
  have hq' : q < st.v.length := by have h2 : q < (setB st.v k j x).length := hq; rwa [setB_len] at h2
  show ((setB st.v k j x)[q]'_).bl.length ≤ 32
  rw [setB_blk hk hq']
  split
  · rw [List.length_set]; exact h.2 _ (List.getElem_mem hk)
  · exact h.2 _ (List.getElem_mem hq')

set_option maxRecDepth 100000 in
set_option maxHeartbeats 4000000 in
theorem refWrite_any (v : Value) (st : Sta) (k j : Nat) (t : List UInt8) (w : World) (h : Stat w v st) (hs : Small st) (hg : Bag FP st.b) (hk : k < st.v.length) (hj : j < st.v[k].bl.length) :
    Calls Tryz.prog 36 #[v, .int .i64 (k : Int), .int .i64 (j : Int), .string (bs t)] w (RdEPost w (wrS ⟨rel FP st.b [st.v[k].bl[j]], setB st.v k j noId⟩ k j t)) := by
  have HTR := Lib.hid (fun W (hW : Up w W) => refTrim_any v st k j W (h.up hW) hs hg hk hj)
  obtain ⟨vb, vv, rfl, hb, hv⟩ := h
  obtain ⟨oB, cB, rfl, _⟩ := hb.slice
  obtain ⟨oV, cV, rfl, hV1, hV2⟩ := hv.slice
  have hk1 : k < (setB st.v k j noId).length := by rw [setB_len]; exact hk
  have hj1 : j < ((setB st.v k j noId)[k]'hk1).bl.length := by rw [setB_blk hk hk, if_pos rfl, List.length_set]; exact hj
  have HG : Hid (Bag FP (rel FP st.b [st.v[k].bl[j]])) := rel_bag _ hg
  have HSM : Hid (Small ⟨rel FP st.b [st.v[k].bl[j]], setB st.v k j noId⟩) := hs.set hk _
  obtain ⟨T, hT⟩ : ∃ T : Sta, (⟨rel FP st.b [st.v[k].bl[j]], setB st.v k j noId⟩ : Sta) = T := ⟨_, rfl⟩
  have HKJ : Hid (∃ hk : k < T.v.length, j < T.v[k].bl.length) := by subst hT; exact ⟨hk1, hj1⟩
  have HG1 : Hid (Bag FP T.b) := by subst hT; exact HG.out
  rw [hT] at HTR HSM ⊢
  clear HG hk1 hj1 hT hb hv hs hg hj
  clear hk
  obtain ⟨N, hN⟩ : ∃ N, st.v.length = N := ⟨_, rfl⟩
  rw [hN] at HTR hV1 ⊢
  clear hN
  generalize st.b.length = M at *
  obtain ⟨RS, hRS⟩ : ∃ RS, wrS T k j t = RS := ⟨_, rfl⟩
  rw [hRS]
  have HRS := Lib.hid hRS
  clear hRS
  unfold RdPost at HTR
  have HRR : Hid (RowC ((w.alloc (.cells #[.slice oB M cB, .slice oV N cV] 25)).alloc (.cells #[.slice none 0 0, .slice none 0 0] 25)) (w.heap.size + 1) 25 [.slice none 0 0, .slice none 0 0]) := box_new w _ _ _ _
  have HW0 : Hid (Up w ((w.alloc (.cells #[.slice oB M cB, .slice oV N cV] 25)).alloc (.cells #[.slice none 0 0, .slice none 0 0] 25))) := (Up.alloc _ _).trans (Up.alloc _ _)
  go_enter Tryz.func36, Tryz.ntmps36
  go_wp2_with fail
  generalize ((w.alloc (.cells #[.slice oB M cB, .slice oV N cV] 25)).alloc (.cells #[.slice none 0 0, .slice none 0 0] 25)) = W0 at HRR HW0 ⊢
  refine (HTR.out _ HW0.out).mono ?_
  rintro e w1 ⟨v1, rfl, hst1, u1⟩
  have HSET := Lib.hid (fun (x : Idn) W (hW : Up w1 W) => refSet_any v1 T k j x W (hst1.up hW) HSM.out HKJ.out.1 HKJ.out.2)
  obtain ⟨vb1, vv1, rfl, hb1, hv1⟩ := hst1
  obtain ⟨o1, c1, rfl, hm1⟩ := hb1.slice
  obtain ⟨o2, c2, rfl, hm2, hm3⟩ := hv1.slice
  unfold RdPost at HSET
  go_upto_region 2 with (fail)
  have hal := Up.alloc w1 (.cells #[.slice o1 T.b.length c1, .slice o2 T.v.length c2] 25)
  have HX : Hid (RowC (w1.alloc (.cells #[.slice o1 T.b.length c1, .slice o2 T.v.length c2] 25)) w1.heap.size 25 [.slice o1 T.b.length c1, .slice o2 T.v.length c2]) := heap_alloc_new w1 _
  have HR2 := Lib.hid ((HRR.out.up u1).up hal)
  have HB2 := Lib.hid (hb1.up hal)
  have HU2 := Lib.hid ((HW0.out.trans u1).trans hal)
  have HAL := Lib.hid hal
  have hRX : w.heap.size + 1 ≠ w1.heap.size := by have := (HRR.out.up u1).lt; omega
  have hwX : w.heap.size ≤ w1.heap.size := (HW0.out.trans u1).size
  clear hal hb1 hv1 u1
  generalize (w1.alloc (.cells #[.slice o1 T.b.length c1, .slice o2 T.v.length c2] 25)) = W2 at HX HR2 HB2 HU2 HAL ⊢
  obtain ⟨X, hX⟩ : ∃ X, w1.heap.size = X := ⟨_, rfl⟩
  rw [hX] at HX hRX hwX ⊢
  clear hX
  have HPT := Lib.hid (fun W (hW : Up W2 W) => refPut_any _ T.b t W (HB2.out.up hW) HG1.out)
  unfold RPutPost at HPT
  obtain ⟨P1, hP1⟩ : ∃ P1, (WoolBag.put FP T.b t).1 = P1 := ⟨_, rfl⟩
  obtain ⟨PI, hPI⟩ : ∃ PI, (WoolBag.put FP T.b t).2.1 = PI := ⟨_, rfl⟩
  obtain ⟨PE, hPE⟩ : ∃ PE, (WoolBag.put FP T.b t).2.2 = PE := ⟨_, rfl⟩
  have HRN : Hid (PE ≠ 0 → RS = (zeroS, PE)) := by intro hne; rw [← HRS.out]; unfold wrS; rw [hPE, if_pos hne]
  have HRY : Hid (PE = 0 → RS = (⟨P1, setB T.v k j PI⟩, 0)) := by intro he; rw [← HRS.out]; unfold wrS; rw [hPE, hP1, hPI, if_neg (by simpa using he)]
  rw [hP1, hPI, hPE] at HPT
  clear hP1 hPI hPE HRS
  have HSE2 := Lib.hid (HSET.out PI)
  obtain ⟨pb, ps, pn⟩ := PI
  unfold idV at HPT HSE2
  simp only at HPT HSE2
  have x0 := HX.out.cell (j := 0) rfl
  have x1 := HX.out.cell (j := 1) rfl
  go_wp2_with fail
  refine (HPT.out _ (Up.refl _)).mono ?_
  rintro e w3 ⟨o3, c3, rfl, hit3, u3⟩
  clear x0 x1
  go_upto_region 3 with (fail)
  have hal := Up.alloc w3 (.cells #[.bool pb, .int .i64 ps, .int .i64 pn] 49)
  have HI4 : Hid (RowC (w3.alloc (.cells #[.bool pb, .int .i64 ps, .int .i64 pn] 49)) w3.heap.size 49 [.bool pb, .int .i64 ps, .int .i64 pn]) := heap_alloc_new w3 _
  have HX4 := Lib.hid ((HX.out.up u3).up hal)
  have HR4 := Lib.hid ((HR2.out.up u3).up hal)
  have HB4 := Lib.hid (hit3.up hal)
  have HU4 := Lib.hid ((HU2.out.trans u3).trans hal)
  have HA4 := Lib.hid ((HAL.out.trans u3).trans hal)
  clear hal hit3 u3
  generalize (w3.alloc (.cells #[.bool pb, .int .i64 ps, .int .i64 pn] 49)) = W4 at HI4 HX4 HR4 HB4 HU4 HA4 ⊢
  obtain ⟨I4, hI4⟩ : ∃ I4, w3.heap.size = I4 := ⟨_, rfl⟩
  rw [hI4] at HI4 ⊢
  clear hI4
  by_cases hp : PE = 0
  · subst hp
    have HRZ := Lib.hid (HRY.out rfl)
    have x0 := HX4.out.cell (j := 0) rfl
    have x1 := HX4.out.cell (j := 1) rfl
    have y0 := HI4.out.cell (j := 0) rfl
    have y1 := HI4.out.cell (j := 1) rfl
    have y2 := HI4.out.cell (j := 2) rfl
    go_wp2_with fail
    refine (HSE2.out _ HA4.out).mono ?_
    rintro e w5 ⟨v5, rfl, hst5, u5⟩
    obtain ⟨vb5, vv5, rfl, hb5, hv5⟩ := hst5
    obtain ⟨o5, c5, rfl, _⟩ := hb5.slice
    obtain ⟨o6, c6, rfl, _, _⟩ := hv5.slice
    obtain ⟨L5, hL5⟩ : ∃ L5, (setB T.v k j (pb, ps, pn)).length = L5 := ⟨_, rfl⟩
    have HL5 := Lib.hid hL5
    simp only at hv5 ⊢
    rw [hL5] at hv5 ⊢
    clear hL5
    have hX5 := HX4.out.up u5
    have hR5 := HR4.out.up u5
    have p0 := hX5.cell (j := 0) rfl
    have p1 := hX5.cell (j := 1) rfl
    have p2 := hX5.frozen 0
    have p3 := hX5.frozen 1
    have hX6 : RowC (w5.setCell ⟨X, 0, none⟩ (.slice o5 T.b.length c5)) X 25 [.slice o5 T.b.length c5, .slice o2 T.v.length c2] := hX5.set 0 _
    have hX7 : RowC ((w5.setCell ⟨X, 0, none⟩ (.slice o5 T.b.length c5)).setCell ⟨X, 1, none⟩ (.slice o6 L5 c6)) X 25 [.slice o5 T.b.length c5, .slice o6 L5 c6] := hX6.set 1 _
    have HX7 := Lib.hid hX7
    have HR7 := Lib.hid ((hR5.other hRX 0 (.slice o5 T.b.length c5)).other hRX 1 (.slice o6 L5 c6))
    have HB7 : Hid (Items ((w5.setCell ⟨X, 0, none⟩ (.slice o5 T.b.length c5)).setCell ⟨X, 1, none⟩ (.slice o6 L5 c6)) (.slice o3 P1.length c3) P1) := ((HB4.out.up u5).setS hX5 rfl rfl).setS hX6 rfl rfl
    have HV7 : Hid (Vols ((w5.setCell ⟨X, 0, none⟩ (.slice o5 T.b.length c5)).setCell ⟨X, 1, none⟩ (.slice o6 L5 c6)) (.slice o6 L5 c6) (setB T.v k j (pb, ps, pn))) := (hv5.setS hX5 rfl rfl).setS hX6 rfl rfl
    have HU7 : Hid (Up w ((w5.setCell ⟨X, 0, none⟩ (.slice o5 T.b.length c5)).setCell ⟨X, 1, none⟩ (.slice o6 L5 c6))) := up2 (HU4.out.trans u5) hwX
    clear hX5 hR5 hX6 hX7 u5 hb5 hv5 x0 x1 y0 y1 y2
    go_upto_region 6 with (fail)
    generalize ((w5.setCell ⟨X, 0, none⟩ (.slice o5 T.b.length c5)).setCell ⟨X, 1, none⟩ (.slice o6 L5 c6)) = W7 at HX7 HR7 HB7 HV7 HU7 ⊢
    clear p0 p1 p2 p3
    have p0 := HX7.out.cell (j := 0) rfl
    have p2 := HX7.out.frozen 0
    have HX8 : Hid (RowC (W7.setCell ⟨X, 0, none⟩ (.slice o3 P1.length c3)) X 25 [.slice o3 P1.length c3, .slice o6 L5 c6]) := HX7.out.set 0 _
    have HR8 := Lib.hid (HR7.out.other hRX 0 (.slice o3 P1.length c3))
    have HS8 : Hid (Stat (W7.setCell ⟨X, 0, none⟩ (.slice o3 P1.length c3)) (.agg #[.slice o3 P1.length c3, .slice o6 L5 c6]) ⟨P1, setB T.v k j (pb, ps, pn)⟩) := ⟨_, _, rfl, HB7.out.setS HX7.out rfl rfl, HV7.out.setS HX7.out rfl rfl⟩
    have HU8 : Hid (Up w (W7.setCell ⟨X, 0, none⟩ (.slice o3 P1.length c3))) := Below.setCell (show Below w.heap.size w W7 from HU7.out) (p := ⟨X, 0, none⟩) hwX _
    go_upto_region 7 with (fail)
    generalize (W7.setCell ⟨X, 0, none⟩ (.slice o3 P1.length c3)) = W8 at HX8 HR8 HS8 HU8 ⊢
    clear p0 p2
    have s0 := HX8.out.cell (j := 0) rfl
    have s1 := HX8.out.cell (j := 1) rfl
    have r0 := HR8.out.frozen 0
    have r1 := HR8.out.frozen 1
    have r2 := HR8.out.cell (j := 0) rfl
    have r3 := HR8.out.cell (j := 1) rfl
    go_wp2_with fail
    have hz := (HR8.out.set 0 (.slice o3 P1.length c3)).set 1 (.slice o6 L5 c6)
    have z0 := hz.cell (j := 0) rfl
    have z1 := hz.cell (j := 1) rfl
    have HST := Lib.hid (Stat.boxed (x := .slice o3 P1.length c3) (y := .slice o6 L5 c6) HS8.out HR8.out rfl rfl rfl)
    have HUZ : Hid (Up w ((W8.setCell ⟨w.heap.size + 1, 0, none⟩ (.slice o3 P1.length c3)).setCell ⟨w.heap.size + 1, 1, none⟩ (.slice o6 L5 c6))) := up2 HU8.out (Nat.le_succ _)
    generalize (W8.setCell ⟨w.heap.size + 1, 0, none⟩ (.slice o3 P1.length c3)).setCell ⟨w.heap.size + 1, 1, none⟩ (.slice o6 L5 c6) = WZ at z0 z1 HST HUZ ⊢
    exact bodyPost_ret (v := .tuple #[.agg #[.slice o3 P1.length c3, .slice o6 L5 c6], .int .i64 0]) (by simp [results, Tryz.results36, go_sem, z0, z1]) rfl ⟨_, by rw [HRZ.out], by rw [HRZ.out]; exact HST.out, HUZ.out⟩
  · have HRZ := Lib.hid (HRN.out hp)
    have hne : (PE != 0) = true := by rw [bne_iff_ne]; exact hp
    have r0 := HR4.out.frozen 0
    have r1 := HR4.out.frozen 1
    have r2 := HR4.out.cell (j := 0) rfl
    have r3 := HR4.out.cell (j := 1) rfl
    clear hp
    go_wp2_with fail
    have hz := (HR4.out.set 0 (.slice none 0 0)).set 1 (.slice none 0 0)
    have z0 := hz.cell (j := 0) rfl
    have z1 := hz.cell (j := 1) rfl
    have HUZ : Hid (Up w ((W4.setCell ⟨w.heap.size + 1, 0, none⟩ (.slice none 0 0)).setCell ⟨w.heap.size + 1, 1, none⟩ (.slice none 0 0))) := up2 HU4.out (Nat.le_succ _)
    generalize (W4.setCell ⟨w.heap.size + 1, 0, none⟩ (.slice none 0 0)).setCell ⟨w.heap.size + 1, 1, none⟩ (.slice none 0 0) = WZ at z0 z1 HUZ ⊢
    exact bodyPost_ret (v := .tuple #[zeroV, .int .i64 PE]) (by simp [results, Tryz.results36, go_sem, z0, z1, zeroV]) rfl ⟨_, by rw [HRZ.out], by rw [HRZ.out]; exact Stat.zero _, HUZ.out⟩

end Go.Proofs.YtcbppfndlagodaaGreatDoor
