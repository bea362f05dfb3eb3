/-
  The texts RefVol8, RefVolA, one behind the other; each says below what it holds and on what conditions.
-/
import Derived.Test.YtbeigaanlhaolaaGreatDoorJB34
import Derived.Test.YtbeigaanlhaolaaGreatDoorJB36
import Derived.Test.YtbeigaanlhaolaaGreatDoorJB22
import Derived.Test.YtbeigaanlhaolaaGreatDoorJB26
import Derived.Deep.QuietTactic
import Derived.BigQuiet

/-
  What the reference's Write returns. Conditions: a state of right sizes with a right bag; the place is there.
-/
namespace Go.Proofs.YtbeigaanlhaolaaGreatDoor
open Go.RowKit
open Go.Proofs
open WoolBag
open WoolVol

/-- a text put into a state at a place -/
def wrS (T : Sta) (k j : Nat) (t : List UInt8) : Sta × Int :=
  if (WoolBag.put FP T.b t).2.2 ≠ 0 then (zeroS, (WoolBag.put FP T.b t).2.2) else (⟨(WoolBag.put FP T.b t).1, setB T.v k j (WoolBag.put FP T.b t).2.1⟩, 0)

theorem Small.set {st : Sta} (h : Small st) {k j : Nat} {x : Idn} (hk : k < st.v.length) (b : List Itm) : Small ⟨b, setB st.v k j x⟩ := by
  refine ⟨by show (setB st.v k j x).length ≤ 6; rw [setB_len]; exact h.1, fun y hy => ?_⟩
  obtain ⟨q, hq, rfl⟩ := List.getElem_of_mem hy
  have hq' : q < st.v.length := by have h2 : q < (setB st.v k j x).length := hq; rwa [setB_len] at h2
  show ((setB st.v k j x)[q]'_).bl.length ≤ 32
  rw [setB_blk hk hq']
  split
  · rw [List.length_set]; exact h.2 _ (List.getElem_mem hk)
  · exact h.2 _ (List.getElem_mem hq')

set_option maxRecDepth 100000 in
set_option maxHeartbeats 4000000 in
theorem refWrite_any (v : Value) (st : Sta) (k j : Nat) (t : List UInt8) (w : World) (h : Stat w v st) (hs : Small st) (hg : Bag FP st.b) (hk : k < st.v.length) (hj : j < st.v[k].bl.length) :
    Calls Tryz.prog 47 #[v, .int .i64 (k : Int), .int .i64 (j : Int), .string (bs t)] w (RdEPost w (wrS ⟨rel FP st.b [st.v[k].bl[j]], setB st.v k j noId⟩ k j t)) := by
  have HTR := Lib.hid (fun W (hW : Up w W) => refTrim_any v st k j W (h.up hW) hs hg hk hj)
  obtain ⟨vb, vv, rfl, hb, hv⟩ := h
  obtain ⟨oB, cB, rfl, _⟩ := hb.slice
  obtain ⟨oV, cV, rfl, hV1, hV2⟩ := hv.slice
  have hk1 : k < (setB st.v k j noId).length := by rw [setB_len]; exact hk
  have hj1 : j < ((setB st.v k j noId)[k]'hk1).bl.length := by rw [setB_blk hk hk, if_pos rfl, List.length_set]; exact hj
  have HG : Hid (Bag FP (rel FP st.b [st.v[k].bl[j]])) := rel_bag _ hg
  have HSM : Hid (Small ⟨rel FP st.b [st.v[k].bl[j]], setB st.v k j noId⟩) := hs.set hk _
  obtain ⟨T, hT⟩ : ∃ T : Sta, (⟨rel FP st.b [st.v[k].bl[j]], setB st.v k j noId⟩ : Sta) = T := ⟨_, rfl⟩
  have HKJ : Hid (∃ hk : k < T.v.length, j < T.v[k].bl.length) := by subst hT; exact ⟨hk1, hj1⟩
  have HG1 : Hid (Bag FP T.b) := by subst hT; exact HG.out
  rw [hT] at HTR HSM ⊢
  clear HG hk1 hj1 hT hb hv hs hg hj
  clear hk
  obtain ⟨N, hN⟩ : ∃ N, st.v.length = N := ⟨_, rfl⟩
  rw [hN] at HTR hV1 ⊢
  clear hN
  generalize st.b.length = M at *
  obtain ⟨RS, hRS⟩ : ∃ RS, wrS T k j t = RS := ⟨_, rfl⟩
  rw [hRS]
  have HRS := Lib.hid hRS
  clear hRS
  unfold RdPost at HTR
  have HRR : Hid (RowC ((w.alloc (.cells #[.slice oB M cB, .slice oV N cV] 36)).alloc (.cells #[.slice none 0 0, .slice none 0 0] 36)) (w.heap.size + 1) 36 [.slice none 0 0, .slice none 0 0]) := box_new w _ _ _ _
  have HW0 : Hid (Up w ((w.alloc (.cells #[.slice oB M cB, .slice oV N cV] 36)).alloc (.cells #[.slice none 0 0, .slice none 0 0] 36))) := (Up.alloc _ _).trans (Up.alloc _ _)
  go_enter Tryz.func47, Tryz.ntmps47
  go_wp2_with fail
  generalize ((w.alloc (.cells #[.slice oB M cB, .slice oV N cV] 36)).alloc (.cells #[.slice none 0 0, .slice none 0 0] 36)) = W0 at HRR HW0 ⊢
  refine (HTR.out _ HW0.out).mono ?_
  rintro e w1 ⟨v1, rfl, hst1, u1⟩
  have HSET := Lib.hid (fun (x : Idn) W (hW : Up w1 W) => refSet_any v1 T k j x W (hst1.up hW) HSM.out HKJ.out.1 HKJ.out.2)
  obtain ⟨vb1, vv1, rfl, hb1, hv1⟩ := hst1
  obtain ⟨o1, c1, rfl, hm1⟩ := hb1.slice
  obtain ⟨o2, c2, rfl, hm2, hm3⟩ := hv1.slice
  unfold RdPost at HSET
  go_upto_region 2 with (fail)
  have hal := Up.alloc w1 (.cells #[.slice o1 T.b.length c1, .slice o2 T.v.length c2] 36)
  have HX : Hid (RowC (w1.alloc (.cells #[.slice o1 T.b.length c1, .slice o2 T.v.length c2] 36)) w1.heap.size 36 [.slice o1 T.b.length c1, .slice o2 T.v.length c2]) := heap_alloc_new w1 _
  have HR2 := Lib.hid ((HRR.out.up u1).up hal)
  have HB2 := Lib.hid (hb1.up hal)
  have HU2 := Lib.hid ((HW0.out.trans u1).trans hal)
  have HAL := Lib.hid hal
  have hRX : w.heap.size + 1 ≠ w1.heap.size := by have := (HRR.out.up u1).lt; omega
  have hwX : w.heap.size ≤ w1.heap.size := (HW0.out.trans u1).size
  clear hal hb1 hv1 u1
  generalize (w1.alloc (.cells #[.slice o1 T.b.length c1, .slice o2 T.v.length c2] 36)) = W2 at HX HR2 HB2 HU2 HAL ⊢
  obtain ⟨X, hX⟩ : ∃ X, w1.heap.size = X := ⟨_, rfl⟩
  rw [hX] at HX hRX hwX ⊢
  clear hX
  have HPT := Lib.hid (fun W (hW : Up W2 W) => refPut_any _ T.b t W (HB2.out.up hW) HG1.out)
  unfold RPutPost at HPT
  obtain ⟨P1, hP1⟩ : ∃ P1, (WoolBag.put FP T.b t).1 = P1 := ⟨_, rfl⟩
  obtain ⟨PI, hPI⟩ : ∃ PI, (WoolBag.put FP T.b t).2.1 = PI := ⟨_, rfl⟩
  obtain ⟨PE, hPE⟩ : ∃ PE, (WoolBag.put FP T.b t).2.2 = PE := ⟨_, rfl⟩
  have HRN : Hid (PE ≠ 0 → RS = (zeroS, PE)) := by intro hne; rw [← HRS.out]; unfold wrS; rw [hPE, if_pos hne]
  have HRY : Hid (PE = 0 → RS = (⟨P1, setB T.v k j PI⟩, 0)) := by intro he; rw [← HRS.out]; unfold wrS; rw [hPE, hP1, hPI, if_neg (by simpa using he)]
  rw [hP1, hPI, hPE] at HPT
  clear hP1 hPI hPE HRS
  have HSE2 := Lib.hid (HSET.out PI)
  obtain ⟨pb, ps, pn⟩ := PI
  unfold idV at HPT HSE2
  simp only at HPT HSE2
  have x0 := HX.out.cell (j := 0) rfl
  have x1 := HX.out.cell (j := 1) rfl
  go_wp2_with fail
  refine (HPT.out _ (Up.refl _)).mono ?_
  rintro e w3 ⟨o3, c3, rfl, hit3, u3⟩
  clear x0 x1
  go_upto_region 3 with (fail)
  have hal := Up.alloc w3 (.cells #[.bool pb, .int .i64 ps, .int .i64 pn] 86)
  have HI4 : Hid (RowC (w3.alloc (.cells #[.bool pb, .int .i64 ps, .int .i64 pn] 86)) w3.heap.size 86 [.bool pb, .int .i64 ps, .int .i64 pn]) := heap_alloc_new w3 _
  have HX4 := Lib.hid ((HX.out.up u3).up hal)
  have HR4 := Lib.hid ((HR2.out.up u3).up hal)
  have HB4 := Lib.hid (hit3.up hal)
  have HU4 := Lib.hid ((HU2.out.trans u3).trans hal)
  have HA4 := Lib.hid ((HAL.out.trans u3).trans hal)
  clear hal hit3 u3
  generalize (w3.alloc (.cells #[.bool pb, .int .i64 ps, .int .i64 pn] 86)) = W4 at HI4 HX4 HR4 HB4 HU4 HA4 ⊢
  obtain ⟨I4, hI4⟩ : ∃ I4, w3.heap.size = I4 := ⟨_, rfl⟩
  rw [hI4] at HI4 ⊢
  clear hI4
  by_cases hp : PE = 0
  · subst hp
    have HRZ := Lib.hid (HRY.out rfl)
    have x0 := HX4.out.cell (j := 0) rfl
    have x1 := HX4.out.cell (j := 1) rfl
    have y0 := HI4.out.cell (j := 0) rfl
    have y1 := HI4.out.cell (j := 1) rfl
    have y2 := HI4.out.cell (j := 2) rfl
    go_wp2_with fail
    refine (HSE2.out _ HA4.out).mono ?_
    rintro e w5 ⟨v5, rfl, hst5, u5⟩
    obtain ⟨vb5, vv5, rfl, hb5, hv5⟩ := hst5
    obtain ⟨o5, c5, rfl, _⟩ := hb5.slice
    obtain ⟨o6, c6, rfl, _, _⟩ := hv5.slice
    obtain ⟨L5, hL5⟩ : ∃ L5, (setB T.v k j (pb, ps, pn)).length = L5 := ⟨_, rfl⟩
    have HL5 := Lib.hid hL5
    simp only at hv5 ⊢
    rw [hL5] at hv5 ⊢
    clear hL5
    have hX5 := HX4.out.up u5
    have hR5 := HR4.out.up u5
    have p0 := hX5.cell (j := 0) rfl
    have p1 := hX5.cell (j := 1) rfl
    have p2 := hX5.frozen 0
    have p3 := hX5.frozen 1
    have hX6 : RowC (w5.setCell ⟨X, 0, none⟩ (.slice o5 T.b.length c5)) X 36 [.slice o5 T.b.length c5, .slice o2 T.v.length c2] := hX5.set 0 _
    have hX7 : RowC ((w5.setCell ⟨X, 0, none⟩ (.slice o5 T.b.length c5)).setCell ⟨X, 1, none⟩ (.slice o6 L5 c6)) X 36 [.slice o5 T.b.length c5, .slice o6 L5 c6] := hX6.set 1 _
    have HX7 := Lib.hid hX7
    have HR7 := Lib.hid ((hR5.other hRX 0 (.slice o5 T.b.length c5)).other hRX 1 (.slice o6 L5 c6))
    have HB7 : Hid (Items ((w5.setCell ⟨X, 0, none⟩ (.slice o5 T.b.length c5)).setCell ⟨X, 1, none⟩ (.slice o6 L5 c6)) (.slice o3 P1.length c3) P1) := ((HB4.out.up u5).setS hX5 rfl rfl).setS hX6 rfl rfl
    have HV7 : Hid (Vols ((w5.setCell ⟨X, 0, none⟩ (.slice o5 T.b.length c5)).setCell ⟨X, 1, none⟩ (.slice o6 L5 c6)) (.slice o6 L5 c6) (setB T.v k j (pb, ps, pn))) := (hv5.setS hX5 rfl rfl).setS hX6 rfl rfl
    have HU7 : Hid (Up w ((w5.setCell ⟨X, 0, none⟩ (.slice o5 T.b.length c5)).setCell ⟨X, 1, none⟩ (.slice o6 L5 c6))) := up2 (HU4.out.trans u5) hwX
    clear hX5 hR5 hX6 hX7 u5 hb5 hv5 x0 x1 y0 y1 y2
    go_upto_region 6 with (fail)
    generalize ((w5.setCell ⟨X, 0, none⟩ (.slice o5 T.b.length c5)).setCell ⟨X, 1, none⟩ (.slice o6 L5 c6)) = W7 at HX7 HR7 HB7 HV7 HU7 ⊢
    clear p0 p1 p2 p3
    have p0 := HX7.out.cell (j := 0) rfl
    have p2 := HX7.out.frozen 0
    have HX8 : Hid (RowC (W7.setCell ⟨X, 0, none⟩ (.slice o3 P1.length c3)) X 36 [.slice o3 P1.length c3, .slice o6 L5 c6]) := HX7.out.set 0 _
    have HR8 := Lib.hid (HR7.out.other hRX 0 (.slice o3 P1.length c3))
    have HS8 : Hid (Stat (W7.setCell ⟨X, 0, none⟩ (.slice o3 P1.length c3)) (.agg #[.slice o3 P1.length c3, .slice o6 L5 c6]) ⟨P1, setB T.v k j (pb, ps, pn)⟩) := ⟨_, _, rfl, HB7.out.setS HX7.out rfl rfl, HV7.out.setS HX7.out rfl rfl⟩
    have HU8 : Hid (Up w (W7.setCell ⟨X, 0, none⟩ (.slice o3 P1.length c3))) := Below.setCell (show Below w.heap.size w W7 from HU7.out) (p := ⟨X, 0, none⟩) hwX _
    go_upto_region 7 with (fail)
    generalize (W7.setCell ⟨X, 0, none⟩ (.slice o3 P1.length c3)) = W8 at HX8 HR8 HS8 HU8 ⊢
    clear p0 p2
    have s0 := HX8.out.cell (j := 0) rfl
    have s1 := HX8.out.cell (j := 1) rfl
    have r0 := HR8.out.frozen 0
    have r1 := HR8.out.frozen 1
    have r2 := HR8.out.cell (j := 0) rfl
    have r3 := HR8.out.cell (j := 1) rfl
    go_wp2_with fail
    have hz := (HR8.out.set 0 (.slice o3 P1.length c3)).set 1 (.slice o6 L5 c6)
    have z0 := hz.cell (j := 0) rfl
    have z1 := hz.cell (j := 1) rfl
    have HST := Lib.hid (Stat.boxed (x := .slice o3 P1.length c3) (y := .slice o6 L5 c6) HS8.out HR8.out rfl rfl rfl)
    have HUZ : Hid (Up w ((W8.setCell ⟨w.heap.size + 1, 0, none⟩ (.slice o3 P1.length c3)).setCell ⟨w.heap.size + 1, 1, none⟩ (.slice o6 L5 c6))) := up2 HU8.out (Nat.le_succ _)
    generalize (W8.setCell ⟨w.heap.size + 1, 0, none⟩ (.slice o3 P1.length c3)).setCell ⟨w.heap.size + 1, 1, none⟩ (.slice o6 L5 c6) = WZ at z0 z1 HST HUZ ⊢
    exact bodyPost_ret (v := .tuple #[.agg #[.slice o3 P1.length c3, .slice o6 L5 c6], .int .i64 0]) (by simp [results, Tryz.results47, go_sem, z0, z1]) rfl ⟨_, by rw [HRZ.out], by rw [HRZ.out]; exact HST.out, HUZ.out⟩
  · have HRZ := Lib.hid (HRN.out hp)
    have hne : (PE != 0) = true := by rw [bne_iff_ne]; exact hp
    have r0 := HR4.out.frozen 0
    have r1 := HR4.out.frozen 1
    have r2 := HR4.out.cell (j := 0) rfl
    have r3 := HR4.out.cell (j := 1) rfl
    clear hp
    go_wp2_with fail
    have hz := (HR4.out.set 0 (.slice none 0 0)).set 1 (.slice none 0 0)
    have z0 := hz.cell (j := 0) rfl
    have z1 := hz.cell (j := 1) rfl
    have HUZ : Hid (Up w ((W4.setCell ⟨w.heap.size + 1, 0, none⟩ (.slice none 0 0)).setCell ⟨w.heap.size + 1, 1, none⟩ (.slice none 0 0))) := up2 HU4.out (Nat.le_succ _)
    generalize (W4.setCell ⟨w.heap.size + 1, 0, none⟩ (.slice none 0 0)).setCell ⟨w.heap.size + 1, 1, none⟩ (.slice none 0 0) = WZ at z0 z1 HUZ ⊢
    exact bodyPost_ret (v := .tuple #[zeroV, .int .i64 PE]) (by simp [results, Tryz.results47, go_sem, z0, z1, zeroV]) rfl ⟨_, by rw [HRZ.out], by rw [HRZ.out]; exact Stat.zero _, HUZ.out⟩

end Go.Proofs.YtbeigaanlhaolaaGreatDoor

/-
  What the reference's Do returns for a deed that trims or writes. Conditions: a state that can be read.
-/
namespace Go.Proofs.YtbeigaanlhaolaaGreatDoor
open Go.RowKit
open Go.Proofs
open WoolBag
open WoolVol

/-- what a deed of kind 4, of another, answers -/
def do34 (kd : Int) (st : Sta) (s t : List UInt8) (a : Int) : Sta × Int := if kd = 4 then trim FP st s a else write FP st s a t

theorem do34_no {kd : Int} {st : Sta} {s t : List UInt8} {a : Int} (h : (vloc FP st s a).2 ≠ 0) : do34 kd st s t a = (zeroS, (vloc FP st s a).2) := by
  unfold do34
  split
  · exact trim_no h
  · rw [write_no (by rw [trim_no h]; exact h), trim_no h]

theorem do34_trim {st : Sta} {s t : List UInt8} {k j : Nat} (hk : k < st.v.length) (hj : j < st.v[k].bl.length) (h : vloc FP st s (j : Int) = (k, 0)) : do34 4 st s t (j : Int) = (⟨rel FP st.b [st.v[k].bl[j]], setB st.v k j noId⟩, 0) := by
  unfold do34; rw [if_pos rfl, trim_yes hk hj h]

theorem do34_write {kd : Int} {st : Sta} {s t : List UInt8} {k j : Nat} (hkd : kd ≠ 4) (hk : k < st.v.length) (hj : j < st.v[k].bl.length) (h : vloc FP st s (j : Int) = (k, 0)) : do34 kd st s t (j : Int) = wrS ⟨rel FP st.b [st.v[k].bl[j]], setB st.v k j noId⟩ k j t := by
  have ht := trim_yes (s := s) hk hj h
  unfold do34 wrS
  rw [if_neg hkd]
  by_cases hp : (WoolBag.put FP (rel FP st.b [st.v[k].bl[j]]) t).2.2 = 0
  · rw [write_yes (by rw [ht]) (by rw [ht]; exact hp), ht, h, if_neg (by simpa using hp)]
    rfl
  · rw [write_full (by rw [ht]) (by rw [ht]; exact hp), ht, if_pos hp]

theorem vloc_chk {st : Sta} {s : List UInt8} {a : Int} (h : chkS FP st ≠ 0) : (vloc FP st s a).2 = chkS FP st := by
  have hf : (vfind FP st s).2 = chkS FP st := by unfold vfind; rw [if_pos h]
  unfold vloc; rw [if_pos (by rw [hf]; exact h)]; exact hf

theorem vloc_none {st : Sta} {s : List UInt8} {a : Int} (h : chkS FP st = 0) (hx : vix (nmB s) st.v = none) : (vloc FP st s a).2 = 4 := by
  have hf : (vfind FP st s).2 = 4 := by unfold vfind; rw [if_neg (by simpa using h), hx]
  unfold vloc; rw [if_pos (by rw [hf]; omega)]; exact hf

theorem vfind_some {st : Sta} {s : List UInt8} {k : Nat} (h : chkS FP st = 0) (hx : vix (nmB s) st.v = some k) : vfind FP st s = (k, 0) := by
  unfold vfind; rw [if_neg (by simpa using h), hx]

theorem vloc_out {st : Sta} {s : List UInt8} {k : Nat} {a : Int} (hk : k < st.v.length) (hf : vfind FP st s = (k, 0)) (h : a < 0 ∨ (st.v[k].bl.length : Int) ≤ a) : (vloc FP st s a).2 = 1 := by
  unfold vloc
  rw [hf, if_neg (by simp)]
  simp only
  rw [getElem!_pos st.v k hk, if_pos h]

theorem vloc_in {st : Sta} {s : List UInt8} {k j : Nat} (hk : k < st.v.length) (hf : vfind FP st s = (k, 0)) (h : j < st.v[k].bl.length) : vloc FP st s (j : Int) = (k, 0) := by
  unfold vloc
  rw [hf, if_neg (by simp)]
  simp only
  rw [getElem!_pos st.v k hk, if_neg (by omega)]

/-- a deed as a value -/
def opV (kd : Int) (s u : List UInt8) (a : Int) (t : List UInt8) : Value := .agg #[.int .i64 kd, .string (bs s), .string (bs u), .int .i64 a, .string (bs t)]

set_option maxRecDepth 100000 in
set_option maxHeartbeats 4000000 in
theorem refDo34 (v : Value) (st : Sta) (kd : Int) (s u t : List UInt8) (a : Int) (w : World) (h : Stat w v st) (hwf : WfS st) (hk1 : kd ≠ 1) (hk2 : kd ≠ 2) (hk5 : kd ≠ 5) :
    Calls Tryz.prog 23 #[v, opV kd s u a t] w (RdEPost w (do34 kd st s t a)) := by
  have HST := Lib.hid h
  have HCK := Lib.hid (fun W (hW : Up w W) => refState_any v st W (h.up hW) hwf)
  have HVL := Lib.hid (fun W (hW : Up w W) => refVol_any v st s W (h.up hW))
  obtain ⟨vb, vv, rfl, hb, hv⟩ := h
  have HVV := Lib.hid hv
  obtain ⟨oB, cB, rfl, _⟩ := hb.slice
  obtain ⟨oV, cV, rfl, hV1, hV2⟩ := hv.slice
  unfold maxLen at hV2
  clear hb hv hwf
  obtain ⟨RS, hRS⟩ : ∃ RS, do34 kd st s t a = RS := ⟨_, rfl⟩
  rw [hRS]
  have HRS := Lib.hid hRS
  clear hRS
  obtain ⟨N, hN⟩ : ∃ N, st.v.length = N := ⟨_, rfl⟩
  have HN := Lib.hid hN
  rw [hN] at HST HCK HVL HVV hV1 ⊢
  clear hN
  generalize st.b.length = M at *
  have d1 : (kd == 1) = false := by simpa using hk1
  have d2 : (kd == 2) = false := by simpa using hk2
  have d5 : (kd == 5) = false := by simpa using hk5
  clear hk1 hk2 hk5
  unfold opV
  have HRA : Hid (RowC (((w.alloc (.cells #[.slice oB M cB, .slice oV N cV] 36)).alloc (.cells #[.int .i64 kd, .string (bs s), .string (bs u), .int .i64 a, .string (bs t)] 27)).alloc (.cells #[.slice none 0 0, .slice none 0 0] 36)) w.heap.size 36 [.slice oB M cB, .slice oV N cV]) := ((row_at rfl [.slice oB M cB, .slice oV N cV] 36).up (Up.alloc _ _)).up (Up.alloc _ _)
  have HRO : Hid (RowC (((w.alloc (.cells #[.slice oB M cB, .slice oV N cV] 36)).alloc (.cells #[.int .i64 kd, .string (bs s), .string (bs u), .int .i64 a, .string (bs t)] 27)).alloc (.cells #[.slice none 0 0, .slice none 0 0] 36)) (w.heap.size + 1) 27 [.int .i64 kd, .string (bs s), .string (bs u), .int .i64 a, .string (bs t)]) := (row_at (by simp) [.int .i64 kd, .string (bs s), .string (bs u), .int .i64 a, .string (bs t)] 27).up (Up.alloc _ _)
  have HRR : Hid (RowC (((w.alloc (.cells #[.slice oB M cB, .slice oV N cV] 36)).alloc (.cells #[.int .i64 kd, .string (bs s), .string (bs u), .int .i64 a, .string (bs t)] 27)).alloc (.cells #[.slice none 0 0, .slice none 0 0] 36)) (w.heap.size + 1 + 1) 36 [.slice none 0 0, .slice none 0 0]) := row_at (by simp) [.slice none 0 0, .slice none 0 0] 36
  have HW0 : Hid (Up w (((w.alloc (.cells #[.slice oB M cB, .slice oV N cV] 36)).alloc (.cells #[.int .i64 kd, .string (bs s), .string (bs u), .int .i64 a, .string (bs t)] 27)).alloc (.cells #[.slice none 0 0, .slice none 0 0] 36))) := ((Up.alloc _ _).trans (Up.alloc _ _)).trans (Up.alloc _ _)
  go_enter Tryz.func23, Tryz.ntmps23
  go_upto_region 1 with (fail)
  generalize (((w.alloc (.cells #[.slice oB M cB, .slice oV N cV] 36)).alloc (.cells #[.int .i64 kd, .string (bs s), .string (bs u), .int .i64 a, .string (bs t)] 27)).alloc (.cells #[.slice none 0 0, .slice none 0 0] 36)) = W0 at HRA HRO HRR HW0 ⊢
  have q0 := HRA.out.cell (j := 0) rfl
  have q1 := HRA.out.cell (j := 1) rfl
  go_wp2_with fail
  refine (HCK.out _ HW0.out).mono ?_
  rintro e w1 ⟨rfl, u1⟩
  have HRA1 := Lib.hid (HRA.out.up u1)
  have HRO1 := Lib.hid (HRO.out.up u1)
  have HRR1 := Lib.hid (HRR.out.up u1)
  have HU1 := Lib.hid (HW0.out.trans u1)
  clear u1 q0 q1 HRA HRO HRR HW0
  obtain ⟨CK, hCK⟩ : ∃ CK, chkS FP st = CK := ⟨_, rfl⟩
  rw [hCK]
  have HC := Lib.hid hCK
  clear hCK
  by_cases h0 : CK = 0
  · subst h0
    have q0 := HRA1.out.cell (j := 0) rfl
    have q1 := HRA1.out.cell (j := 1) rfl
    have q2 := HRO1.out.cell (j := 1) rfl
    cases hx : vix (nmB s) st.v with
    | none =>
      have hr : ixV (fun t => t == s) st.v = -1 := by rw [ixV_name, hx]
      rw [hr] at HVL
      have HRZ : Hid (RS = (zeroS, 4)) := by
        have h4 := vloc_none (a := a) HC.out hx
        show _ = _
        rw [← HRS.out, do34_no (by rw [h4]; omega), h4]
      clear hr hx
      go_wp2_with fail
      refine (HVL.out _ HU1.out).mono ?_
      rintro e w2 ⟨rfl, u2⟩
      have hR2 := HRR1.out.up u2
      have c1 := (HRO1.out.up u2).cell (j := 0) rfl
      have r0 := hR2.frozen 0
      have r1 := hR2.frozen 1
      have r2 := hR2.cell (j := 0) rfl
      have r3 := hR2.cell (j := 1) rfl
      have HR2 := Lib.hid hR2
      have HU2 := Lib.hid (HU1.out.trans u2)
      clear u2 q0 q1 q2 hR2
      go_wp2_with fail
      have hz := (HR2.out.set 0 (.slice none 0 0)).set 1 (.slice none 0 0)
      have z0 := hz.cell (j := 0) rfl
      have z1 := hz.cell (j := 1) rfl
      have HUZ : Hid (Up w ((w2.setCell ⟨w.heap.size + 1 + 1, 0, none⟩ (.slice none 0 0)).setCell ⟨w.heap.size + 1 + 1, 1, none⟩ (.slice none 0 0))) := up2 HU2.out (by omega)
      generalize (w2.setCell ⟨w.heap.size + 1 + 1, 0, none⟩ (.slice none 0 0)).setCell ⟨w.heap.size + 1 + 1, 1, none⟩ (.slice none 0 0) = WZ at z0 z1 HUZ ⊢
      exact bodyPost_ret (v := .tuple #[zeroV, .int .i64 4]) (by simp [results, Tryz.results23, go_sem, z0, z1, zeroV]) rfl ⟨_, by rw [HRZ.out], by rw [HRZ.out]; exact Stat.zero _, HUZ.out⟩
    | some k =>
      have hr : ixV (fun t => t == s) st.v = (k : Int) := by rw [ixV_name, hx]
      rw [hr] at HVL
      obtain ⟨hk, _, _⟩ := vix_some hx
      have HF := Lib.hid (vfind_some HC.out hx)
      have HGD : Hid (WoolVol.Good FP st) := chkS_zero.1 HC.out
      have HSM : Hid (Small st) := ⟨HGD.out.len, fun y hy => (HGD.out.vol y hy).2.1⟩
      have HTR := Lib.hid (fun (j : Nat) (hj : j < st.v[k].bl.length) W (hW : Up w W) => refTrim_any _ st k j W (HST.out.up hW) HSM.out HGD.out.bag hk hj)
      have HWR := Lib.hid (fun (j : Nat) (hj : j < st.v[k].bl.length) W (hW : Up w W) => refWrite_any _ st k j t W (HST.out.up hW) HSM.out HGD.out.bag hk hj)
      obtain ⟨b, off, rfl, h5⟩ := HVV.out.at (by intro e; rw [e] at hk; simp at hk)
      obtain ⟨a1, u0, a2, hids⟩ := h5 k hk
      obtain ⟨o', c', rfl, hc1, hc2⟩ := hids.slice
      have hL32 := HSM.out.2 _ (List.getElem_mem hk)
      obtain ⟨L, hL⟩ : ∃ L, st.v[k].bl.length = L := ⟨_, rfl⟩
      have HL := Lib.hid hL
      rw [hL] at a2 hL32
      have hkN : k < N := by rw [← HN.out]; exact hk
      clear hr hx h5 a1 hids hL hc1 hc2
      go_wp2_with fail
      refine (HVL.out _ HU1.out).mono ?_
      rintro e w2 ⟨rfl, u2⟩
      have HRA2 := Lib.hid (HRA1.out.up u2)
      have HRO2 := Lib.hid (HRO1.out.up u2)
      have HRR2 := Lib.hid (HRR1.out.up u2)
      have HU2 := Lib.hid (HU1.out.trans u2)
      have c0 := HRO2.out.cell (j := 0) rfl
      have c1 := HRO2.out.cell (j := 3) rfl
      have c4 := HRO2.out.cell (j := 4) rfl
      have q3 := HRA2.out.cell (j := 0) rfl
      have q4 := HRA2.out.cell (j := 1) rfl
      have a3 := (HU2.out.cell (World.block_lt_of_cell? w _ a2)).trans a2
      clear u2 q0 q1 q2 a2
      go_wp2_with fail
      have hw : IntKind.i64.wrap ((L : Int) - 1) = (L : Int) - 1 := IntWalk.i64_in _ (by omega)
      by_cases ho : a < 0 ∨ (L : Int) ≤ a
      · have HRZ : Hid (RS = (zeroS, 1)) := by
          have h4 := vloc_out (s := s) (a := a) hk HF.out (by rw [HL.out]; exact ho)
          show _ = _
          rw [← HRS.out, do34_no (by rw [h4]; omega), h4]
        have ho2 : a < 0 ∨ (L : Int) - 1 < a := by omega
        go_quiet ((go_at_call 15; exact Calls.quiet_of_same ((refWithin_no _ _ _ _ ho2).mono fun _ _ h => ⟨h.1, h.2.symm⟩)))
        have hu3 : Up w2 (w2.drewN nq) := Up.drewN _ _
        have HR3 := Lib.hid (HRR2.out.up hu3)
        have HU3 := Lib.hid (HU2.out.trans hu3)
        clear hu3 c0 c1 c4 q3 q4 a3
        generalize w2.drewN nq = W3 at HR3 HU3 ⊢
        have r0 := HR3.out.frozen 0
        have r1 := HR3.out.frozen 1
        have r2 := HR3.out.cell (j := 0) rfl
        have r3 := HR3.out.cell (j := 1) rfl
        go_wp2_with fail
        have hz := (HR3.out.set 0 (.slice none 0 0)).set 1 (.slice none 0 0)
        have z0 := hz.cell (j := 0) rfl
        have z1 := hz.cell (j := 1) rfl
        have HUZ : Hid (Up w ((W3.setCell ⟨w.heap.size + 1 + 1, 0, none⟩ (.slice none 0 0)).setCell ⟨w.heap.size + 1 + 1, 1, none⟩ (.slice none 0 0))) := up2 HU3.out (by omega)
        generalize (W3.setCell ⟨w.heap.size + 1 + 1, 0, none⟩ (.slice none 0 0)).setCell ⟨w.heap.size + 1 + 1, 1, none⟩ (.slice none 0 0) = WZ at z0 z1 HUZ ⊢
        exact bodyPost_ret (v := .tuple #[zeroV, .int .i64 1]) (by simp [results, Tryz.results23, go_sem, z0, z1, zeroV]) rfl ⟨_, by rw [HRZ.out], by rw [HRZ.out]; exact Stat.zero _, HUZ.out⟩
      · obtain ⟨j, rfl⟩ : ∃ j : Nat, a = (j : Int) := ⟨a.toNat, by omega⟩
        have hj : j < st.v[k].bl.length := by rw [HL.out]; omega
        have HLC := Lib.hid (vloc_in (s := s) hk HF.out hj)
        have ho1 : (0 : Int) ≤ (j : Int) := by omega
        have ho2 : (j : Int) ≤ (L : Int) - 1 := by omega
        go_quiet ((go_at_call 15; exact Calls.quiet_of_same ((refWithin_yes _ _ _ _ ho1 ho2).mono fun _ _ h => ⟨h.1, h.2.symm⟩)))
        have hu3 : Up w2 (w2.drewN nq) := Up.drewN _ _
        have HA3 := Lib.hid (HRA2.out.up hu3)
        have HO3 := Lib.hid (HRO2.out.up hu3)
        have HR3 := Lib.hid (HRR2.out.up hu3)
        have HU3 := Lib.hid (HU2.out.trans hu3)
        clear hu3 c0 c1 c4 q3 q4 a3
        generalize w2.drewN nq = W3 at HA3 HO3 HR3 HU3 ⊢
        have c0 := HO3.out.cell (j := 0) rfl
        have c1 := HO3.out.cell (j := 3) rfl
        have c4 := HO3.out.cell (j := 4) rfl
        have q3 := HA3.out.cell (j := 0) rfl
        have q4 := HA3.out.cell (j := 1) rfl
        have HTJ := Lib.hid (HTR.out j hj)
        have HWJ := Lib.hid (HWR.out j hj)
        by_cases h4 : kd = 4
        · subst h4
          have HRZ : Hid (RS = (⟨rel FP st.b [st.v[k].bl[j]], setB st.v k j noId⟩, 0)) := by
            show _ = _
            rw [← HRS.out, do34_trim hk hj HLC.out]
          obtain ⟨T, hT⟩ : ∃ T : Sta, (⟨rel FP st.b [st.v[k].bl[j]], setB st.v k j noId⟩ : Sta) = T := ⟨_, rfl⟩
          rw [hT] at HTJ HRZ
          unfold RdPost at HTJ
          clear hT HTR HWR HWJ HRS
          go_wp2_with fail
          refine (HTJ.out _ HU3.out).mono ?_
          rintro e w5 ⟨v5, rfl, hst5, u5⟩
          have HS5 := Lib.hid hst5
          obtain ⟨vb5, vv5, rfl, hb5, hv5⟩ := hst5
          obtain ⟨o5, c5, rfl, _⟩ := hb5.slice
          obtain ⟨o6, c6, rfl, _, _⟩ := hv5.slice
          have HR5 := Lib.hid (HR3.out.up u5)
          have HU5 := Lib.hid (HU3.out.trans u5)
          have r0 := HR5.out.frozen 0
          have r1 := HR5.out.frozen 1
          have r2 := HR5.out.cell (j := 0) rfl
          have r3 := HR5.out.cell (j := 1) rfl
          clear u5 hb5 hv5 c0 c1 c4 q3 q4
          go_wp2_with fail
          have hz := (HR5.out.set 0 (.slice o5 T.b.length c5)).set 1 (.slice o6 T.v.length c6)
          have z0 := hz.cell (j := 0) rfl
          have z1 := hz.cell (j := 1) rfl
          have HSZ := Lib.hid (Stat.boxed (x := .slice o5 T.b.length c5) (y := .slice o6 T.v.length c6) HS5.out HR5.out rfl rfl rfl)
          have HUZ : Hid (Up w ((w5.setCell ⟨w.heap.size + 1 + 1, 0, none⟩ (.slice o5 T.b.length c5)).setCell ⟨w.heap.size + 1 + 1, 1, none⟩ (.slice o6 T.v.length c6))) := up2 HU5.out (by omega)
          generalize (w5.setCell ⟨w.heap.size + 1 + 1, 0, none⟩ (.slice o5 T.b.length c5)).setCell ⟨w.heap.size + 1 + 1, 1, none⟩ (.slice o6 T.v.length c6) = WZ at z0 z1 HSZ HUZ ⊢
          exact bodyPost_ret (v := .tuple #[.agg #[.slice o5 T.b.length c5, .slice o6 T.v.length c6], .int .i64 0]) (by simp [results, Tryz.results23, go_sem, z0, z1]) rfl ⟨_, by rw [HRZ.out], by rw [HRZ.out]; exact HSZ.out, HUZ.out⟩
        · have d4 : (kd == 4) = false := by simpa using h4
          have HRZ := Lib.hid (HRS.out.symm.trans (do34_write (t := t) h4 hk hj HLC.out))
          obtain ⟨T, hT⟩ : ∃ T : Sta × Int, wrS ⟨rel FP st.b [st.v[k].bl[j]], setB st.v k j noId⟩ k j t = T := ⟨_, rfl⟩
          rw [hT] at HWJ HRZ
          unfold RdEPost at HWJ
          clear hT HTR HWR HTJ HRS h4
          go_wp2_with fail
          refine (HWJ.out _ HU3.out).mono ?_
          rintro e w5 ⟨v5, rfl, hst5, u5⟩
          have HS5 := Lib.hid hst5
          obtain ⟨vb5, vv5, rfl, hb5, hv5⟩ := hst5
          obtain ⟨o5, c5, rfl, _⟩ := hb5.slice
          obtain ⟨o6, c6, rfl, _, _⟩ := hv5.slice
          have HR5 := Lib.hid (HR3.out.up u5)
          have HU5 := Lib.hid (HU3.out.trans u5)
          have r0 := HR5.out.frozen 0
          have r1 := HR5.out.frozen 1
          have r2 := HR5.out.cell (j := 0) rfl
          have r3 := HR5.out.cell (j := 1) rfl
          clear u5 hb5 hv5 c0 c1 c4 q3 q4
          go_wp2_with fail
          have hz := (HR5.out.set 0 (.slice o5 T.1.b.length c5)).set 1 (.slice o6 T.1.v.length c6)
          have z0 := hz.cell (j := 0) rfl
          have z1 := hz.cell (j := 1) rfl
          have HSZ := Lib.hid (Stat.boxed (x := .slice o5 T.1.b.length c5) (y := .slice o6 T.1.v.length c6) HS5.out HR5.out rfl rfl rfl)
          have HUZ : Hid (Up w ((w5.setCell ⟨w.heap.size + 1 + 1, 0, none⟩ (.slice o5 T.1.b.length c5)).setCell ⟨w.heap.size + 1 + 1, 1, none⟩ (.slice o6 T.1.v.length c6))) := up2 HU5.out (by omega)
          generalize (w5.setCell ⟨w.heap.size + 1 + 1, 0, none⟩ (.slice o5 T.1.b.length c5)).setCell ⟨w.heap.size + 1 + 1, 1, none⟩ (.slice o6 T.1.v.length c6) = WZ at z0 z1 HSZ HUZ ⊢
          exact bodyPost_ret (v := .tuple #[.agg #[.slice o5 T.1.b.length c5, .slice o6 T.1.v.length c6], .int .i64 T.2]) (by simp [results, Tryz.results23, go_sem, z0, z1]) rfl ⟨_, by rw [HRZ.out], by rw [HRZ.out]; exact HSZ.out, HUZ.out⟩
  · have hne : (CK != 0) = true := by rw [bne_iff_ne]; exact h0
    have HRZ : Hid (RS = (zeroS, CK)) := by
      have h4 := vloc_chk (s := s) (a := a) (by rw [HC.out]; exact h0 : chkS FP st ≠ 0)
      show _ = _
      rw [← HRS.out, do34_no (by rw [h4, HC.out]; exact h0), h4, HC.out]
    have r0 := HRR1.out.frozen 0
    have r1 := HRR1.out.frozen 1
    have r2 := HRR1.out.cell (j := 0) rfl
    have r3 := HRR1.out.cell (j := 1) rfl
    clear h0
    go_wp2_with fail
    have hz := (HRR1.out.set 0 (.slice none 0 0)).set 1 (.slice none 0 0)
    have z0 := hz.cell (j := 0) rfl
    have z1 := hz.cell (j := 1) rfl
    have HUZ : Hid (Up w ((w1.setCell ⟨w.heap.size + 1 + 1, 0, none⟩ (.slice none 0 0)).setCell ⟨w.heap.size + 1 + 1, 1, none⟩ (.slice none 0 0))) := up2 HU1.out (by omega)
    generalize (w1.setCell ⟨w.heap.size + 1 + 1, 0, none⟩ (.slice none 0 0)).setCell ⟨w.heap.size + 1 + 1, 1, none⟩ (.slice none 0 0) = WZ at z0 z1 HUZ ⊢
    exact bodyPost_ret (v := .tuple #[zeroV, .int .i64 CK]) (by simp [results, Tryz.results23, go_sem, z0, z1, zeroV]) rfl ⟨_, by rw [HRZ.out], by rw [HRZ.out]; exact Stat.zero _, HUZ.out⟩

end Go.Proofs.YtbeigaanlhaolaaGreatDoor
