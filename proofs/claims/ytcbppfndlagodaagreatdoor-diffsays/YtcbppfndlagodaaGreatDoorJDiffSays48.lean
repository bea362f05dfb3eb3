/-
  What the reference's Do returns for a deed that trims or writes. Conditions: a state that can be read.
-/
import Derived.Test.YtcbppfndlagodaaGreatDoorJDiffSays47
import Derived.Test.YtcbppfndlagodaaGreatDoorJDiffSays28
import Derived.Test.YtcbppfndlagodaaGreatDoorJDiffSays34
import Derived.Deep.QuietTactic
import Derived.BigQuiet
namespace Go.Proofs.YtcbppfndlagodaaGreatDoor
open Go.RowKit
open Go.Proofs
open WoolBag
open WoolVol

/-- what a deed of kind 4, of another, answers -/
def do34 (kd : Int) (st : Sta) (s t : List UInt8) (a : Int) : Sta × Int := if kd = 4 then trim FP st s a else write FP st s a t

theorem do34_no {kd : Int} {st : Sta} {s t : List UInt8} {a : Int} (h : (vloc FP st s a).2 ≠ 0) : do34 kd st s t a = (zeroS, (vloc FP st s a).2) := by
  unfold do34
  split
  · exact trim_no h
  · rw [write_no (by rw [trim_no h]; exact h), trim_no h]

theorem do34_trim {st : Sta} {s t : List UInt8} {k j : Nat} (hk : k < st.v.length) (hj : j < st.v[k].bl.length) (h : vloc FP st s (j : Int) = (k, 0)) : do34 4 st s t (j : Int) = (⟨rel FP st.b [st.v[k].bl[j]], setB st.v k j noId⟩, 0) := by
  unfold do34; rw [if_pos rfl, trim_yes hk hj h]

theorem do34_write {kd : Int} {st : Sta} {s t : List UInt8} {k j : Nat} (hkd : kd ≠ 4) (hk : k < st.v.length) (hj : j < st.v[k].bl.length) (h : vloc FP st s (j : Int) = (k, 0)) : do34 kd st s t (j : Int) = wrS ⟨rel FP st.b [st.v[k].bl[j]], setB st.v k j noId⟩ k j t := by
  have ht := trim_yes (s := s) hk hj h
  unfold do34 wrS
  rw [if_neg hkd]
  by_cases hp : (WoolBag.put FP (rel FP st.b [st.v[k].bl[j]]) t).2.2 = 0
  · rw [write_yes (by rw [ht]) (by rw [ht]; exact hp), ht, h, if_neg (by simpa using hp)]
    rfl
  · rw [write_full (by rw [ht]) (by rw [ht]; exact hp), ht, if_pos hp]

theorem vloc_chk {st : Sta} {s : List UInt8} {a : Int} (h : chkS FP st ≠ 0) : (vloc FP st s a).2 = chkS FP st := by
  have hf : (vfind FP st s).2 = chkS FP st := by unfold vfind; rw [if_pos h]
  unfold vloc; rw [if_pos (by rw [hf]; exact h)]; exact hf

theorem vloc_none {st : Sta} {s : List UInt8} {a : Int} (h : chkS FP st = 0) (hx : vix (nmB s) st.v = none) : (vloc FP st s a).2 = 4 := by
  have hf : (vfind FP st s).2 = 4 := by unfold vfind; rw [if_neg (by simpa using h), hx]
  unfold vloc; rw [if_pos (by rw [hf]; omega)]; exact hf

theorem vfind_some {st : Sta} {s : List UInt8} {k : Nat} (h : chkS FP st = 0) (hx : vix (nmB s) st.v = some k) : vfind FP st s = (k, 0) := by
  unfold vfind; rw [if_neg (by simpa using h), hx]

theorem vloc_out {st : Sta} {s : List UInt8} {k : Nat} {a : Int} (hk : k < st.v.length) (hf : vfind FP st s = (k, 0)) (h : a < 0 ∨ (st.v[k].bl.length : Int) ≤ a) : (vloc FP st s a).2 = 1 := by
  unfold vloc
  rw [hf, if_neg (by simp)]
  simp only
  rw [getElem!_pos st.v k hk, if_pos h]

theorem vloc_in {st : Sta} {s : List UInt8} {k j : Nat} (hk : k < st.v.length) (hf : vfind FP st s = (k, 0)) (h : j < st.v[k].bl.length) : vloc FP st s (j : Int) = (k, 0) := by
  unfold vloc
  rw [hf, if_neg (by simp)]
  simp only
  rw [getElem!_pos st.v k hk, if_neg (by omega)]

/-- a deed as a value -/
def opV (kd : Int) (s u : List UInt8) (a : Int) (t : List UInt8) : Value := .agg #[.int .i64 kd, .string (bs s), .string (bs u), .int .i64 a, .string (bs t)]

set_option maxRecDepth 100000 in
set_option maxHeartbeats 4000000 in
theorem refDo34 (v : Value) (st : Sta) (kd : Int) (s u t : List UInt8) (a : Int) (w : World) (h : Stat w v st) (hwf : WfS st) (hk1 : kd ≠ 1) (hk2 : kd ≠ 2) (hk5 : kd ≠ 5) :
    Calls Tryz.prog 9 #[v, opV kd s u a t] w (RdEPost w (do34 kd st s t a)) := by
  have HST := Lib.hid h
  have HCK := Lib.hid (fun W (hW : Up w W) => refState_any v st W (h.up hW) hwf)
  have HVL := Lib.hid (fun W (hW : Up w W) => refVol_any v st s W (h.up hW))
  obtain ⟨vb, vv, rfl, hb, hv⟩ := h
  have HVV := Lib.hid hv
  obtain ⟨oB, cB, rfl, _⟩ := hb.slice
  obtain ⟨oV, cV, rfl, hV1, hV2⟩ := hv.slice
  unfold maxLen at hV2
  clear hb hv hwf
  obtain ⟨RS, hRS⟩ : ∃ RS, do34 kd st s t a = RS := ⟨_, rfl⟩
  rw [hRS]
  have HRS := Lib.hid hRS
  clear hRS
  obtain ⟨N, hN⟩ : ∃ N, st.v.length = N := ⟨_, rfl⟩
  have HN := Lib.hid hN
  rw [hN] at HST HCK HVL HVV hV1 ⊢
  clear hN
  generalize st.b.length = M at *
  have d1 : (kd == 1) = false := by simpa using hk1
  have d2 : (kd == 2) = false := by simpa using hk2
  have d5 : (kd == 5) = false := by simpa using hk5
  clear hk1 hk2 hk5
  unfold opV
  have HRA : Hid (RowC (((w.alloc (.cells #[.slice oB M cB, .slice oV N cV] 25)).alloc (.cells #[.int .i64 kd, .string (bs s), .string (bs u), .int .i64 a, .string (bs t)] 33)).alloc (.cells #[.slice none 0 0, .slice none 0 0] 25)) w.heap.size 25 [.slice oB M cB, .slice oV N cV]) := ((row_at rfl [.slice oB M cB, .slice oV N cV] 25).up (Up.alloc _ _)).up (Up.alloc _ _)
  have HRO : Hid (RowC (((w.alloc (.cells #[.slice oB M cB, .slice oV N cV] 25)).alloc (.cells #[.int .i64 kd, .string (bs s), .string (bs u), .int .i64 a, .string (bs t)] 33)).alloc (.cells #[.slice none 0 0, .slice none 0 0] 25)) (w.heap.size + 1) 33 [.int .i64 kd, .string (bs s), .string (bs u), .int .i64 a, .string (bs t)]) := (row_at (by simp) [.int .i64 kd, .string (bs s), .string (bs u), .int .i64 a, .string (bs t)] 33).up (Up.alloc _ _)
  have HRR : Hid (RowC (((w.alloc (.cells #[.slice oB M cB, .slice oV N cV] 25)).alloc (.cells #[.int .i64 kd, .string (bs s), .string (bs u), .int .i64 a, .string (bs t)] 33)).alloc (.cells #[.slice none 0 0, .slice none 0 0] 25)) (w.heap.size + 1 + 1) 25 [.slice none 0 0, .slice none 0 0]) := row_at (by simp) [.slice none 0 0, .slice none 0 0] 25
  have HW0 : Hid (Up w (((w.alloc (.cells #[.slice oB M cB, .slice oV N cV] 25)).alloc (.cells #[.int .i64 kd, .string (bs s), .string (bs u), .int .i64 a, .string (bs t)] 33)).alloc (.cells #[.slice none 0 0, .slice none 0 0] 25))) := ((Up.alloc _ _).trans (Up.alloc _ _)).trans (Up.alloc _ _)
  go_enter Tryz.func9, Tryz.ntmps9
  go_upto_region 1 with (fail)
  generalize (((w.alloc (.cells #[.slice oB M cB, .slice oV N cV] 25)).alloc (.cells #[.int .i64 kd, .string (bs s), .string (bs u), .int .i64 a, .string (bs t)] 33)).alloc (.cells #[.slice none 0 0, .slice none 0 0] 25)) = W0 at HRA HRO HRR HW0 ⊢
  have q0 := HRA.out.cell (j := 0) rfl
  have q1 := HRA.out.cell (j := 1) rfl
  go_wp2_with fail
  refine (HCK.out _ HW0.out).mono ?_
  rintro e w1 ⟨rfl, u1⟩
  have HRA1 := Lib.hid (HRA.out.up u1)
  have HRO1 := Lib.hid (HRO.out.up u1)
  have HRR1 := Lib.hid (HRR.out.up u1)
  have HU1 := Lib.hid (HW0.out.trans u1)
  clear u1 q0 q1 HRA HRO HRR HW0
  obtain ⟨CK, hCK⟩ : ∃ CK, chkS FP st = CK := ⟨_, rfl⟩
  rw [hCK]
  have HC := Lib.hid hCK
  clear hCK
  by_cases h0 : CK = 0
  · subst h0
    have q0 := HRA1.out.cell (j := 0) rfl
    have q1 := HRA1.out.cell (j := 1) rfl
    have q2 := HRO1.out.cell (j := 1) rfl
    cases hx : vix (nmB s) st.v with
    | none =>
      have hr : ixV (fun t => t == s) st.v = -1 := by rw [ixV_name, hx]
      rw [hr] at HVL
      have HRZ : Hid (RS = (zeroS, 4)) := by
        have h4 := vloc_none (a := a) HC.out hx
        show _ = _
        rw [← HRS.out, do34_no (by rw [h4]; omega), h4]
      clear hr hx
      go_wp2_with fail
      refine (HVL.out _ HU1.out).mono ?_
      rintro e w2 ⟨rfl, u2⟩
      have hR2 := HRR1.out.up u2
      have c1 := (HRO1.out.up u2).cell (j := 0) rfl
      have r0 := hR2.frozen 0
      have r1 := hR2.frozen 1
      have r2 := hR2.cell (j := 0) rfl
      have r3 := hR2.cell (j := 1) rfl
      have HR2 := Lib.hid hR2
      have HU2 := Lib.hid (HU1.out.trans u2)
      clear u2 q0 q1 q2 hR2
      go_wp2_with fail
      have hz := (HR2.out.set 0 (.slice none 0 0)).set 1 (.slice none 0 0)
      have z0 := hz.cell (j := 0) rfl
      have z1 := hz.cell (j := 1) rfl
      have HUZ : Hid (Up w ((w2.setCell ⟨w.heap.size + 1 + 1, 0, none⟩ (.slice none 0 0)).setCell ⟨w.heap.size + 1 + 1, 1, none⟩ (.slice none 0 0))) := up2 HU2.out (by omega)
      generalize (w2.setCell ⟨w.heap.size + 1 + 1, 0, none⟩ (.slice none 0 0)).setCell ⟨w.heap.size + 1 + 1, 1, none⟩ (.slice none 0 0) = WZ at z0 z1 HUZ ⊢
      exact bodyPost_ret (v := .tuple #[zeroV, .int .i64 4]) (by simp [results, Tryz.results9, go_sem, z0, z1, zeroV]) rfl ⟨_, by rw [HRZ.out], by rw [HRZ.out]; exact Stat.zero _, HUZ.out⟩
    | some k =>
      have hr : ixV (fun t => t == s) st.v = (k : Int) := by rw [ixV_name, hx]
      rw [hr] at HVL
      obtain ⟨hk, _, _⟩ := vix_some hx
      have HF := Lib.hid (vfind_some HC.out hx)
      have HGD : Hid (WoolVol.Good FP st) := chkS_zero.1 HC.out
      have HSM : Hid (Small st) := ⟨HGD.out.len, fun y hy => (HGD.out.vol y hy).2.1⟩
      have HTR := Lib.hid (fun (j : Nat) (hj : j < st.v[k].bl.length) W (hW : Up w W) => refTrim_any _ st k j W (HST.out.up hW) HSM.out HGD.out.bag hk hj)
      have HWR := Lib.hid (fun (j : Nat) (hj : j < st.v[k].bl.length) W (hW : Up w W) => refWrite_any _ st k j t W (HST.out.up hW) HSM.out HGD.out.bag hk hj)
      obtain ⟨b, off, rfl, h5⟩ := HVV.out.at (by intro e; rw [e] at hk; simp at hk)
      obtain ⟨a1, u0, a2, hids⟩ := h5 k hk
      obtain ⟨o', c', rfl, hc1, hc2⟩ := hids.slice
      have hL32 := HSM.out.2 _ (List.getElem_mem hk)
      obtain ⟨L, hL⟩ : ∃ L, st.v[k].bl.length = L := ⟨_, rfl⟩
      have HL := Lib.hid hL
      rw [hL] at a2 hL32
      have hkN : k < N := by rw [← HN.out]; exact hk
      clear hr hx h5 a1 hids hL hc1 hc2
      go_wp2_with fail
      refine (HVL.out _ HU1.out).mono ?_
      rintro e w2 ⟨rfl, u2⟩
      have HRA2 := Lib.hid (HRA1.out.up u2)
      have HRO2 := Lib.hid (HRO1.out.up u2)
      have HRR2 := Lib.hid (HRR1.out.up u2)
      have HU2 := Lib.hid (HU1.out.trans u2)
      have c0 := HRO2.out.cell (j := 0) rfl
      have c1 := HRO2.out.cell (j := 3) rfl
      have c4 := HRO2.out.cell (j := 4) rfl
      have q3 := HRA2.out.cell (j := 0) rfl
      have q4 := HRA2.out.cell (j := 1) rfl
      have a3 := (HU2.out.cell (World.block_lt_of_cell? w _ a2)).trans a2
      clear u2 q0 q1 q2 a2
      go_wp2_with fail
      have hw : IntKind.i64.wrap ((L : Int) - 1) = (L : Int) - 1 := IntWalk.i64_in _ (by omega)
      by_cases ho : a < 0 ∨ (L : Int) ≤ a
      · have HRZ : Hid (RS = (zeroS, 1)) := by
          have h4 := vloc_out (s := s) (a := a) hk HF.out (by rw [HL.out]; exact ho)
          show _ = _
          rw [← HRS.out, do34_no (by rw [h4]; omega), h4]
        have ho2 : a < 0 ∨ (L : Int) - 1 < a := by omega
        go_quiet ((go_at_call 29; exact Calls.quiet_of_same ((refWithin_no _ _ _ _ ho2).mono fun _ _ h => ⟨h.1, h.2.symm⟩)))
        have hu3 : Up w2 (w2.drewN nq) := Up.drewN _ _
        have HR3 := Lib.hid (HRR2.out.up hu3)
        have HU3 := Lib.hid (HU2.out.trans hu3)
        clear hu3 c0 c1 c4 q3 q4 a3
        generalize w2.drewN nq = W3 at HR3 HU3 ⊢
        have r0 := HR3.out.frozen 0
        have r1 := HR3.out.frozen 1
        have r2 := HR3.out.cell (j := 0) rfl
        have r3 := HR3.out.cell (j := 1) rfl
        go_wp2_with fail
        have hz := (HR3.out.set 0 (.slice none 0 0)).set 1 (.slice none 0 0)
        have z0 := hz.cell (j := 0) rfl
        have z1 := hz.cell (j := 1) rfl
        have HUZ : Hid (Up w ((W3.setCell ⟨w.heap.size + 1 + 1, 0, none⟩ (.slice none 0 0)).setCell ⟨w.heap.size + 1 + 1, 1, none⟩ (.slice none 0 0))) := up2 HU3.out (by omega)
        generalize (W3.setCell ⟨w.heap.size + 1 + 1, 0, none⟩ (.slice none 0 0)).setCell ⟨w.heap.size + 1 + 1, 1, none⟩ (.slice none 0 0) = WZ at z0 z1 HUZ ⊢
        exact bodyPost_ret (v := .tuple #[zeroV, .int .i64 1]) (by simp [results, Tryz.results9, go_sem, z0, z1, zeroV]) rfl ⟨_, by rw [HRZ.out], by rw [HRZ.out]; exact Stat.zero _, HUZ.out⟩
      · obtain ⟨j, rfl⟩ : ∃ j : Nat, a = (j : Int) := ⟨a.toNat, by omega⟩
        have hj : j < st.v[k].bl.length := by rw [HL.out]; omega
        have HLC := Lib.hid (vloc_in (s := s) hk HF.out hj)
        have ho1 : (0 : Int) ≤ (j : Int) := by omega
        have ho2 : (j : Int) ≤ (L : Int) - 1 := by omega
        go_quiet ((go_at_call 29; exact Calls.quiet_of_same ((refWithin_yes _ _ _ _ ho1 ho2).mono fun _ _ h => ⟨h.1, h.2.symm⟩)))
        have hu3 : Up w2 (w2.drewN nq) := Up.drewN _ _
        have HA3 := Lib.hid (HRA2.out.up hu3)
        have HO3 := Lib.hid (HRO2.out.up hu3)
        have HR3 := Lib.hid (HRR2.out.up hu3)
        have HU3 := Lib.hid (HU2.out.trans hu3)
        clear hu3 c0 c1 c4 q3 q4 a3
        generalize w2.drewN nq = W3 at HA3 HO3 HR3 HU3 ⊢
        have c0 := HO3.out.cell (j := 0) rfl
        have c1 := HO3.out.cell (j := 3) rfl
        have c4 := HO3.out.cell (j := 4) rfl
        have q3 := HA3.out.cell (j := 0) rfl
        have q4 := HA3.out.cell (j := 1) rfl
        have HTJ := Lib.hid (HTR.out j hj)
        have HWJ := Lib.hid (HWR.out j hj)
        by_cases h4 : kd = 4
        · subst h4
          have HRZ : Hid (RS = (⟨rel FP st.b [st.v[k].bl[j]], setB st.v k j noId⟩, 0)) := by
            show _ = _
            rw [← HRS.out, do34_trim hk hj HLC.out]
          obtain ⟨T, hT⟩ : ∃ T : Sta, (⟨rel FP st.b [st.v[k].bl[j]], setB st.v k j noId⟩ : Sta) = T := ⟨_, rfl⟩
          rw [hT] at HTJ HRZ
          unfold RdPost at HTJ
          clear hT HTR HWR HWJ HRS
          go_wp2_with fail
          refine (HTJ.out _ HU3.out).mono ?_
          rintro e w5 ⟨v5, rfl, hst5, u5⟩
          have HS5 := Lib.hid hst5
          obtain ⟨vb5, vv5, rfl, hb5, hv5⟩ := hst5
          obtain ⟨o5, c5, rfl, _⟩ := hb5.slice
          obtain ⟨o6, c6, rfl, _, _⟩ := hv5.slice
          have HR5 := Lib.hid (HR3.out.up u5)
          have HU5 := Lib.hid (HU3.out.trans u5)
          have r0 := HR5.out.frozen 0
          have r1 := HR5.out.frozen 1
          have r2 := HR5.out.cell (j := 0) rfl
          have r3 := HR5.out.cell (j := 1) rfl
          clear u5 hb5 hv5 c0 c1 c4 q3 q4
          go_wp2_with fail
          have hz := (HR5.out.set 0 (.slice o5 T.b.length c5)).set 1 (.slice o6 T.v.length c6)
          have z0 := hz.cell (j := 0) rfl
          have z1 := hz.cell (j := 1) rfl
          have HSZ := Lib.hid (Stat.boxed (x := .slice o5 T.b.length c5) (y := .slice o6 T.v.length c6) HS5.out HR5.out rfl rfl rfl)
          have HUZ : Hid (Up w ((w5.setCell ⟨w.heap.size + 1 + 1, 0, none⟩ (.slice o5 T.b.length c5)).setCell ⟨w.heap.size + 1 + 1, 1, none⟩ (.slice o6 T.v.length c6))) := up2 HU5.out (by omega)
          generalize (w5.setCell ⟨w.heap.size + 1 + 1, 0, none⟩ (.slice o5 T.b.length c5)).setCell ⟨w.heap.size + 1 + 1, 1, none⟩ (.slice o6 T.v.length c6) = WZ at z0 z1 HSZ HUZ ⊢
          exact bodyPost_ret (v := .tuple #[.agg #[.slice o5 T.b.length c5, .slice o6 T.v.length c6], .int .i64 0]) (by simp [results, Tryz.results9, go_sem, z0, z1]) rfl ⟨_, by rw [HRZ.out], by rw [HRZ.out]; exact HSZ.out, HUZ.out⟩
        · have d4 : (kd == 4) = false := by simpa using h4
          have HRZ := Lib.hid (HRS.out.symm.trans (do34_write (t := t) h4 hk hj HLC.out))
          obtain ⟨T, hT⟩ : ∃ T : Sta × Int, wrS ⟨rel FP st.b [st.v[k].bl[j]], setB st.v k j noId⟩ k j t = T := ⟨_, rfl⟩
          rw [hT] at HWJ HRZ
          unfold RdEPost at HWJ
          clear hT HTR HWR HTJ HRS h4
          go_wp2_with fail
          refine (HWJ.out _ HU3.out).mono ?_
          rintro e w5 ⟨v5, rfl, hst5, u5⟩
          have HS5 := Lib.hid hst5
          obtain ⟨vb5, vv5, rfl, hb5, hv5⟩ := hst5
          obtain ⟨o5, c5, rfl, _⟩ := hb5.slice
          obtain ⟨o6, c6, rfl, _, _⟩ := hv5.slice
          have HR5 := Lib.hid (HR3.out.up u5)
          have HU5 := Lib.hid (HU3.out.trans u5)
          have r0 := HR5.out.frozen 0
          have r1 := HR5.out.frozen 1
          have r2 := HR5.out.cell (j := 0) rfl
          have r3 := HR5.out.cell (j := 1) rfl
          clear u5 hb5 hv5 c0 c1 c4 q3 q4
          go_wp2_with fail
          have hz := (HR5.out.set 0 (.slice o5 T.1.b.length c5)).set 1 (.slice o6 T.1.v.length c6)
          have z0 := hz.cell (j := 0) rfl
          have z1 := hz.cell (j := 1) rfl
          have HSZ := Lib.hid (Stat.boxed (x := .slice o5 T.1.b.length c5) (y := .slice o6 T.1.v.length c6) HS5.out HR5.out rfl rfl rfl)
          have HUZ : Hid (Up w ((w5.setCell ⟨w.heap.size + 1 + 1, 0, none⟩ (.slice o5 T.1.b.length c5)).setCell ⟨w.heap.size + 1 + 1, 1, none⟩ (.slice o6 T.1.v.length c6))) := up2 HU5.out (by omega)
          generalize (w5.setCell ⟨w.heap.size + 1 + 1, 0, none⟩ (.slice o5 T.1.b.length c5)).setCell ⟨w.heap.size + 1 + 1, 1, none⟩ (.slice o6 T.1.v.length c6) = WZ at z0 z1 HSZ HUZ ⊢
          exact bodyPost_ret (v := .tuple #[.agg #[.slice o5 T.1.b.length c5, .slice o6 T.1.v.length c6], .int .i64 T.2]) (by simp [results, Tryz.results9, go_sem, z0, z1]) rfl ⟨_, by rw [HRZ.out], by rw [HRZ.out]; exact HSZ.out, HUZ.out⟩
  · have hne : (CK != 0) = true := by rw [bne_iff_ne]; exact h0
    have HRZ : Hid (RS = (zeroS, CK)) := by
      have h4 := vloc_chk (s := s) (a := a) (by rw [HC.out]; exact h0 : chkS FP st ≠ 0)
      show _ = _
      rw [← HRS.out, do34_no (by rw [h4, HC.out]; exact h0), h4, HC.out]
    have r0 := HRR1.out.frozen 0
    have r1 := HRR1.out.frozen 1
    have r2 := HRR1.out.cell (j := 0) rfl
    have r3 := HRR1.out.cell (j := 1) rfl
    clear h0
    go_wp2_with fail
    have hz := (HRR1.out.set 0 (.slice none 0 0)).set 1 (.slice none 0 0)
    have z0 := hz.cell (j := 0) rfl
    have z1 := hz.cell (j := 1) rfl
    have HUZ : Hid (Up w ((w1.setCell ⟨w.heap.size + 1 + 1, 0, none⟩ (.slice none 0 0)).setCell ⟨w.heap.size + 1 + 1, 1, none⟩ (.slice none 0 0))) := up2 HU1.out (by omega)
    generalize (w1.setCell ⟨w.heap.size + 1 + 1, 0, none⟩ (.slice none 0 0)).setCell ⟨w.heap.size + 1 + 1, 1, none⟩ (.slice none 0 0) = WZ at z0 z1 HUZ ⊢
    exact bodyPost_ret (v := .tuple #[zeroV, .int .i64 CK]) (by simp [results, Tryz.results9, go_sem, z0, z1, zeroV]) rfl ⟨_, by rw [HRZ.out], by rw [HRZ.out]; exact Stat.zero _, HUZ.out⟩

end Go.Proofs.YtcbppfndlagodaaGreatDoor
