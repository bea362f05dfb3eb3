/-
  What vol's Write returns. Conditions: as VolD's.
-/
import Derived.Test.YtnmdfdkagkpcaaaJVolOwn37
import Derived.Test.YtnmdfdkagkpcaaaJVolOwn28
namespace Go.Proofs.Ytnmdfdkagkpcaaa
open Go.RowKit
open Go.Proofs
open WoolBag
open WoolVol

theorem write_no {st : Sta} {s t : List UInt8} {a : Int} (h : (trim FP st s a).2 ≠ 0) : write FP st s a t = (zeroS, (trim FP st s a).2) := by unfold write; rw [if_pos h]

theorem write_full {st : Sta} {s t : List UInt8} {a : Int} (h : (trim FP st s a).2 = 0) (h2 : (WoolBag.put FP (trim FP st s a).1.b t).2.2 ≠ 0) : write FP st s a t = (zeroS, (WoolBag.put FP (trim FP st s a).1.b t).2.2) := by
  unfold write; rw [if_neg (by simp [h]), if_pos h2]

theorem write_yes {st : Sta} {s t : List UInt8} {a : Int} (h : (trim FP st s a).2 = 0) (h2 : (WoolBag.put FP (trim FP st s a).1.b t).2.2 = 0) : write FP st s a t = (⟨(WoolBag.put FP (trim FP st s a).1.b t).1, setB (trim FP st s a).1.v (vloc FP st s a).1 a.toNat (WoolBag.put FP (trim FP st s a).1.b t).2.1⟩, 0) := by
  unfold write; rw [if_neg (by simp [h]), if_neg (by simp [h2])]

set_option maxRecDepth 100000 in
set_option maxHeartbeats 4000000 in
theorem write_any (v : Value) (st : Sta) (s t : List UInt8) (a : Int) (w : World) (h : Stat w v st) (hwf : WfS st) :
    Calls Try.prog 15 #[v, .string (bs s), .int .i64 a, .string (bs t)] w (StEPost w (write FP st s a t)) := by
  have HL := Lib.hid (fun W (hW : Up w W) => trim_any v st s a W (h.up hW) hwf)
  obtain ⟨vb, vv, rfl, hb, hv⟩ := h
  obtain ⟨oB, cB, rfl, _⟩ := hb.slice
  obtain ⟨oV, cV, rfl, _, _⟩ := hv.slice
  clear hb hv hwf
  generalize st.b.length = M at *
  obtain ⟨N, hN⟩ : ∃ N, st.v.length = N := ⟨_, rfl⟩
  rw [hN] at HL ⊢
  have HN := Lib.hid hN
  clear hN
  have HR : Hid (RowC ((w.alloc (.cells #[.slice oB M cB, .slice oV N cV] 31)).alloc (.cells #[.slice none 0 0, .slice none 0 0] 31)) (w.heap.size + 1) 31 [.slice none 0 0, .slice none 0 0]) := box_new w _ _ _ _
  have HW0 : Hid (Up w ((w.alloc (.cells #[.slice oB M cB, .slice oV N cV] 31)).alloc (.cells #[.slice none 0 0, .slice none 0 0] 31))) := (Up.alloc _ _).trans (Up.alloc _ _)
  obtain ⟨T1, hT1⟩ : ∃ T1, (trim FP st s a).1 = T1 := ⟨_, rfl⟩
  obtain ⟨TE, hTE⟩ : ∃ TE, (trim FP st s a).2 = TE := ⟨_, rfl⟩
  have HT : Hid ((trim FP st s a).1 = T1 ∧ (trim FP st s a).2 = TE) := ⟨hT1, hTE⟩
  unfold StEPost at HL
  rw [hT1, hTE] at HL
  obtain ⟨WW, hWW⟩ : ∃ WW, write FP st s a t = WW := ⟨_, rfl⟩
  rw [hWW]
  have HWW := Lib.hid hWW
  clear hT1 hTE hWW
  go_enter Try.func15, Try.ntmps15
  go_wp2_with fail
  generalize (w.alloc (.cells #[.slice oB M cB, .slice oV N cV] 31)).alloc (.cells #[.slice none 0 0, .slice none 0 0] 31) = W0 at HR HW0 ⊢
  refine (HL.out _ HW0.out).mono ?_
  rintro e w1 ⟨v1, rfl, ho1, u1⟩
  have HU1 := Lib.hid u1
  obtain ⟨vb1, vv1, rfl, hob, C, hvc, hrd⟩ := ho1
  have hlC := hrd.len
  obtain ⟨ob, cb, hvb1, hcb⟩ := hob.items.slice
  obtain ⟨ov, cv, hvv1, hv4, hv5⟩ := Sl.slice hvc.vcs
  subst hvb1 hvv1
  have hR1 := HR.out.up u1
  by_cases h0 : TE = 0
  · subst h0
    have hvl : (vloc FP st s a).2 = 0 := by
      have := HT.out.2
      cases hq : decide ((vloc FP st s a).2 = 0) with
      | true => exact of_decide_eq_true hq
      | false =>
        have hne := of_decide_eq_false hq
        rw [trim_no hne] at this
        exact absurd this hne
    obtain ⟨hgood, k, hk, j, rfl, hj, hf, hnm, hvx⟩ := vloc_ok hvl
    have hT1 : T1 = ⟨rel FP st.b [st.v[k].bl[j]], setB st.v k j noId⟩ := by rw [← HT.out.1, trim_yes hk hj hf]
    have hk1 : k < T1.v.length := by rw [hT1]; show k < (setB st.v k j noId).length; rw [setB_len]; exact hk
    have hlen1 : T1.v[k].bl.length = st.v[k].bl.length := by
      subst hT1
      show ((setB st.v k j noId)[k]'hk1).bl.length = _
      rw [setB_get hk k hk, if_pos rfl, List.length_set]
    have hj1 : j < T1.v[k].bl.length := by rw [hlen1]; exact hj
    have hix : ixV (fun n => n == s) T1.v = (k : Int) := by
      rw [ixV_name]
      subst hT1
      show (match vix (nmB s) (setB st.v k j noId) with | some i => (i : Int) | none => -1) = _
      rw [vix_setB hvx]
    have hlen := (hgood.vol _ (List.getElem_mem hk)).2.1
    obtain ⟨g, cap, sp, hsl, hgb, hrow, hr4, hr5, hr6⟩ := hrd.at hk1 hj1
    have hkC : k < C.length := by rw [hlC]; exact hk1
    have hCne : C ≠ [] := by intro e; rw [e] at hkC; simp at hkC
    obtain ⟨gv, ofv, hov, hcells⟩ := VCs.at hvc.vcs hCne
    subst hov
    have k2 := (hcells k hkC).2
    rw [hsl] at k2
    unfold maxLen at hcb hv5 hr5
    obtain ⟨L, hL⟩ : ∃ L, T1.v[k].bl.length = L := ⟨_, rfl⟩
    have hjL : j < L := Nat.lt_of_lt_of_eq hj1 hL
    have k3 : w1.cell? ⟨gv, ofv + k * 2 + 1, none⟩ = some (.slice (some ⟨g, 0, none⟩) L cap) := k2.trans (congrArg (fun z => some (Value.slice (some ⟨g, 0, none⟩) z cap)) hL)
    have hLc : L ≤ cap := hL ▸ hr4
    have hL32 : L ≤ 32 := by rw [← hL, hlen1]; exact hlen
    have hCN : C.length = N := by
      rw [hlC, hT1]; show (setB st.v k j noId).length = N; rw [setB_len]; exact HN.out
    have hkN : k < N := by rw [← HN.out]; exact hk
    have HIX := Lib.hid (fun W (hW : Up w1 W) => index_any (.slice (some ⟨gv, ofv, none⟩) C.length cv) T1.v s W ((show Vols w1 _ _ from ⟨C, hvc.vcs, hrd.rd⟩).up hW))
    rw [hix] at HIX
    have HPT := Lib.hid (fun W (hW : Up w1 W) => put_any _ T1.b t W (hob.items.up hW))
    unfold PutPost at HPT
    obtain ⟨P1, hP1⟩ : ∃ P1, (WoolBag.put FP T1.b t).1 = P1 := ⟨_, rfl⟩
    obtain ⟨PI, hPI⟩ : ∃ PI, (WoolBag.put FP T1.b t).2.1 = PI := ⟨_, rfl⟩
    obtain ⟨PE, hPE⟩ : ∃ PE, (WoolBag.put FP T1.b t).2.2 = PE := ⟨_, rfl⟩
    rw [hP1, hPI, hPE] at HPT
    have HWQ : Hid ((PE ≠ 0 → WW = (zeroS, PE)) ∧ (PE = 0 → WW = (⟨P1, setB T1.v k j PI⟩, 0))) := by
      constructor
      · intro hne
        rw [← HWW.out, write_full HT.out.2 (by rw [HT.out.1, hPE]; exact hne), HT.out.1, hPE]
      · intro he
        rw [← HWW.out, write_yes HT.out.2 (by rw [HT.out.1, hPE]; exact he), HT.out.1, hP1, hPI, hf]
        simp
    rw [hCN] at hv4 HIX ⊢
    have HVC : Hid (OVC w1 W0.heap.size (.slice (some ⟨gv, ofv, none⟩) N cv) C) := by rw [← hCN]; exact hvc
    obtain ⟨pb, ps, pn⟩ := PI
    unfold idV at HPT
    simp only at HPT
    have HROW := Lib.hid hrow
    have HSL := Lib.hid hsl
    have HR4 := Lib.hid hr4
    have HR6 := Lib.hid hr6
    generalize T1.b.length = MB at *
    have HR1 := Lib.hid hR1
    clear hob hvc hcells k2 hR1 hix hP1 hPI hPE HWW hlC hvl hlen hgood hvx hnm hf hT1 hsl hrow hr4 hr6
    go_wp2_with fail
    have HRX : Hid (RowC (w1.alloc (.cells #[.slice ob MB cb, .slice (some ⟨gv, ofv, none⟩) N cv] 31)) w1.heap.size 31 [.slice ob MB cb, .slice (some ⟨gv, ofv, none⟩) N cv]) := heap_alloc_new w1 _
    have HU2 : Hid (Up w1 (w1.alloc (.cells #[.slice ob MB cb, .slice (some ⟨gv, ofv, none⟩) N cv] 31))) := Up.alloc _ _
    generalize (w1.alloc (.cells #[.slice ob MB cb, .slice (some ⟨gv, ofv, none⟩) N cv] 31)) = W2 at HRX HU2 ⊢
    refine (HPT.out _ HU2.out).mono ?_
    rintro e w3 ⟨v3, rfl, ho3, u3⟩
    obtain ⟨o3, c3, hv3, _⟩ := ho3.items.slice
    subst hv3
    have HU13 := Lib.hid (HU2.out.trans u3)
    have HX3 := Lib.hid (HRX.out.up u3)
    have HR3 := Lib.hid (HR1.out.up HU13.out)
    have HO3 := Lib.hid (ho3.base HU2.out.size)
    clear ho3 u3
    by_cases hp0 : PE = 0
    · subst hp0
      have HWY := Lib.hid (HWQ.out.2 rfl)
      have hal := Up.alloc w3 (.cells #[.bool pb, .int .i64 ps, .int .i64 pn] 51)
      have hU14 := HU13.out.trans hal
      have hX4 := HX3.out.up hal
      have hR4 := HR3.out.up hal
      have hG4 := HROW.out.up hU14
      have hO4 := HO3.out.up hal
      have hV4 := own_up HVC.out hU14
      have hY4 : RowC (w3.alloc (.cells #[.bool pb, .int .i64 ps, .int .i64 pn] 51)) w3.heap.size 51 [.bool pb, .int .i64 ps, .int .i64 pn] := heap_alloc_new w3 _
      have hneRX : w.heap.size + 1 ≠ w1.heap.size := by
        have h1 := HR.out.lt
        have h2 := HU1.out.size
        omega
      have hgX : g ≠ w1.heap.size := by
        have := HROW.out.lt
        omega
      have hYX : w3.heap.size ≠ w1.heap.size := by
        have := HX3.out.lt
        omega
      have HX5 := Lib.hid (hX4.set 0 (.slice o3 P1.length c3))
      have HR5 := Lib.hid (hR4.other hneRX 0 (.slice o3 P1.length c3))
      have HG5 := Lib.hid (hG4.other hgX 0 (.slice o3 P1.length c3))
      have HY5 := Lib.hid (hY4.other hYX 0 (.slice o3 P1.length c3))
      have HO5 := Lib.hid (OItems.setR (i := 0) (x := .slice o3 P1.length c3) hO4 hX4)
      have HV5 : Hid (OVC ((w3.alloc (.cells #[.bool pb, .int .i64 ps, .int .i64 pn] 51)).setCell ⟨w1.heap.size, 0, none⟩ (.slice o3 P1.length c3)) W0.heap.size (.slice (some ⟨gv, ofv, none⟩) N cv) C) := own_set hV4 (own_apart hV4 hX4 voState)
      have HD5 : Hid (ORd ((w3.alloc (.cells #[.bool pb, .int .i64 ps, .int .i64 pn] 51)).setCell ⟨w1.heap.size, 0, none⟩ (.slice o3 P1.length c3)) W0.heap.size C T1.v) := ⟨hrd.len, hrd.nm, fun i hi => own_set (own_up (hrd.bl i hi) hU14) (own_apart (own_up (hrd.bl i hi) hU14) hX4 idState), hrd.apart⟩
      have HU15 : Hid (Up w1 ((w3.alloc (.cells #[.bool pb, .int .i64 ps, .int .i64 pn] 51)).setCell ⟨w1.heap.size, 0, none⟩ (.slice o3 P1.length c3))) := Below.setCell hU14 (p := ⟨w1.heap.size, 0, none⟩) (Nat.le_refl _) _
      have c40 := hX4.cell (j := 0) rfl
      have c41 := hX4.frozen 0
      clear hal hU14 hX4 hR4 hG4 hO4 hV4 hY4
      go_wp2_with fail
      clear c40 c41
      generalize ((w3.alloc (.cells #[.bool pb, .int .i64 ps, .int .i64 pn] 51)).setCell ⟨w1.heap.size, 0, none⟩ (.slice o3 P1.length c3)) = W5 at HX5 HR5 HG5 HY5 HO5 HV5 HD5 HU15 ⊢
      have hg3 := fun i hi => fl_get idC_len T1.v[k].bl j hj1 i hi
      have hPP : Hid (∀ U, Up W5 U → (U.cell? ⟨w1.heap.size, 1, none⟩ = some (.slice (some ⟨gv, ofv, none⟩) N cv) ∧ U.cell? ⟨gv, ofv + k * 2 + 1, none⟩ = some (.slice (some ⟨g, 0, none⟩) L cap)) ∧ (U.cell? ⟨w3.heap.size, 0, none⟩ = some (.bool pb) ∧ U.cell? ⟨w3.heap.size, 1, none⟩ = some (.int .i64 ps) ∧ U.cell? ⟨w3.heap.size, 2, none⟩ = some (.int .i64 pn)) ∧ (U.cell? ⟨g, j * 3, none⟩ = some (.bool T1.v[k].bl[j].1) ∧ U.cell? ⟨g, j * 3 + 1, none⟩ = some (.int .i64 T1.v[k].bl[j].2.1) ∧ U.cell? ⟨g, j * 3 + 2, none⟩ = some (.int .i64 T1.v[k].bl[j].2.2)) ∧ (U.frozen? ⟨g, j * 3, none⟩ = false ∧ U.frozen? ⟨g, j * 3 + 1, none⟩ = false ∧ U.frozen? ⟨g, j * 3 + 2, none⟩ = false)) := by
        intro U hU
        have x5 := HX5.out.up hU
        have g5 := HG5.out.up hU
        have y5 := HY5.out.up hU
        refine ⟨⟨x5.cell (j := 1) rfl, ((HU15.out.trans hU).cell (World.block_lt_of_cell? w1 _ k3)).trans k3⟩, ⟨y5.cell (j := 0) rfl, y5.cell (j := 1) rfl, y5.cell (j := 2) rfl⟩, ⟨?_, ?_, ?_⟩, g5.frozen _, g5.frozen _, g5.frozen _⟩
        · exact g5.cell (by rw [List.getElem?_append_left (by rw [fl_length idC_len]; omega)]; exact hg3 0 (by omega))
        · exact g5.cell (by rw [List.getElem?_append_left (by rw [fl_length idC_len]; omega)]; exact hg3 1 (by omega))
        · exact g5.cell (by rw [List.getElem?_append_left (by rw [fl_length idC_len]; omega)]; exact hg3 2 (by omega))
      obtain ⟨⟨m0, m1⟩, ⟨m2, m3, m4⟩, ⟨m5, m6, m7⟩, m8, m9, m10⟩ := hPP.out W5 (Up.refl _)
      clear hg3
      have hgv : gv ≠ g := by
        intro e
        exact own_apart HV5.out HG5.out (Ne.symm idVol) (by rw [e]; rfl)
      have hYg : w3.heap.size ≠ g := by
        have h1 := HROW.out.lt
        have h2 := HU13.out.size
        omega
      have hXg : w1.heap.size ≠ g := Ne.symm hgX
      go_region_with ((go_at_call 44; ((with_reducible refine (HIX.out _ (HU15.out.trans (Up.drew _))).mono ?_); rintro e w6 ⟨rfl, u6⟩; have h6 : Up W5 w6 := (Up.drew _).trans u6; obtain ⟨⟨n0, n1⟩, ⟨n2, n3, n4⟩, ⟨n5, n6, n7⟩, n8, n9, n10⟩ := hPP.out w6 h6)))
      all_goals
        have g6 := HG5.out.up h6
        have hX7 := (HX5.out.up h6).laidId (a := j) (x := (pb, ps, pn)) hXg
        have hR7 := (HR5.out.up h6).laidId (a := j) (x := (pb, ps, pn)) (Ne.symm (RowC.apart g6 (HR5.out.up h6) idState))
        have hO7 := (HO5.out.up h6).laidId (a := j) (x := (pb, ps, pn)) g6
        have HU7 : Hid (Up W0 (layId w6 g j (pb, ps, pn))) := below_layId ((HU1.out.trans HU15.out).trans h6) hgb
        have HLD := Lib.hid (OVols.laidId (x := (pb, ps, pn)) (own_up HV5.out h6) (HD5.out.up h6) hk1 hj1 HSL.out hgb g6 HR4.out (by unfold maxLen; omega) HR6.out)
        have s0 := hX7.cell (j := 0) rfl
        have s1 := hX7.cell (j := 1) rfl
        have t0 := hR7.frozen 0
        have t1 := hR7.frozen 1
        have t2 := hR7.cell (j := 0) rfl
        have t3 := hR7.cell (j := 1) rfl
        have HR7 := Lib.hid hR7
        have HO7 := Lib.hid hO7
        clear hX7 hR7 hO7 n0 n1 n2 n3 n4 n5 n6 n7 n8 n9 n10 m0 m1 m2 m3 m4 m5 m6 m7 m8 m9 m10 g6 u6 h6
        change Exit.then _ _ _ _ (layId w6 g j (pb, ps, pn))
        generalize layId w6 g j (pb, ps, pn) = W7 at s0 s1 t0 t1 t2 t3 HR7 HO7 HU7 HLD ⊢
        go_wp2_with fail
        have hst7 : OSt W7 W0.heap.size (.agg #[.slice o3 P1.length c3, .slice (some ⟨gv, ofv, none⟩) N cv]) ⟨P1, setB T1.v k j (pb, ps, pn)⟩ := ⟨_, _, rfl, OItems.base HO7.out HU1.out.size, HLD.out⟩
        have HOZ := Lib.hid (OSt.base (OSt.boxed hst7 HR7.out) HW0.out.size)
        have hz := (HR7.out.set 0 (.slice o3 P1.length c3)).set 1 (.slice (some ⟨gv, ofv, none⟩) N cv)
        have z0 := hz.cell (j := 0) rfl
        have z1 := hz.cell (j := 1) rfl
        have HUZ : Hid (Up w ((W7.setCell ⟨w.heap.size + 1, 0, none⟩ (.slice o3 P1.length c3)).setCell ⟨w.heap.size + 1, 1, none⟩ (.slice (some ⟨gv, ofv, none⟩) N cv))) := (Below.setCell (show Below w.heap.size w W7 from HW0.out.trans HU7.out) (p := ⟨w.heap.size + 1, 0, none⟩) (Nat.le_succ _) _).setCell (p := ⟨w.heap.size + 1, 1, none⟩) (Nat.le_succ _) _
        generalize (W7.setCell ⟨w.heap.size + 1, 0, none⟩ (.slice o3 P1.length c3)).setCell ⟨w.heap.size + 1, 1, none⟩ (.slice (some ⟨gv, ofv, none⟩) N cv) = WZ at z0 z1 HOZ HUZ ⊢
        exact bodyPost_ret (v := .tuple #[.agg #[.slice o3 P1.length c3, .slice (some ⟨gv, ofv, none⟩) N cv], .int .i64 0]) (by simp [results, Try.results15, go_sem, z0, z1]) rfl ⟨_, by rw [HWY.out], by rw [HWY.out]; exact HOZ.out, HUZ.out⟩
    · have hne : (PE != 0) = true := by rw [bne_iff_ne]; exact hp0
      have HWZ := Lib.hid (HWQ.out.1 hp0)
      have hal := Up.alloc w3 (.cells #[.bool pb, .int .i64 ps, .int .i64 pn] 51)
      have HU4 : Hid (Up w (w3.alloc (.cells #[.bool pb, .int .i64 ps, .int .i64 pn] 51))) := ((HW0.out.trans HU1.out).trans HU13.out).trans hal
      have hr1 := HR3.out.up hal
      have r0 := hr1.frozen 0
      have r1 := hr1.frozen 1
      have r2 := hr1.cell (j := 0) rfl
      have r3 := hr1.cell (j := 1) rfl
      have HR4' := Lib.hid hr1
      clear hal hr1 hp0
      go_wp2_with fail
      generalize w3.alloc (.cells #[.bool pb, .int .i64 ps, .int .i64 pn] 51) = W4 at HR4' HU4 ⊢
      have hz := (HR4'.out.set 0 (.slice none 0 0)).set 1 (.slice none 0 0)
      have z0 := hz.cell (j := 0) rfl
      have z1 := hz.cell (j := 1) rfl
      have HOZ : Hid (OSt ((W4.setCell ⟨w.heap.size + 1, 0, none⟩ (.slice none 0 0)).setCell ⟨w.heap.size + 1, 1, none⟩ (.slice none 0 0)) w.heap.size zeroV zeroS) := OSt.zero _ _
      have HUZ : Hid (Up w ((W4.setCell ⟨w.heap.size + 1, 0, none⟩ (.slice none 0 0)).setCell ⟨w.heap.size + 1, 1, none⟩ (.slice none 0 0))) := (Below.setCell (show Below w.heap.size w W4 from HU4.out) (p := ⟨w.heap.size + 1, 0, none⟩) (Nat.le_succ _) _).setCell (p := ⟨w.heap.size + 1, 1, none⟩) (Nat.le_succ _) _
      generalize (W4.setCell ⟨w.heap.size + 1, 0, none⟩ (.slice none 0 0)).setCell ⟨w.heap.size + 1, 1, none⟩ (.slice none 0 0) = WZ at z0 z1 HOZ HUZ ⊢
      exact bodyPost_ret (v := .tuple #[zeroV, .int .i64 PE]) (by simp [results, Try.results15, go_sem, z0, z1, zeroV]) rfl ⟨_, by rw [HWZ.out], by rw [HWZ.out]; exact HOZ.out, HUZ.out⟩
  · have hne : (TE != 0) = true := by rw [bne_iff_ne]; exact h0
    have HWZ : Hid (WW = (zeroS, TE)) := by show WW = _; rw [← HWW.out, write_no (by rw [HT.out.2]; exact h0), HT.out.2]
    have HU2 : Hid (Up w (w1.alloc (.cells #[.slice ob T1.b.length cb, .slice ov C.length cv] 31))) := (HW0.out.trans HU1.out).trans (Up.alloc _ _)
    have hr1 := hR1.up (Up.alloc w1 (.cells #[.slice ob T1.b.length cb, .slice ov C.length cv] 31))
    have r0 := hr1.frozen 0
    have r1 := hr1.frozen 1
    have r2 := hr1.cell (j := 0) rfl
    have r3 := hr1.cell (j := 1) rfl
    have HR1 := Lib.hid hr1
    clear u1 hr1 h0 hob hvc hrd hR1 hlC
    go_wp2_with fail
    generalize w1.alloc (.cells #[.slice ob T1.b.length cb, .slice ov C.length cv] 31) = W2 at HR1 HU2 ⊢
    have hz := (HR1.out.set 0 (.slice none 0 0)).set 1 (.slice none 0 0)
    have z0 := hz.cell (j := 0) rfl
    have z1 := hz.cell (j := 1) rfl
    have HOZ : Hid (OSt ((W2.setCell ⟨w.heap.size + 1, 0, none⟩ (.slice none 0 0)).setCell ⟨w.heap.size + 1, 1, none⟩ (.slice none 0 0)) w.heap.size zeroV zeroS) := OSt.zero _ _
    have HUZ : Hid (Up w ((W2.setCell ⟨w.heap.size + 1, 0, none⟩ (.slice none 0 0)).setCell ⟨w.heap.size + 1, 1, none⟩ (.slice none 0 0))) := (Below.setCell (show Below w.heap.size w W2 from HU2.out) (p := ⟨w.heap.size + 1, 0, none⟩) (Nat.le_succ _) _).setCell (p := ⟨w.heap.size + 1, 1, none⟩) (Nat.le_succ _) _
    generalize (W2.setCell ⟨w.heap.size + 1, 0, none⟩ (.slice none 0 0)).setCell ⟨w.heap.size + 1, 1, none⟩ (.slice none 0 0) = WZ at z0 z1 HOZ HUZ ⊢
    exact bodyPost_ret (v := .tuple #[zeroV, .int .i64 TE]) (by simp [results, Try.results15, go_sem, z0, z1, zeroV]) rfl ⟨_, by rw [HWZ.out], by rw [HWZ.out]; exact HOZ.out, HUZ.out⟩

end Go.Proofs.Ytnmdfdkagkpcaaa
