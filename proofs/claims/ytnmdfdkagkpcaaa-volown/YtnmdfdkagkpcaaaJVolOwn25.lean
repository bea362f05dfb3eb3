/-
  The texts VolJ, SetS, one behind the other; each says below what it holds and on what conditions.
-/
import Derived.Test.YtnmdfdkagkpcaaaJVolOwn24
import Derived.Test.YtnmdfdkagkpcaaaJVolOwn22

/-
  What vol's Trim returns. Conditions: as VolD's.
-/
namespace Go.Proofs.Ytnmdfdkagkpcaaa
open Go.RowKit
open Go.Proofs
open WoolBag
open WoolVol

/-- what a call leaves that answers a state and an error -/
def StEPost (w : World) (r : Sta × Int) (e : Ending) (w' : World) : Prop := ∃ v', e = .returned (.tuple #[v', .int .i64 r.2]) ∧ OSt w' w.heap.size v' r.1 ∧ Up w w'

/-- a state laid into a result's box -/
theorem OSt.boxed {w : World} {base R : Nat} {vb vv : Value} {st : Sta} {L : List Value} (h : OSt w base (.agg #[vb, vv]) st) (hr : RowC w R 31 L) : OSt ((w.setCell ⟨R, 0, none⟩ vb).setCell ⟨R, 1, none⟩ vv) base (.agg #[vb, vv]) st := by
  obtain ⟨vb', vv', hv, h1, h2⟩ := h
  simp at hv
  obtain ⟨rfl, rfl⟩ := hv
  exact ⟨_, _, rfl, OItems.setR (OItems.setR h1 hr) (hr.set 0 _), OVols.setR (OVols.setR h2 hr) (hr.set 0 _)⟩

theorem OSt.slices {w : World} {base : Nat} {v : Value} {st : Sta} (h : OSt w base v st) : ∃ ob cb ov cv, v = .agg #[.slice ob st.b.length cb, .slice ov st.v.length cv] ∧ cb ≤ maxLen ∧ st.v.length ≤ cv ∧ cv ≤ maxLen := by
  obtain ⟨vb, vv, rfl, h1, h2⟩ := h
  obtain ⟨ob, cb, rfl, h3⟩ := h1.items.slice
  obtain ⟨ov, cv, rfl, h4, h5⟩ := h2.vols.slice
  exact ⟨ob, cb, ov, cv, rfl, h3, h4, h5⟩

theorem trim_no {st : Sta} {s : List UInt8} {a : Int} (h : (vloc FP st s a).2 ≠ 0) : trim FP st s a = (zeroS, (vloc FP st s a).2) := by unfold trim; rw [if_pos h]

theorem trim_yes {st : Sta} {s : List UInt8} {k j : Nat} (hk : k < st.v.length) (hj : j < st.v[k].bl.length) (h : vloc FP st s (j : Int) = (k, 0)) : trim FP st s (j : Int) = (⟨rel FP st.b [st.v[k].bl[j]], setB st.v k j noId⟩, 0) := by
  unfold trim
  rw [h, if_neg (by simp)]
  unfold blk
  simp only [Int.toNat_natCast]
  rw [getElem!_pos st.v k hk, getElem!_pos st.v[k].bl j hj]

/-- one block of a row -/
theorem Ids.sub {w : World} {g j cap : Nat} {bl : List Idn} {sp : List Value} (hr : RowC w g 51 (fl idC bl ++ sp)) (hj : j < bl.length) (h1 : 1 ≤ cap) (h2 : cap ≤ maxLen) : Ids w (.slice (some ⟨g, j * 3, none⟩) 1 cap) [bl[j]] := by
  refine ⟨rfl, some ⟨g, j * 3, none⟩, cap, rfl, h1, h2, .inr ⟨g, j * 3, rfl, fun i u hi => ?_⟩⟩
  have hi3 : i < 3 := by have := (List.getElem?_eq_some_iff.1 hi).1; simpa [fl, idC] using this
  refine hr.cell ?_
  rw [List.getElem?_append_left (by rw [fl_length idC_len]; omega), fl_get idC_len bl j hj i hi3]
  have : fl idC [bl[j]] = idC bl[j] := by show idC bl[j] ++ [] = _; rw [List.append_nil]
  rw [← this]; exact hi

set_option maxRecDepth 100000 in
set_option maxHeartbeats 4000000 in
theorem trim_any (v : Value) (st : Sta) (s : List UInt8) (a : Int) (w : World) (h : Stat w v st) (hwf : WfS st) :
    Calls Try.prog 21 #[v, .string (bs s), .int .i64 a] w (StEPost w (trim FP st s a)) := by
  have HL := Lib.hid (fun W (hW : Up w W) => vloc_any v st s a W (h.up hW) hwf)
  have HSC := Lib.hid (fun (hg : WoolVol.Good FP st) W (hW : Up w W) => stclone_any v st W (h.up hW) hg)
  obtain ⟨vb, vv, rfl, hb, hv⟩ := h
  obtain ⟨oB, cB, rfl, _⟩ := hb.slice
  obtain ⟨oV, cV, rfl, _, _⟩ := hv.slice
  clear hb hv hwf
  unfold locVR at HL
  generalize st.b.length = M at *
  obtain ⟨N, hN⟩ : ∃ N, st.v.length = N := ⟨_, rfl⟩
  rw [hN] at HL HSC ⊢
  have HN := Lib.hid hN
  clear hN
  have HR : Hid (RowC ((w.alloc (.cells #[.slice oB M cB, .slice oV N cV] 31)).alloc (.cells #[.slice none 0 0, .slice none 0 0] 31)) (w.heap.size + 1) 31 [.slice none 0 0, .slice none 0 0]) := box_new w _ _ _ _
  have HC : Hid (((w.alloc (.cells #[.slice oB M cB, .slice oV N cV] 31)).alloc (.cells #[.slice none 0 0, .slice none 0 0] 31)).cell? ⟨w.heap.size, 0, none⟩ = some (.slice oB M cB) ∧ ((w.alloc (.cells #[.slice oB M cB, .slice oV N cV] 31)).alloc (.cells #[.slice none 0 0, .slice none 0 0] 31)).cell? ⟨w.heap.size, 1, none⟩ = some (.slice oV N cV)) := ⟨Lib.cell?_alloc_some _ (World.cell?_alloc_new w _ _ 0), Lib.cell?_alloc_some _ (World.cell?_alloc_new w _ _ 1)⟩
  have HW0 : Hid (Up w ((w.alloc (.cells #[.slice oB M cB, .slice oV N cV] 31)).alloc (.cells #[.slice none 0 0, .slice none 0 0] 31))) := (Up.alloc _ _).trans (Up.alloc _ _)
  have HSZ : Hid (w.heap.size < ((w.alloc (.cells #[.slice oB M cB, .slice oV N cV] 31)).alloc (.cells #[.slice none 0 0, .slice none 0 0] 31)).heap.size) := by show _ < _; simp; omega
  by_cases h0 : (vloc FP st s a).2 = 0
  · obtain ⟨hgood, k, hk, j, rfl, hj, hf, _, _⟩ := vloc_ok h0
    rw [trim_yes hk hj hf]
    rw [hf] at HL
    simp only at HL
    have HSC2 := Lib.hid (HSC.out hgood)
    have hlen := (hgood.vol _ (List.getElem_mem hk)).2.1
    have HBG := Lib.hid hgood.bag
    have hkN : k < N := by rw [← HN.out]; exact hk
    clear HSC h0 hf hgood
    go_enter Try.func21, Try.ntmps21
    go_wp2_with fail
    generalize (w.alloc (.cells #[.slice oB M cB, .slice oV N cV] 31)).alloc (.cells #[.slice none 0 0, .slice none 0 0] 31) = W0 at HC HR HW0 HSZ ⊢
    refine (HL.out _ HW0.out).mono ?_
    rintro e w1 ⟨rfl, u1⟩
    have HU1 := Lib.hid u1
    have c0 := (u1.cell (p := ⟨w.heap.size, 0, none⟩) HSZ.out).trans HC.out.1
    have c1 := (u1.cell (p := ⟨w.heap.size, 1, none⟩) HSZ.out).trans HC.out.2
    clear u1
    go_wp2_with fail
    refine (HSC2.out _ (HW0.out.trans HU1.out)).mono ?_
    rintro e w2 ⟨v2, rfl, ho2, u2⟩
    obtain ⟨vb2, vv2, rfl, hob, C, hvc, hrd⟩ := ho2
    obtain ⟨g, cap, sp, hsl, hgb, hrow, hr4, hr5, hr6⟩ := hrd.at hk hj
    have hlC := hrd.len
    obtain ⟨ob, cb, rfl, hcb⟩ := hob.items.slice
    obtain ⟨ov, cv, rfl, hv4, hv5⟩ := Sl.slice hvc.vcs
    obtain ⟨gv, ofv, rfl, hcells⟩ := VCs.at hvc.vcs (by intro e; rw [e] at hlC; simp at hlC; omega)
    obtain ⟨_, k2⟩ := hcells k (by omega)
    rw [hsl] at k2
    have hc3 := hcb
    unfold maxLen at hc3 hv5 hr5
    obtain ⟨L, hL⟩ : ∃ L, st.v[k].bl.length = L := ⟨_, rfl⟩
    have hjL : j < L := Nat.lt_of_lt_of_eq hj hL
    have k3 : w2.cell? ⟨gv, ofv + k * 2 + 1, none⟩ = some (.slice (some ⟨g, 0, none⟩) L cap) := k2.trans (congrArg (fun z => some (Value.slice (some ⟨g, 0, none⟩) z cap)) hL)
    have hLc : L ≤ cap := hL ▸ hr4
    have HU2 := Lib.hid u2
    have HRL : Hid (∀ W, Up w2 W → Calls Try.prog 48 #[.slice ob st.b.length cb, .slice (some ⟨g, j * 3, none⟩) 1 (cap - j)] W (RlPost W w1.heap.size (rel FP st.b [st.v[k].bl[j]]))) := fun W hW =>
      release_any _ _ st.b [st.v[k].bl[j]] w1.heap.size W (hob.up hW) HBG.out (Ids.sub (hrow.up hW) hj (by omega) (by unfold maxLen; omega)) (Nat.le_trans HU2.out.size hW.size)
    have HOB := Lib.hid hob
    have HVC := Lib.hid hvc
    have HRD := Lib.hid hrd
    have HROW := Lib.hid hrow
    have HSL := Lib.hid hsl
    have HR4 := Lib.hid hr4
    have HR6 := Lib.hid hr6
    have HLID : Hid (∀ W v', Up w2 W → OVols (layId W g j noId) w1.heap.size (.slice (some ⟨gv, ofv, none⟩) C.length cv) (setB st.v k j noId)) := fun W _ hW =>
      OVols.laidId (own_up hvc hW) (hrd.up hW) hk hj hsl hgb (hrow.up hW) hr4 (by unfold maxLen; omega) hr6
    have HCL : Hid (C.length = N) := hlC.trans HN.out
    have hw : IntKind.i64.wrap ((j : Int) + 1) = ((j + 1 : Nat) : Int) := IntWalk.i64_in _ (by omega)
    have k4 := Lib.cell?_alloc_some (.cells #[.slice ob st.b.length cb, .slice (some ⟨gv, ofv, none⟩) C.length cv] 31) k3
    have hCN : C.length = N := HCL.out
    clear hob hvc hrow hsl hcells k2 k3 hr4 hr6 u2 hcb c0 c1
    rw [hCN] at hv4 k4 HLID HVC ⊢
    go_wp2_with fail
    have HRX : Hid (RowC (w2.alloc (.cells #[.slice ob st.b.length cb, .slice (some ⟨gv, ofv, none⟩) N cv] 31)) w2.heap.size 31 [.slice ob st.b.length cb, .slice (some ⟨gv, ofv, none⟩) N cv]) := heap_alloc_new w2 _
    have HU3 : Hid (Up w2 (w2.alloc (.cells #[.slice ob st.b.length cb, .slice (some ⟨gv, ofv, none⟩) N cv] 31))) := Up.alloc _ _
    have q0 := HRX.out.cell (j := 0) rfl
    have q1 := HRX.out.cell (j := 1) rfl
    have q2 := HRX.out.frozen 0
    have q3 := HRX.out.lt
    have hXW0 : Hid (W0.heap.size ≤ w2.heap.size) := (HU1.out.trans HU2.out).size
    generalize (w2.alloc (.cells #[.slice ob st.b.length cb, .slice (some ⟨gv, ofv, none⟩) N cv] 31)) = W3 at HRX HU3 q0 q1 q2 q3 k4 ⊢
    obtain ⟨X, hX⟩ : ∃ X, w2.heap.size = X := ⟨_, rfl⟩
    rw [hX] at HRX q0 q1 q2 q3 hXW0 ⊢
    clear hX
    go_region_with ((go_at_call 48; ((with_reducible refine (HRL.out _ (HU3.out.trans (Up.drew _))).mono ?_); rintro e w4 ⟨v4, rfl, ho4, u4⟩; have h4 : Up W3 w4 := (Up.drew _).trans u4; have x0 := (Below.cell h4 (p := ⟨X, 0, none⟩) q3).trans q0; have x1 := (Below.frozen h4 (p := ⟨X, 0, none⟩) q3).trans q2; obtain ⟨o4, c4, hv4', _⟩ := ho4.items.slice; subst hv4')))
    all_goals
      obtain ⟨l', hl'⟩ : ∃ l', rel FP st.b [st.v[k].bl[j]] = l' := ⟨_, rfl⟩
      have HLL := Lib.hid hl'
      rw [hl'] at ho4 ⊢
      have hu04 : Up W0 w4 := ((HU1.out.trans HU2.out).trans HU3.out).trans h4
      have hR4 := HR.out.up hu04
      have hX4 := HRX.out.up h4
      have hne : w.heap.size + 1 ≠ X := by
        have := HR.out.lt
        have := hXW0.out
        omega
      have hO4 := OItems.setR (i := 0) (x := .slice o4 l'.length c4) ho4 hX4
      have hrow4 := HROW.out.up (HU3.out.trans h4)
      have hgX : g ≠ X := RowC.apart hrow4 hX4 idState
      have HR5 := Lib.hid (hR4.other hne 0 (.slice o4 l'.length c4))
      have HX5 := Lib.hid (hX4.set 0 (.slice o4 l'.length c4))
      have HG5 := Lib.hid (hrow4.other hgX 0 (.slice o4 l'.length c4))
      have HO5 := Lib.hid hO4
      have hup4 := HU3.out.trans h4
      have HV5 : Hid (OVC (w4.setCell ⟨X, 0, none⟩ (.slice o4 l'.length c4)) w1.heap.size (.slice (some ⟨gv, ofv, none⟩) N cv) C) := own_set (own_up HVC.out hup4) (own_apart (own_up HVC.out hup4) hX4 voState)
      have HD5 : Hid (ORd (w4.setCell ⟨X, 0, none⟩ (.slice o4 l'.length c4)) w1.heap.size C st.v) := ⟨hrd.len, hrd.nm, fun i hi => own_set (own_up (hrd.bl i hi) hup4) (own_apart (own_up (hrd.bl i hi) hup4) hX4 idState), hrd.apart⟩
      have HU5 : Hid (Up W0 (w4.setCell ⟨X, 0, none⟩ (.slice o4 l'.length c4))) := Below.setCell hu04 (p := ⟨X, 0, none⟩) hXW0.out _
      clear hup4 hu04 hR4 hX4 hO4 hrow4 x0 x1 u4 h4 q0 q1 q2 q3 k4
      generalize w4.setCell ⟨X, 0, none⟩ (.slice o4 l'.length c4) = W5 at HR5 HX5 HG5 HO5 HV5 HD5 HU5 ⊢
      have hg3 := fun i hi => fl_get idC_len st.v[k].bl j hj i hi
      have p0 : W5.cell? ⟨g, j * 3, none⟩ = some (.bool st.v[k].bl[j].1) := HG5.out.cell (by rw [List.getElem?_append_left (by rw [fl_length idC_len]; omega)]; exact hg3 0 (by omega))
      have p1 : W5.cell? ⟨g, j * 3 + 1, none⟩ = some (.int .i64 st.v[k].bl[j].2.1) := HG5.out.cell (by rw [List.getElem?_append_left (by rw [fl_length idC_len]; omega)]; exact hg3 1 (by omega))
      have p2 : W5.cell? ⟨g, j * 3 + 2, none⟩ = some (.int .i64 st.v[k].bl[j].2.2) := HG5.out.cell (by rw [List.getElem?_append_left (by rw [fl_length idC_len]; omega)]; exact hg3 2 (by omega))
      have p3 := HG5.out.frozen (j * 3)
      have p4 := HG5.out.frozen (j * 3 + 1)
      have p5 := HG5.out.frozen (j * 3 + 2)
      have hX5 := HX5.out.laidId (a := j) (x := noId) (Ne.symm hgX)
      have hR5 := HR5.out.laidId (a := j) (x := noId) (Ne.symm (RowC.apart HG5.out HR5.out idState))
      have hO5 := HO5.out.laidId (a := j) (x := noId) HG5.out
      have HU6 : Hid (Up W0 (layId W5 g j noId)) := below_layId HU5.out (Nat.le_trans HU1.out.size hgb)
      have HLD := Lib.hid (OVols.laidId (x := noId) HV5.out HD5.out hk hj HSL.out hgb HG5.out HR4.out (by unfold maxLen; omega) HR6.out)
      have s0 := hX5.cell (j := 0) rfl
      have s1 := hX5.cell (j := 1) rfl
      have t0 := hR5.frozen 0
      have t1 := hR5.frozen 1
      have t2 := hR5.cell (j := 0) rfl
      have t3 := hR5.cell (j := 1) rfl
      have HR6' := Lib.hid hR5
      have HO6 := Lib.hid hO5
      clear hX5 hR5 hO5 hg3
      have hlay : layId W5 g j noId = ((W5.setCell ⟨g, j * 3, none⟩ (.bool false)).setCell ⟨g, j * 3 + 1, none⟩ (.int .i64 0)).setCell ⟨g, j * 3 + 2, none⟩ (.int .i64 0) := rfl
      rw [hlay] at s0 s1 t0 t1 t2 t3 HR6' HO6 HU6 HLD
      clear hlay
      go_wp2_with fail
      generalize ((W5.setCell ⟨g, j * 3, none⟩ (.bool false)).setCell ⟨g, j * 3 + 1, none⟩ (.int .i64 0)).setCell ⟨g, j * 3 + 2, none⟩ (.int .i64 0) = W6 at HR6' HO6 HU6 HLD ⊢
      have hst6 : OSt W6 w1.heap.size (.agg #[.slice o4 l'.length c4, .slice (some ⟨gv, ofv, none⟩) N cv]) ⟨l', setB st.v k j noId⟩ := ⟨_, _, rfl, HO6.out, HLD.out⟩
      have HOZ := Lib.hid (OSt.base (OSt.boxed hst6 HR6'.out) (HW0.out.trans HU1.out).size)
      have hz := (HR6'.out.set 0 (.slice o4 l'.length c4)).set 1 (.slice (some ⟨gv, ofv, none⟩) N cv)
      have z0 := hz.cell (j := 0) rfl
      have z1 := hz.cell (j := 1) rfl
      have HUZ : Hid (Up w ((W6.setCell ⟨w.heap.size + 1, 0, none⟩ (.slice o4 l'.length c4)).setCell ⟨w.heap.size + 1, 1, none⟩ (.slice (some ⟨gv, ofv, none⟩) N cv))) := (Below.setCell (show Below w.heap.size w W6 from HW0.out.trans HU6.out) (p := ⟨w.heap.size + 1, 0, none⟩) (Nat.le_succ _) _).setCell (p := ⟨w.heap.size + 1, 1, none⟩) (Nat.le_succ _) _
      rw [HLL.out]
      generalize (W6.setCell ⟨w.heap.size + 1, 0, none⟩ (.slice o4 l'.length c4)).setCell ⟨w.heap.size + 1, 1, none⟩ (.slice (some ⟨gv, ofv, none⟩) N cv) = WZ at z0 z1 HOZ HUZ ⊢
      exact bodyPost_ret (v := .tuple #[.agg #[.slice o4 l'.length c4, .slice (some ⟨gv, ofv, none⟩) N cv], .int .i64 0]) (by simp [results, Try.results21, go_sem, z0, z1]) rfl ⟨_, rfl, HOZ.out, HUZ.out⟩
  · obtain ⟨R, hR⟩ : ∃ R, (vloc FP st s a).2 = R := ⟨_, rfl⟩
    have hz := vloc_no h0
    rw [trim_no h0, hR]
    rw [hR, hz] at HL
    rw [hR] at h0
    have hne : (R != 0) = true := by rw [bne_iff_ne]; exact h0
    clear hR hz h0 HSC
    go_enter Try.func21, Try.ntmps21
    go_wp2_with fail
    generalize (w.alloc (.cells #[.slice oB M cB, .slice oV N cV] 31)).alloc (.cells #[.slice none 0 0, .slice none 0 0] 31) = W0 at HC HR HW0 HSZ ⊢
    refine (HL.out _ HW0.out).mono ?_
    rintro e w1 ⟨rfl, u1⟩
    have HU1 : Hid (Up w w1) := HW0.out.trans u1
    have hr1 := HR.out.up u1
    have r0 := hr1.frozen 0
    have r1 := hr1.frozen 1
    have r2 := hr1.cell (j := 0) rfl
    have r3 := hr1.cell (j := 1) rfl
    have HR1 := Lib.hid hr1
    clear u1 hr1
    go_wp2_with fail
    have hz := (HR1.out.set 0 (.slice none 0 0)).set 1 (.slice none 0 0)
    have z0 := hz.cell (j := 0) rfl
    have z1 := hz.cell (j := 1) rfl
    have HOZ : Hid (OSt ((w1.setCell ⟨w.heap.size + 1, 0, none⟩ (.slice none 0 0)).setCell ⟨w.heap.size + 1, 1, none⟩ (.slice none 0 0)) w.heap.size zeroV zeroS) := OSt.zero _ _
    have HUZ : Hid (Up w ((w1.setCell ⟨w.heap.size + 1, 0, none⟩ (.slice none 0 0)).setCell ⟨w.heap.size + 1, 1, none⟩ (.slice none 0 0))) := (Below.setCell (show Below w.heap.size w w1 from HU1.out) (p := ⟨w.heap.size + 1, 0, none⟩) (Nat.le_succ _) _).setCell (p := ⟨w.heap.size + 1, 1, none⟩) (Nat.le_succ _) _
    generalize (w1.setCell ⟨w.heap.size + 1, 0, none⟩ (.slice none 0 0)).setCell ⟨w.heap.size + 1, 1, none⟩ (.slice none 0 0) = WZ at z0 z1 HOZ HUZ ⊢
    exact bodyPost_ret (v := .tuple #[zeroV, .int .i64 R]) (by simp [results, Try.results21, go_sem, z0, z1, zeroV]) rfl ⟨_, rfl, HOZ.out, HUZ.out⟩

end Go.Proofs.Ytnmdfdkagkpcaaa

/-
  States laid into boxes of two slices: what reads as a state before reads so behind. Conditions: as each says.
-/
namespace Go.Proofs.Ytnmdfdkagkpcaaa
open Go.RowKit
open Go.Proofs
open WoolBag
open WoolVol

theorem own_slice {w : World} {base n m : Nat} {T : TypeId} {v : Value} {L : List Value} (h : w.ownsRow base T m v n L) : ∃ o c, v = .slice o n c := by
  obtain ⟨o, c, e, _, _⟩ := Sl.slice (Sl.of_own h)
  exact ⟨o, c, e⟩

theorem Up.trans' {a b c : World} (h : Up a b) (k : Below a.heap.size b c) : Up a c := Below.trans h k

def RdEPost (w : World) (r : Sta × Int) (e : Ending) (w' : World) : Prop := ∃ v', e = .returned (.tuple #[v', .int .i64 r.2]) ∧ Stat w' v' r.1 ∧ Up w w'

/-- is it a slice? -/
def isSl : Value → Bool
  | .slice .. => true
  | _ => false

theorem cell_sl {w : World} {X T off : Nat} {a b u : Value} (hr : RowC w X T [a, b]) (ha : isSl a = true) (hb : isSl b = true) (hc : w.cell? ⟨X, off, none⟩ = some u) : isSl u = true := by
  rw [hr.at] at hc
  match off, hc with
  | 0, hc => simp at hc; rw [← hc]; exact ha
  | 1, hc => simp at hc; rw [← hc]; exact hb
  | n + 2, hc => simp at hc

theorem cell_apart {w : World} {X T i bb off : Nat} {a b u u0 y : Value} {o0 : Nat} (hr : RowC w X T [a, b]) (ha : isSl a = true) (hb : isSl b = true) (h0 : w.cell? ⟨bb, o0, none⟩ = some u0) (hu : isSl u0 = false) (hc : w.cell? ⟨bb, off, none⟩ = some u) : (w.setCell ⟨X, i, none⟩ y).cell? ⟨bb, off, none⟩ = some u := by
  have hne : bb ≠ X := by
    rintro rfl
    have := cell_sl hr ha hb h0
    rw [hu] at this; cases this
  exact (World.cell?_setCell_far _ _ _ _ (fun e => hne e.symm)).trans hc

theorem Sl.setS {w : World} {m n X T i : Nat} {v y a b : Value} {L : List Value} (h : Sl w m v n L) (hr : RowC w X T [a, b]) (ha : isSl a = true) (hb : isSl b = true) (h0 : ∀ u, L[0]? = some u → isSl u = false) : Sl (w.setCell ⟨X, i, none⟩ y) m v n L := by
  obtain ⟨e, o, c, rfl, h2, h3, h4⟩ := h
  refine ⟨e, o, c, rfl, h2, h3, ?_⟩
  rcases h4 with h4 | ⟨bb, off, rfl, h6⟩
  · exact .inl h4
  · refine .inr ⟨bb, off, rfl, fun j u hj => ?_⟩
    have hl : 0 < L.length := Nat.lt_of_le_of_lt (Nat.zero_le _) (List.getElem?_eq_some_iff.1 hj).1
    have hu0 : L[0]? = some L[0] := List.getElem?_eq_getElem hl
    exact cell_apart hr ha hb (h6 0 _ hu0) (h0 _ hu0) (h6 j u hj)

theorem Ids.setS {w : World} {X T i : Nat} {v y a b : Value} {l : List Idn} (h : Ids w v l) (hr : RowC w X T [a, b]) (ha : isSl a = true) (hb : isSl b = true) : Ids (w.setCell ⟨X, i, none⟩ y) v l := by
  refine Sl.setS h hr ha hb ?_
  intro u hu
  cases l with
  | nil => simp [fl] at hu
  | cons x r => simp [fl, idC] at hu; rw [← hu]; rfl

theorem Vols.setS {w : World} {X T i : Nat} {v y a b : Value} {l : List Vo} (h : Vols w v l) (hr : RowC w X T [a, b]) (ha : isSl a = true) (hb : isSl b = true) : Vols (w.setCell ⟨X, i, none⟩ y) v l := by
  obtain ⟨C, h1, h2⟩ := h
  refine ⟨C, Sl.setS h1 hr ha hb ?_, ⟨h2.len, h2.nm, fun k hk => (h2.bl k hk).setS hr ha hb⟩⟩
  intro u hu
  cases C with
  | nil => simp [fl] at hu
  | cons x r => simp [fl, vcC] at hu; rw [← hu]; rfl

theorem Items.setS {w : World} {X T i : Nat} {v y a b : Value} {l : List Itm} (h : Items w v l) (hr : RowC w X T [a, b]) (ha : isSl a = true) (hb : isSl b = true) : Items (w.setCell ⟨X, i, none⟩ y) v l := by
  obtain ⟨o, c, h1, h2, h3, h4⟩ := h
  refine ⟨o, c, h1, h2, h3, ?_⟩
  rcases h4 with h4 | ⟨bb, off, h5, h6⟩
  · exact .inl h4
  · refine .inr ⟨bb, off, h5, fun k hk => ?_⟩
    obtain ⟨a1, a2, a3, a4⟩ := h6 k hk
    exact ⟨cell_apart hr ha hb a1 rfl a1, cell_apart hr ha hb a1 rfl a2, cell_apart hr ha hb a1 rfl a3, cell_apart hr ha hb a1 rfl a4⟩

theorem Stat.setS {w : World} {X T i : Nat} {v y a b : Value} {st : Sta} (h : Stat w v st) (hr : RowC w X T [a, b]) (ha : isSl a = true) (hb : isSl b = true) : Stat (w.setCell ⟨X, i, none⟩ y) v st := by
  obtain ⟨vb, vv, h1, h2, h3⟩ := h
  exact ⟨vb, vv, h1, h2.setS hr ha hb, h3.setS hr ha hb⟩

/-- a state laid into a box of two slices -/
theorem Stat.boxed {w : World} {R T : Nat} {v x y a b : Value} {st : Sta} (h : Stat w v st) (hr : RowC w R T [a, b]) (ha : isSl a = true) (hb : isSl b = true) (hx : isSl x = true) : Stat ((w.setCell ⟨R, 0, none⟩ x).setCell ⟨R, 1, none⟩ y) v st :=
  (h.setS hr ha hb).setS (show RowC _ R T [x, b] from hr.set 0 x) hx hb

theorem up2 {w W : World} {R : Nat} {x y : Value} (h : Up w W) (hR : w.heap.size ≤ R) : Up w ((W.setCell ⟨R, 0, none⟩ x).setCell ⟨R, 1, none⟩ y) :=
  (Below.setCell (show Below w.heap.size w W from h) (p := ⟨R, 0, none⟩) hR _).setCell (p := ⟨R, 1, none⟩) hR _

end Go.Proofs.Ytnmdfdkagkpcaaa
