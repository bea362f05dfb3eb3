/-
  The texts LogA, GoodWf, one behind the other; each says below what it holds and on what conditions.
-/
import Derived.Test.YtnmdfdkagkpcaaaJVolOwn33
import Derived.Test.YtnmdfdkagkpcaaaJVolOwn36
import Derived.Test.YtnmdfdkagkpcaaaJVolOwn37
import Derived.Test.YtnmdfdkagkpcaaaJVolOwn38
import Derived.Test.YtnmdfdkagkpcaaaJVolOwn40
import Derived.Test.YtnmdfdkagkpcaaaJVolOwn21

/-
  What package log's Do returns. Conditions: a deed that a call can be handed; a state that can be read.
-/
namespace Go.Proofs.Ytnmdfdkagkpcaaa
open Go.RowKit
open Go.Proofs
open WoolBag
open WoolVol

set_option maxRecDepth 100000 in
set_option maxHeartbeats 2000000 in
theorem do_any (v : Value) (st : Sta) (o : Opn) (w : World) (h : Stat w v st) (hwf : WfS st) (ho : OpWf o) : Calls Try.prog 22 #[v, opA o] w (StEPost w (doO FP st o)) := by
  have HCK := Lib.hid (fun W => checkO_any o W ho)
  have HMK := Lib.hid (fun W (hW : Up w W) => make_own v st o.nm o.pl W (h.up hW) hwf ho.2.1)
  have HDR := Lib.hid (fun W (hW : Up w W) => vdrop_own v st o.nm W (h.up hW) hwf)
  have HWR := Lib.hid (fun W (hW : Up w W) => write_any v st o.nm o.tx o.pl W (h.up hW) hwf)
  have HTR := Lib.hid (fun W (hW : Up w W) => trim_any v st o.nm o.pl W (h.up hW) hwf)
  have HCL := Lib.hid (fun W (hW : Up w W) => vclone_own v st o.nm o.to W (h.up hW) hwf ho.2.2.1)
  unfold StEPost at *
  obtain ⟨vb, vv, rfl, hb, hv⟩ := h
  obtain ⟨oB, cB, rfl, _⟩ := hb.slice
  obtain ⟨oV, cV, rfl, _, _⟩ := hv.slice
  clear hb hv ho hwf
  generalize st.b.length = M at *
  generalize st.v.length = N at *
  obtain ⟨RS, hRS⟩ : ∃ RS, doO FP st o = RS := ⟨_, rfl⟩
  rw [hRS]
  have HRS := Lib.hid hRS
  clear hRS
  unfold opA at *
  obtain ⟨kd, nm, ot, pl, tx⟩ := o
  simp only at *
  have HA : Hid (RowC ((((w.alloc (.cells #[.slice oB M cB, .slice oV N cV] 31)).alloc (.cells #[.int .i64 kd, .string (bs nm), .string (bs ot), .int .i64 pl, .string (bs tx)] 44))).alloc (.cells #[.slice none 0 0, .slice none 0 0] 31)) w.heap.size 31 [.slice oB M cB, .slice oV N cV]) := RowC.up (heap_alloc_new w _) ((Up.alloc _ _).trans (Up.alloc _ _))
  have HO : Hid (RowC ((((w.alloc (.cells #[.slice oB M cB, .slice oV N cV] 31)).alloc (.cells #[.int .i64 kd, .string (bs nm), .string (bs ot), .int .i64 pl, .string (bs tx)] 44))).alloc (.cells #[.slice none 0 0, .slice none 0 0] 31)) (w.heap.size + 1) 44 [.int .i64 kd, .string (bs nm), .string (bs ot), .int .i64 pl, .string (bs tx)]) := RowC.up (rowN_at [.int .i64 kd, .string (bs nm), .string (bs ot), .int .i64 pl, .string (bs tx)] _ (by simp)) (Up.alloc _ _)
  have HR : Hid (RowC ((((w.alloc (.cells #[.slice oB M cB, .slice oV N cV] 31)).alloc (.cells #[.int .i64 kd, .string (bs nm), .string (bs ot), .int .i64 pl, .string (bs tx)] 44))).alloc (.cells #[.slice none 0 0, .slice none 0 0] 31)) (w.heap.size + 1 + 1) 31 [.slice none 0 0, .slice none 0 0]) := rowN_at [.slice none 0 0, .slice none 0 0] _ (by simp)
  have HW0 : Hid (Up w ((((w.alloc (.cells #[.slice oB M cB, .slice oV N cV] 31)).alloc (.cells #[.int .i64 kd, .string (bs nm), .string (bs ot), .int .i64 pl, .string (bs tx)] 44))).alloc (.cells #[.slice none 0 0, .slice none 0 0] 31))) := ((Up.alloc _ _).trans (Up.alloc _ _)).trans (Up.alloc _ _)
  go_enter Try.func22, Try.ntmps22
  go_upto_region 1 with (fail)
  generalize (((w.alloc (.cells #[.slice oB M cB, .slice oV N cV] 31)).alloc (.cells #[.int .i64 kd, .string (bs nm), .string (bs ot), .int .i64 pl, .string (bs tx)] 44))).alloc (.cells #[.slice none 0 0, .slice none 0 0] 31) = W0 at HA HO HR HW0 ⊢
  have q0 := HO.out.cell (j := 0) rfl
  have q1 := HO.out.cell (j := 1) rfl
  have q2 := HO.out.cell (j := 2) rfl
  have q3 := HO.out.cell (j := 3) rfl
  have q4 := HO.out.cell (j := 4) rfl
  go_wp2_with fail
  refine (HCK.out _).mono ?_
  rintro e w1 ⟨rfl, u1⟩
  have HA1 := Lib.hid (HA.out.up u1)
  have HO1 := Lib.hid (HO.out.up u1)
  have HR1 := Lib.hid (HR.out.up u1)
  have HW1 := Lib.hid (HW0.out.trans u1)
  have r0 := HR1.out.frozen 0
  have r1 := HR1.out.frozen 1
  have r2 := HR1.out.cell (j := 0) rfl
  have r3 := HR1.out.cell (j := 1) rfl
  have a0 := HA1.out.cell (j := 0) rfl
  have a1 := HA1.out.cell (j := 1) rfl
  clear q0 q1 q2 q3 q4 u1 HA HO HR
  have q0 := HO1.out.cell (j := 0) rfl
  have q1 := HO1.out.cell (j := 1) rfl
  have q2 := HO1.out.cell (j := 2) rfl
  have q3 := HO1.out.cell (j := 3) rfl
  have q4 := HO1.out.cell (j := 4) rfl
  obtain ⟨C, hC⟩ : ∃ C, chkO ⟨kd, nm, ot, pl, tx⟩ = C := ⟨_, rfl⟩
  rw [hC]
  have HRX := Lib.hid (HR1.out)
  by_cases hc : C = 0
  · subst hc
    have HE := Lib.hid (show doK FP st ⟨kd, nm, ot, pl, tx⟩ = RS by rw [← HRS.out]; unfold doO; rw [if_neg (by simp [hC])])
    have hkd := chkO_kd hC
    simp only at hkd
    clear hC HRS
    by_cases h1 : kd = 1
    · subst h1
      have hE : RS = make FP st nm pl := by rw [← HE.out]; rfl
      clear HE hkd HDR HWR HTR HCL
      go_wp2_with fail
      refine (HMK.out _ HW1.out).mono ?_
      rintro e w4 ⟨v4, rfl, ho4, u4⟩
      rw [← hE] at ho4 ⊢
      obtain ⟨o3, c3, o4, c4, hv4⟩ := ho4.stat.shape
      subst hv4
      obtain ⟨n3, hn3⟩ : ∃ n3, RS.1.b.length = n3 := ⟨_, rfl⟩
      obtain ⟨n4, hn4⟩ : ∃ n4, RS.1.v.length = n4 := ⟨_, rfl⟩
      rw [hn3, hn4] at ho4 ⊢
      have HR4 := Lib.hid (HRX.out.up u4)
      have HO4 := Lib.hid (ho4.boxed HR4.out)
      have HU4 := Lib.hid (up2 (x := .slice o3 n3 c3) (y := .slice o4 n4 c4) (HW1.out.trans u4) (show w.heap.size ≤ w.heap.size + 1 + 1 by omega))
      clear r0 r1 r2 r3 a0 a1 q0 q1 q2 q3 q4 ho4 u4 hn3 hn4 hE
      have r0 := HR4.out.frozen 0
      have r1 := HR4.out.frozen 1
      have r2 := HR4.out.cell (j := 0) rfl
      have r3 := HR4.out.cell (j := 1) rfl
      go_wp2_with fail
      have hz := (HR4.out.set 0 (.slice o3 n3 c3)).set 1 (.slice o4 n4 c4)
      have z0 := hz.cell (j := 0) rfl
      have z1 := hz.cell (j := 1) rfl
      generalize (w4.setCell ⟨w.heap.size + 1 + 1, 0, none⟩ (.slice o3 n3 c3)).setCell ⟨w.heap.size + 1 + 1, 1, none⟩ (.slice o4 n4 c4) = WZ at z0 z1 HO4 HU4 ⊢
      exact bodyPost_ret (v := .tuple #[.agg #[.slice o3 n3 c3, .slice o4 n4 c4], .int .i64 RS.2]) (by simp [results, Try.results22, go_sem, z0, z1]) rfl ⟨_, rfl, HO4.out.base HW1.out.size, HU4.out⟩
    have d1 : (kd == 1) = false := by rw [beq_eq_false_iff_ne]; exact h1
    by_cases h2 : kd = 2
    · subst h2
      have hE : RS = vdrop FP st nm := by rw [← HE.out]; rfl
      clear HE hkd HMK HWR HTR HCL
      go_wp2_with fail
      refine (HDR.out _ HW1.out).mono ?_
      rintro e w4 ⟨v4, rfl, ho4, u4⟩
      rw [← hE] at ho4 ⊢
      obtain ⟨o3, c3, o4, c4, hv4⟩ := ho4.stat.shape
      subst hv4
      obtain ⟨n3, hn3⟩ : ∃ n3, RS.1.b.length = n3 := ⟨_, rfl⟩
      obtain ⟨n4, hn4⟩ : ∃ n4, RS.1.v.length = n4 := ⟨_, rfl⟩
      rw [hn3, hn4] at ho4 ⊢
      have HR4 := Lib.hid (HRX.out.up u4)
      have HO4 := Lib.hid (ho4.boxed HR4.out)
      have HU4 := Lib.hid (up2 (x := .slice o3 n3 c3) (y := .slice o4 n4 c4) (HW1.out.trans u4) (show w.heap.size ≤ w.heap.size + 1 + 1 by omega))
      clear r0 r1 r2 r3 a0 a1 q0 q1 q2 q3 q4 ho4 u4 hn3 hn4 hE
      have r0 := HR4.out.frozen 0
      have r1 := HR4.out.frozen 1
      have r2 := HR4.out.cell (j := 0) rfl
      have r3 := HR4.out.cell (j := 1) rfl
      go_wp2_with fail
      have hz := (HR4.out.set 0 (.slice o3 n3 c3)).set 1 (.slice o4 n4 c4)
      have z0 := hz.cell (j := 0) rfl
      have z1 := hz.cell (j := 1) rfl
      generalize (w4.setCell ⟨w.heap.size + 1 + 1, 0, none⟩ (.slice o3 n3 c3)).setCell ⟨w.heap.size + 1 + 1, 1, none⟩ (.slice o4 n4 c4) = WZ at z0 z1 HO4 HU4 ⊢
      exact bodyPost_ret (v := .tuple #[.agg #[.slice o3 n3 c3, .slice o4 n4 c4], .int .i64 RS.2]) (by simp [results, Try.results22, go_sem, z0, z1]) rfl ⟨_, rfl, HO4.out.base HW1.out.size, HU4.out⟩
    have d2 : (kd == 2) = false := by rw [beq_eq_false_iff_ne]; exact h2
    by_cases h3 : kd = 3
    · subst h3
      have hE : RS = write FP st nm pl tx := by rw [← HE.out]; rfl
      clear HE hkd HMK HDR HTR HCL
      go_wp2_with fail
      refine (HWR.out _ HW1.out).mono ?_
      rintro e w4 ⟨v4, rfl, ho4, u4⟩
      rw [← hE] at ho4 ⊢
      obtain ⟨o3, c3, o4, c4, hv4⟩ := ho4.stat.shape
      subst hv4
      obtain ⟨n3, hn3⟩ : ∃ n3, RS.1.b.length = n3 := ⟨_, rfl⟩
      obtain ⟨n4, hn4⟩ : ∃ n4, RS.1.v.length = n4 := ⟨_, rfl⟩
      rw [hn3, hn4] at ho4 ⊢
      have HR4 := Lib.hid (HRX.out.up u4)
      have HO4 := Lib.hid (ho4.boxed HR4.out)
      have HU4 := Lib.hid (up2 (x := .slice o3 n3 c3) (y := .slice o4 n4 c4) (HW1.out.trans u4) (show w.heap.size ≤ w.heap.size + 1 + 1 by omega))
      clear r0 r1 r2 r3 a0 a1 q0 q1 q2 q3 q4 ho4 u4 hn3 hn4 hE
      have r0 := HR4.out.frozen 0
      have r1 := HR4.out.frozen 1
      have r2 := HR4.out.cell (j := 0) rfl
      have r3 := HR4.out.cell (j := 1) rfl
      go_wp2_with fail
      have hz := (HR4.out.set 0 (.slice o3 n3 c3)).set 1 (.slice o4 n4 c4)
      have z0 := hz.cell (j := 0) rfl
      have z1 := hz.cell (j := 1) rfl
      generalize (w4.setCell ⟨w.heap.size + 1 + 1, 0, none⟩ (.slice o3 n3 c3)).setCell ⟨w.heap.size + 1 + 1, 1, none⟩ (.slice o4 n4 c4) = WZ at z0 z1 HO4 HU4 ⊢
      exact bodyPost_ret (v := .tuple #[.agg #[.slice o3 n3 c3, .slice o4 n4 c4], .int .i64 RS.2]) (by simp [results, Try.results22, go_sem, z0, z1]) rfl ⟨_, rfl, HO4.out.base HW1.out.size, HU4.out⟩
    have d3 : (kd == 3) = false := by rw [beq_eq_false_iff_ne]; exact h3
    by_cases h4 : kd = 4
    · subst h4
      have hE : RS = trim FP st nm pl := by rw [← HE.out]; rfl
      clear HE hkd HMK HDR HWR HCL
      go_wp2_with fail
      refine (HTR.out _ HW1.out).mono ?_
      rintro e w4 ⟨v4, rfl, ho4, u4⟩
      rw [← hE] at ho4 ⊢
      obtain ⟨o3, c3, o4, c4, hv4⟩ := ho4.stat.shape
      subst hv4
      obtain ⟨n3, hn3⟩ : ∃ n3, RS.1.b.length = n3 := ⟨_, rfl⟩
      obtain ⟨n4, hn4⟩ : ∃ n4, RS.1.v.length = n4 := ⟨_, rfl⟩
      rw [hn3, hn4] at ho4 ⊢
      have HR4 := Lib.hid (HRX.out.up u4)
      have HO4 := Lib.hid (ho4.boxed HR4.out)
      have HU4 := Lib.hid (up2 (x := .slice o3 n3 c3) (y := .slice o4 n4 c4) (HW1.out.trans u4) (show w.heap.size ≤ w.heap.size + 1 + 1 by omega))
      clear r0 r1 r2 r3 a0 a1 q0 q1 q2 q3 q4 ho4 u4 hn3 hn4 hE
      have r0 := HR4.out.frozen 0
      have r1 := HR4.out.frozen 1
      have r2 := HR4.out.cell (j := 0) rfl
      have r3 := HR4.out.cell (j := 1) rfl
      go_wp2_with fail
      have hz := (HR4.out.set 0 (.slice o3 n3 c3)).set 1 (.slice o4 n4 c4)
      have z0 := hz.cell (j := 0) rfl
      have z1 := hz.cell (j := 1) rfl
      generalize (w4.setCell ⟨w.heap.size + 1 + 1, 0, none⟩ (.slice o3 n3 c3)).setCell ⟨w.heap.size + 1 + 1, 1, none⟩ (.slice o4 n4 c4) = WZ at z0 z1 HO4 HU4 ⊢
      exact bodyPost_ret (v := .tuple #[.agg #[.slice o3 n3 c3, .slice o4 n4 c4], .int .i64 RS.2]) (by simp [results, Try.results22, go_sem, z0, z1]) rfl ⟨_, rfl, HO4.out.base HW1.out.size, HU4.out⟩
    have d4 : (kd == 4) = false := by rw [beq_eq_false_iff_ne]; exact h4
    by_cases h5 : kd = 5
    · subst h5
      have hE : RS = clone FP st nm ot := by rw [← HE.out]; rfl
      clear HE hkd HMK HDR HWR HTR
      go_wp2_with fail
      refine (HCL.out _ HW1.out).mono ?_
      rintro e w4 ⟨v4, rfl, ho4, u4⟩
      rw [← hE] at ho4 ⊢
      obtain ⟨o3, c3, o4, c4, hv4⟩ := ho4.stat.shape
      subst hv4
      obtain ⟨n3, hn3⟩ : ∃ n3, RS.1.b.length = n3 := ⟨_, rfl⟩
      obtain ⟨n4, hn4⟩ : ∃ n4, RS.1.v.length = n4 := ⟨_, rfl⟩
      rw [hn3, hn4] at ho4 ⊢
      have HR4 := Lib.hid (HRX.out.up u4)
      have HO4 := Lib.hid (ho4.boxed HR4.out)
      have HU4 := Lib.hid (up2 (x := .slice o3 n3 c3) (y := .slice o4 n4 c4) (HW1.out.trans u4) (show w.heap.size ≤ w.heap.size + 1 + 1 by omega))
      clear r0 r1 r2 r3 a0 a1 q0 q1 q2 q3 q4 ho4 u4 hn3 hn4 hE
      have r0 := HR4.out.frozen 0
      have r1 := HR4.out.frozen 1
      have r2 := HR4.out.cell (j := 0) rfl
      have r3 := HR4.out.cell (j := 1) rfl
      go_wp2_with fail
      have hz := (HR4.out.set 0 (.slice o3 n3 c3)).set 1 (.slice o4 n4 c4)
      have z0 := hz.cell (j := 0) rfl
      have z1 := hz.cell (j := 1) rfl
      generalize (w4.setCell ⟨w.heap.size + 1 + 1, 0, none⟩ (.slice o3 n3 c3)).setCell ⟨w.heap.size + 1 + 1, 1, none⟩ (.slice o4 n4 c4) = WZ at z0 z1 HO4 HU4 ⊢
      exact bodyPost_ret (v := .tuple #[.agg #[.slice o3 n3 c3, .slice o4 n4 c4], .int .i64 RS.2]) (by simp [results, Try.results22, go_sem, z0, z1]) rfl ⟨_, rfl, HO4.out.base HW1.out.size, HU4.out⟩
    have d5 : (kd == 5) = false := by rw [beq_eq_false_iff_ne]; exact h5
    omega
  · have hcz : (C == 0) = false := by rw [beq_eq_false_iff_ne]; exact hc
    have HE := Lib.hid (show (zeroS, C) = RS by rw [← HRS.out]; unfold doO; rw [if_pos (by rw [hC]; exact hc), hC])
    clear hC HRS hc
    go_wp2_with fail
    have hz := (HRX.out.set 0 (.slice none 0 0)).set 1 (.slice none 0 0)
    have z0 := hz.cell (j := 0) rfl
    have z1 := hz.cell (j := 1) rfl
    have HU4 := Lib.hid (up2 (x := .slice none 0 0) (y := .slice none 0 0) HW1.out (show w.heap.size ≤ w.heap.size + 1 + 1 by omega))
    generalize (w1.setCell ⟨w.heap.size + 1 + 1, 0, none⟩ (.slice none 0 0)).setCell ⟨w.heap.size + 1 + 1, 1, none⟩ (.slice none 0 0) = WZ at z0 z1 HU4 ⊢
    exact bodyPost_ret (v := .tuple #[.agg #[.slice none 0 0, .slice none 0 0], .int .i64 C]) (by simp [results, Try.results22, go_sem, z0, z1]) rfl ⟨_, by rw [← HE.out], by rw [← HE.out]; exact OSt.zero _ _, HU4.out⟩

end Go.Proofs.Ytnmdfdkagkpcaaa

/-
  Valid states fit: what is in one can stand in a map's key. Conditions: as each says.
-/
namespace Go.Proofs.Ytnmdfdkagkpcaaa
open Go.RowKit
open Go.Proofs
open WoolBag
open WoolVol

theorem wf_of {x : Int} (h1 : 0 ≤ x) (h2 : x ≤ 1073741824) : (Lit.int .i64 x).wf = true := by
  simp only [Lit.wf, Bool.and_eq_true, decide_eq_true_eq]
  exact ⟨by show (-9223372036854775808 : Int) ≤ _; omega, by show _ ≤ (9223372036854775807 : Int); omega⟩

theorem good_wf {st : Sta} (g : WoolVol.Good FP st) : WfS st := by
  intro v hv
  obtain ⟨hn, _, hb⟩ := g.vol v hv
  refine ⟨fun i hi => ?_, ?_⟩
  · have he := hb i hi
    cases h1 : i.1 with
    | false =>
      rw [errB_hole he h1]
      exact ⟨wf_of (by simp [noId]) (by simp [noId]), wf_of (by simp [noId]) (by simp [noId])⟩
    | true =>
      obtain ⟨x, hx, rfl⟩ := errB_in he h1
      have hok := g.bag.ok x hx
      have hs : x.s = FP x.t := hok.2.1
      have hle := fp_le 65581 (by omega) (by omega) x.t
      have hn1 := hok.2.2.1
      have hn2 := hok.2.2.2.1
      refine ⟨?_, ?_⟩
      · show (Lit.int .i64 x.s).wf = true
        rw [hs]
        exact wf_of (by unfold FP; omega) (by unfold FP; omega)
      · show (Lit.int .i64 x.n).wf = true
        exact wf_of (by omega) (by omega)
  · unfold nameB at hn
    simp at hn
    omega

end Go.Proofs.Ytnmdfdkagkpcaaa
