/-
  The texts LogA, Print2, PrintM, one behind the other; each says below what it holds and on what conditions.
-/
import Derived.Test.YtakbmbiebkgkiaaGreatDoorJB06
import Derived.Test.YtakbmbiebkgkiaaGreatDoorJB23
import Derived.Test.YtakbmbiebkgkiaaGreatDoorJB24
import Derived.Test.YtakbmbiebkgkiaaGreatDoorJB26
import Derived.Test.YtakbmbiebkgkiaaGreatDoorJB27
import Derived.Test.YtakbmbiebkgkiaaGreatDoorJB11

/-
  What package log's Do returns. Conditions: a deed that a call can be handed; a state that can be read.
-/
namespace Go.Proofs.YtakbmbiebkgkiaaGreatDoor
open Go.RowKit
open Go.Proofs
open WoolBag
open WoolVol

set_option maxRecDepth 100000 in
set_option maxHeartbeats 2000000 in
theorem do_any (v : Value) (st : Sta) (o : Opn) (w : World) (h : Stat w v st) (hwf : WfS st) (ho : OpWf o) : Calls Tryz.prog 5 #[v, opA o] w (StEPost w (doO FP st o)) := by
  have HCK := Lib.hid (fun W => checkO_any o W ho)
  have HMK := Lib.hid (fun W (hW : Up w W) => make_own v st o.nm o.pl W (h.up hW) hwf ho.2.1)
  have HDR := Lib.hid (fun W (hW : Up w W) => vdrop_own v st o.nm W (h.up hW) hwf)
  have HWR := Lib.hid (fun W (hW : Up w W) => write_any v st o.nm o.tx o.pl W (h.up hW) hwf)
  have HTR := Lib.hid (fun W (hW : Up w W) => trim_any v st o.nm o.pl W (h.up hW) hwf)
  have HCL := Lib.hid (fun W (hW : Up w W) => vclone_own v st o.nm o.to W (h.up hW) hwf ho.2.2.1)
  unfold StEPost at *
  obtain ⟨vb, vv, rfl, hb, hv⟩ := h
  obtain ⟨oB, cB, rfl, _⟩ := hb.slice
  obtain ⟨oV, cV, rfl, _, _⟩ := hv.slice
  clear hb hv ho hwf
  generalize st.b.length = M at *
  generalize st.v.length = N at *
  obtain ⟨RS, hRS⟩ : ∃ RS, doO FP st o = RS := ⟨_, rfl⟩
  rw [hRS]
  have HRS := Lib.hid hRS
  clear hRS
  unfold opA at *
  obtain ⟨kd, nm, ot, pl, tx⟩ := o
  simp only at *
  have HA : Hid (RowC ((((w.alloc (.cells #[.slice oB M cB, .slice oV N cV] 25)).alloc (.cells #[.int .i64 kd, .string (bs nm), .string (bs ot), .int .i64 pl, .string (bs tx)] 27))).alloc (.cells #[.slice none 0 0, .slice none 0 0] 25)) w.heap.size 25 [.slice oB M cB, .slice oV N cV]) := RowC.up (heap_alloc_new w _) ((Up.alloc _ _).trans (Up.alloc _ _))
  have HO : Hid (RowC ((((w.alloc (.cells #[.slice oB M cB, .slice oV N cV] 25)).alloc (.cells #[.int .i64 kd, .string (bs nm), .string (bs ot), .int .i64 pl, .string (bs tx)] 27))).alloc (.cells #[.slice none 0 0, .slice none 0 0] 25)) (w.heap.size + 1) 27 [.int .i64 kd, .string (bs nm), .string (bs ot), .int .i64 pl, .string (bs tx)]) := RowC.up (rowN_at [.int .i64 kd, .string (bs nm), .string (bs ot), .int .i64 pl, .string (bs tx)] _ (by simp)) (Up.alloc _ _)
  have HR : Hid (RowC ((((w.alloc (.cells #[.slice oB M cB, .slice oV N cV] 25)).alloc (.cells #[.int .i64 kd, .string (bs nm), .string (bs ot), .int .i64 pl, .string (bs tx)] 27))).alloc (.cells #[.slice none 0 0, .slice none 0 0] 25)) (w.heap.size + 1 + 1) 25 [.slice none 0 0, .slice none 0 0]) := rowN_at [.slice none 0 0, .slice none 0 0] _ (by simp)
  have HW0 : Hid (Up w ((((w.alloc (.cells #[.slice oB M cB, .slice oV N cV] 25)).alloc (.cells #[.int .i64 kd, .string (bs nm), .string (bs ot), .int .i64 pl, .string (bs tx)] 27))).alloc (.cells #[.slice none 0 0, .slice none 0 0] 25))) := ((Up.alloc _ _).trans (Up.alloc _ _)).trans (Up.alloc _ _)
  go_enter Tryz.func5, Tryz.ntmps5
  go_upto_region 1 with (fail)
  generalize (((w.alloc (.cells #[.slice oB M cB, .slice oV N cV] 25)).alloc (.cells #[.int .i64 kd, .string (bs nm), .string (bs ot), .int .i64 pl, .string (bs tx)] 27))).alloc (.cells #[.slice none 0 0, .slice none 0 0] 25) = W0 at HA HO HR HW0 ⊢
  have q0 := HO.out.cell (j := 0) rfl
  have q1 := HO.out.cell (j := 1) rfl
  have q2 := HO.out.cell (j := 2) rfl
  have q3 := HO.out.cell (j := 3) rfl
  have q4 := HO.out.cell (j := 4) rfl
  go_wp2_with fail
  refine (HCK.out _).mono ?_
  rintro e w1 ⟨rfl, u1⟩
  have HA1 := Lib.hid (HA.out.up u1)
  have HO1 := Lib.hid (HO.out.up u1)
  have HR1 := Lib.hid (HR.out.up u1)
  have HW1 := Lib.hid (HW0.out.trans u1)
  have r0 := HR1.out.frozen 0
  have r1 := HR1.out.frozen 1
  have r2 := HR1.out.cell (j := 0) rfl
  have r3 := HR1.out.cell (j := 1) rfl
  have a0 := HA1.out.cell (j := 0) rfl
  have a1 := HA1.out.cell (j := 1) rfl
  clear q0 q1 q2 q3 q4 u1 HA HO HR
  have q0 := HO1.out.cell (j := 0) rfl
  have q1 := HO1.out.cell (j := 1) rfl
  have q2 := HO1.out.cell (j := 2) rfl
  have q3 := HO1.out.cell (j := 3) rfl
  have q4 := HO1.out.cell (j := 4) rfl
  obtain ⟨C, hC⟩ : ∃ C, chkO ⟨kd, nm, ot, pl, tx⟩ = C := ⟨_, rfl⟩
  rw [hC]
  have HRX := Lib.hid (HR1.out)
  by_cases hc : C = 0
  · subst hc
    have HE := Lib.hid (show doK FP st ⟨kd, nm, ot, pl, tx⟩ = RS by rw [← HRS.out]; unfold doO; rw [if_neg (by simp [hC])])
    have hkd := chkO_kd hC
    simp only at hkd
    clear hC HRS
    by_cases h1 : kd = 1
    · subst h1
      have hE : RS = make FP st nm pl := by rw [← HE.out]; rfl
      clear HE hkd HDR HWR HTR HCL
      go_wp2_with fail
      refine (HMK.out _ HW1.out).mono ?_
      rintro e w4 ⟨v4, rfl, ho4, u4⟩
      rw [← hE] at ho4 ⊢
      obtain ⟨o3, c3, o4, c4, hv4⟩ := ho4.stat.shape
      subst hv4
      obtain ⟨n3, hn3⟩ : ∃ n3, RS.1.b.length = n3 := ⟨_, rfl⟩
      obtain ⟨n4, hn4⟩ : ∃ n4, RS.1.v.length = n4 := ⟨_, rfl⟩
      rw [hn3, hn4] at ho4 ⊢
      have HR4 := Lib.hid (HRX.out.up u4)
      have HO4 := Lib.hid (ho4.boxed HR4.out)
      have HU4 := Lib.hid (up2 (x := .slice o3 n3 c3) (y := .slice o4 n4 c4) (HW1.out.trans u4) (show w.heap.size ≤ w.heap.size + 1 + 1 by omega))
      clear r0 r1 r2 r3 a0 a1 q0 q1 q2 q3 q4 ho4 u4 hn3 hn4 hE
      have r0 := HR4.out.frozen 0
      have r1 := HR4.out.frozen 1
      have r2 := HR4.out.cell (j := 0) rfl
      have r3 := HR4.out.cell (j := 1) rfl
      go_wp2_with fail
      have hz := (HR4.out.set 0 (.slice o3 n3 c3)).set 1 (.slice o4 n4 c4)
      have z0 := hz.cell (j := 0) rfl
      have z1 := hz.cell (j := 1) rfl
      generalize (w4.setCell ⟨w.heap.size + 1 + 1, 0, none⟩ (.slice o3 n3 c3)).setCell ⟨w.heap.size + 1 + 1, 1, none⟩ (.slice o4 n4 c4) = WZ at z0 z1 HO4 HU4 ⊢
      exact bodyPost_ret (v := .tuple #[.agg #[.slice o3 n3 c3, .slice o4 n4 c4], .int .i64 RS.2]) (by simp [results, Tryz.results5, go_sem, z0, z1]) rfl ⟨_, rfl, HO4.out.base HW1.out.size, HU4.out⟩
    have d1 : (kd == 1) = false := by rw [beq_eq_false_iff_ne]; exact h1
    by_cases h2 : kd = 2
    · subst h2
      have hE : RS = vdrop FP st nm := by rw [← HE.out]; rfl
      clear HE hkd HMK HWR HTR HCL
      go_wp2_with fail
      refine (HDR.out _ HW1.out).mono ?_
      rintro e w4 ⟨v4, rfl, ho4, u4⟩
      rw [← hE] at ho4 ⊢
      obtain ⟨o3, c3, o4, c4, hv4⟩ := ho4.stat.shape
      subst hv4
      obtain ⟨n3, hn3⟩ : ∃ n3, RS.1.b.length = n3 := ⟨_, rfl⟩
      obtain ⟨n4, hn4⟩ : ∃ n4, RS.1.v.length = n4 := ⟨_, rfl⟩
      rw [hn3, hn4] at ho4 ⊢
      have HR4 := Lib.hid (HRX.out.up u4)
      have HO4 := Lib.hid (ho4.boxed HR4.out)
      have HU4 := Lib.hid (up2 (x := .slice o3 n3 c3) (y := .slice o4 n4 c4) (HW1.out.trans u4) (show w.heap.size ≤ w.heap.size + 1 + 1 by omega))
      clear r0 r1 r2 r3 a0 a1 q0 q1 q2 q3 q4 ho4 u4 hn3 hn4 hE
      have r0 := HR4.out.frozen 0
      have r1 := HR4.out.frozen 1
      have r2 := HR4.out.cell (j := 0) rfl
      have r3 := HR4.out.cell (j := 1) rfl
      go_wp2_with fail
      have hz := (HR4.out.set 0 (.slice o3 n3 c3)).set 1 (.slice o4 n4 c4)
      have z0 := hz.cell (j := 0) rfl
      have z1 := hz.cell (j := 1) rfl
      generalize (w4.setCell ⟨w.heap.size + 1 + 1, 0, none⟩ (.slice o3 n3 c3)).setCell ⟨w.heap.size + 1 + 1, 1, none⟩ (.slice o4 n4 c4) = WZ at z0 z1 HO4 HU4 ⊢
      exact bodyPost_ret (v := .tuple #[.agg #[.slice o3 n3 c3, .slice o4 n4 c4], .int .i64 RS.2]) (by simp [results, Tryz.results5, go_sem, z0, z1]) rfl ⟨_, rfl, HO4.out.base HW1.out.size, HU4.out⟩
    have d2 : (kd == 2) = false := by rw [beq_eq_false_iff_ne]; exact h2
    by_cases h3 : kd = 3
    · subst h3
      have hE : RS = write FP st nm pl tx := by rw [← HE.out]; rfl
      clear HE hkd HMK HDR HTR HCL
      go_wp2_with fail
      refine (HWR.out _ HW1.out).mono ?_
      rintro e w4 ⟨v4, rfl, ho4, u4⟩
      rw [← hE] at ho4 ⊢
      obtain ⟨o3, c3, o4, c4, hv4⟩ := ho4.stat.shape
      subst hv4
      obtain ⟨n3, hn3⟩ : ∃ n3, RS.1.b.length = n3 := ⟨_, rfl⟩
      obtain ⟨n4, hn4⟩ : ∃ n4, RS.1.v.length = n4 := ⟨_, rfl⟩
      rw [hn3, hn4] at ho4 ⊢
      have HR4 := Lib.hid (HRX.out.up u4)
      have HO4 := Lib.hid (ho4.boxed HR4.out)
      have HU4 := Lib.hid (up2 (x := .slice o3 n3 c3) (y := .slice o4 n4 c4) (HW1.out.trans u4) (show w.heap.size ≤ w.heap.size + 1 + 1 by omega))
      clear r0 r1 r2 r3 a0 a1 q0 q1 q2 q3 q4 ho4 u4 hn3 hn4 hE
      have r0 := HR4.out.frozen 0
      have r1 := HR4.out.frozen 1
      have r2 := HR4.out.cell (j := 0) rfl
      have r3 := HR4.out.cell (j := 1) rfl
      go_wp2_with fail
      have hz := (HR4.out.set 0 (.slice o3 n3 c3)).set 1 (.slice o4 n4 c4)
      have z0 := hz.cell (j := 0) rfl
      have z1 := hz.cell (j := 1) rfl
      generalize (w4.setCell ⟨w.heap.size + 1 + 1, 0, none⟩ (.slice o3 n3 c3)).setCell ⟨w.heap.size + 1 + 1, 1, none⟩ (.slice o4 n4 c4) = WZ at z0 z1 HO4 HU4 ⊢
      exact bodyPost_ret (v := .tuple #[.agg #[.slice o3 n3 c3, .slice o4 n4 c4], .int .i64 RS.2]) (by simp [results, Tryz.results5, go_sem, z0, z1]) rfl ⟨_, rfl, HO4.out.base HW1.out.size, HU4.out⟩
    have d3 : (kd == 3) = false := by rw [beq_eq_false_iff_ne]; exact h3
    by_cases h4 : kd = 4
    · subst h4
      have hE : RS = trim FP st nm pl := by rw [← HE.out]; rfl
      clear HE hkd HMK HDR HWR HCL
      go_wp2_with fail
      refine (HTR.out _ HW1.out).mono ?_
      rintro e w4 ⟨v4, rfl, ho4, u4⟩
      rw [← hE] at ho4 ⊢
      obtain ⟨o3, c3, o4, c4, hv4⟩ := ho4.stat.shape
      subst hv4
      obtain ⟨n3, hn3⟩ : ∃ n3, RS.1.b.length = n3 := ⟨_, rfl⟩
      obtain ⟨n4, hn4⟩ : ∃ n4, RS.1.v.length = n4 := ⟨_, rfl⟩
      rw [hn3, hn4] at ho4 ⊢
      have HR4 := Lib.hid (HRX.out.up u4)
      have HO4 := Lib.hid (ho4.boxed HR4.out)
      have HU4 := Lib.hid (up2 (x := .slice o3 n3 c3) (y := .slice o4 n4 c4) (HW1.out.trans u4) (show w.heap.size ≤ w.heap.size + 1 + 1 by omega))
      clear r0 r1 r2 r3 a0 a1 q0 q1 q2 q3 q4 ho4 u4 hn3 hn4 hE
      have r0 := HR4.out.frozen 0
      have r1 := HR4.out.frozen 1
      have r2 := HR4.out.cell (j := 0) rfl
      have r3 := HR4.out.cell (j := 1) rfl
      go_wp2_with fail
      have hz := (HR4.out.set 0 (.slice o3 n3 c3)).set 1 (.slice o4 n4 c4)
      have z0 := hz.cell (j := 0) rfl
      have z1 := hz.cell (j := 1) rfl
      generalize (w4.setCell ⟨w.heap.size + 1 + 1, 0, none⟩ (.slice o3 n3 c3)).setCell ⟨w.heap.size + 1 + 1, 1, none⟩ (.slice o4 n4 c4) = WZ at z0 z1 HO4 HU4 ⊢
      exact bodyPost_ret (v := .tuple #[.agg #[.slice o3 n3 c3, .slice o4 n4 c4], .int .i64 RS.2]) (by simp [results, Tryz.results5, go_sem, z0, z1]) rfl ⟨_, rfl, HO4.out.base HW1.out.size, HU4.out⟩
    have d4 : (kd == 4) = false := by rw [beq_eq_false_iff_ne]; exact h4
    by_cases h5 : kd = 5
    · subst h5
      have hE : RS = clone FP st nm ot := by rw [← HE.out]; rfl
      clear HE hkd HMK HDR HWR HTR
      go_wp2_with fail
      refine (HCL.out _ HW1.out).mono ?_
      rintro e w4 ⟨v4, rfl, ho4, u4⟩
      rw [← hE] at ho4 ⊢
      obtain ⟨o3, c3, o4, c4, hv4⟩ := ho4.stat.shape
      subst hv4
      obtain ⟨n3, hn3⟩ : ∃ n3, RS.1.b.length = n3 := ⟨_, rfl⟩
      obtain ⟨n4, hn4⟩ : ∃ n4, RS.1.v.length = n4 := ⟨_, rfl⟩
      rw [hn3, hn4] at ho4 ⊢
      have HR4 := Lib.hid (HRX.out.up u4)
      have HO4 := Lib.hid (ho4.boxed HR4.out)
      have HU4 := Lib.hid (up2 (x := .slice o3 n3 c3) (y := .slice o4 n4 c4) (HW1.out.trans u4) (show w.heap.size ≤ w.heap.size + 1 + 1 by omega))
      clear r0 r1 r2 r3 a0 a1 q0 q1 q2 q3 q4 ho4 u4 hn3 hn4 hE
      have r0 := HR4.out.frozen 0
      have r1 := HR4.out.frozen 1
      have r2 := HR4.out.cell (j := 0) rfl
      have r3 := HR4.out.cell (j := 1) rfl
      go_wp2_with fail
      have hz := (HR4.out.set 0 (.slice o3 n3 c3)).set 1 (.slice o4 n4 c4)
      have z0 := hz.cell (j := 0) rfl
      have z1 := hz.cell (j := 1) rfl
      generalize (w4.setCell ⟨w.heap.size + 1 + 1, 0, none⟩ (.slice o3 n3 c3)).setCell ⟨w.heap.size + 1 + 1, 1, none⟩ (.slice o4 n4 c4) = WZ at z0 z1 HO4 HU4 ⊢
      exact bodyPost_ret (v := .tuple #[.agg #[.slice o3 n3 c3, .slice o4 n4 c4], .int .i64 RS.2]) (by simp [results, Tryz.results5, go_sem, z0, z1]) rfl ⟨_, rfl, HO4.out.base HW1.out.size, HU4.out⟩
    have d5 : (kd == 5) = false := by rw [beq_eq_false_iff_ne]; exact h5
    omega
  · have hcz : (C == 0) = false := by rw [beq_eq_false_iff_ne]; exact hc
    have HE := Lib.hid (show (zeroS, C) = RS by rw [← HRS.out]; unfold doO; rw [if_pos (by rw [hC]; exact hc), hC])
    clear hC HRS hc
    go_wp2_with fail
    have hz := (HRX.out.set 0 (.slice none 0 0)).set 1 (.slice none 0 0)
    have z0 := hz.cell (j := 0) rfl
    have z1 := hz.cell (j := 1) rfl
    have HU4 := Lib.hid (up2 (x := .slice none 0 0) (y := .slice none 0 0) HW1.out (show w.heap.size ≤ w.heap.size + 1 + 1 by omega))
    generalize (w1.setCell ⟨w.heap.size + 1 + 1, 0, none⟩ (.slice none 0 0)).setCell ⟨w.heap.size + 1 + 1, 1, none⟩ (.slice none 0 0) = WZ at z0 z1 HU4 ⊢
    exact bodyPost_ret (v := .tuple #[.agg #[.slice none 0 0, .slice none 0 0], .int .i64 C]) (by simp [results, Tryz.results5, go_sem, z0, z1]) rfl ⟨_, by rw [← HE.out], by rw [← HE.out]; exact OSt.zero _ _, HU4.out⟩

end Go.Proofs.YtakbmbiebkgkiaaGreatDoor

/-
  What Join and Roll of package print return at wrong arguments, and what Roll returns at right ones. Conditions: the arguments are ints.
-/
namespace Go.Proofs.YtakbmbiebkgkiaaGreatDoor
open Go.RowKit
open Go.Proofs

set_option maxRecDepth 100000 in
theorem join_mod (m a b n : Int) (w : World) (h : m < 2 ∨ 2147483647 < m) :
    Calls Tryz.prog 114 #[.int .i64 m, .int .i64 a, .int .i64 b, .int .i64 n] w fun e w' => e = .returned (.tuple #[.int .i64 0, .int .i64 1]) ∧ w = w' := by
  have H := Lib.hid h
  clear h
  go_enter Tryz.func114, Tryz.ntmps114
  go_wp2_with (go_at_call 155; refine (mod_bad _ _ H.out).mono ?_; rintro e w' ⟨rfl, rfl⟩)
  go_ret2
  exact ⟨rfl, rfl⟩

set_option maxRecDepth 100000 in
theorem join_arg (M : Nat) (a b n : Int) (w : World) (h0 : 2 ≤ M) (h1 : M ≤ 2147483647) (h : ¬ (isRest a M ∧ isRest b M ∧ 0 ≤ n ∧ n ≤ 600)) :
    Calls Tryz.prog 114 #[.int .i64 (M : Int), .int .i64 a, .int .i64 b, .int .i64 n] w fun e w' => e = .returned (.tuple #[.int .i64 0, .int .i64 1]) ∧ w = w' := by
  by_cases ha : isRest a M
  · have HA := Lib.hid ha
    by_cases hb : isRest b M
    · have HB := Lib.hid hb
      have hn : n < 0 ∨ 600 < n := by
        apply Classical.byContradiction
        intro hc
        exact h ⟨ha, hb, by omega, by omega⟩
      clear ha hb h
      by_cases hn0 : n < 0
      · have d1 : decide (n < 0) = true := by rw [decide_eq_true_iff]; omega
        clear hn
        go_enter Tryz.func114, Tryz.ntmps114
        go_wp2_with fail
        refine (mod_ok _ _ (by omega) (by omega)).mono ?_
        rintro e w' ⟨rfl, rfl⟩
        go_wp2_with fail
        refine (reduced_yes _ M _ h0 h1 HA.out).mono ?_
        rintro e w' ⟨rfl, rfl⟩
        go_wp2_with fail
        refine (reduced_yes _ M _ h0 h1 HB.out).mono ?_
        rintro e w' ⟨rfl, rfl⟩
        go_wp2_with fail
        go_ret2
        exact ⟨rfl, rfl⟩
      · have d1 : decide (n < 0) = false := by rw [decide_eq_false_iff_not]; omega
        have d2 : decide (600 < n) = true := by rw [decide_eq_true_iff]; omega
        clear hn
        go_enter Tryz.func114, Tryz.ntmps114
        go_wp2_with fail
        refine (mod_ok _ _ (by omega) (by omega)).mono ?_
        rintro e w' ⟨rfl, rfl⟩
        go_wp2_with fail
        refine (reduced_yes _ M _ h0 h1 HA.out).mono ?_
        rintro e w' ⟨rfl, rfl⟩
        go_wp2_with fail
        refine (reduced_yes _ M _ h0 h1 HB.out).mono ?_
        rintro e w' ⟨rfl, rfl⟩
        go_wp2_with fail
        go_ret2
        exact ⟨rfl, rfl⟩
    · have HB := Lib.hid hb
      clear ha hb h
      go_enter Tryz.func114, Tryz.ntmps114
      go_wp2_with fail
      refine (mod_ok _ _ (by omega) (by omega)).mono ?_
      rintro e w' ⟨rfl, rfl⟩
      go_wp2_with fail
      refine (reduced_yes _ M _ h0 h1 HA.out).mono ?_
      rintro e w' ⟨rfl, rfl⟩
      go_wp2_with fail
      refine (reduced_no _ M _ h0 h1 HB.out).mono ?_
      rintro e w' ⟨rfl, rfl⟩
      go_wp2_with fail
      go_ret2
      exact ⟨rfl, rfl⟩
  · have HA := Lib.hid ha
    clear ha h
    go_enter Tryz.func114, Tryz.ntmps114
    go_wp2_with fail
    refine (mod_ok _ _ (by omega) (by omega)).mono ?_
    rintro e w' ⟨rfl, rfl⟩
    go_wp2_with fail
    refine (reduced_no _ M _ h0 h1 HA.out).mono ?_
    rintro e w' ⟨rfl, rfl⟩
    go_wp2_with fail
    go_ret2
    exact ⟨rfl, rfl⟩

/-- what Roll answers -/
def restV (M P X N : Nat) : Nat := P ^^^ WoolMath.pmod (WoolMath.pw 256 N) M ^^^ WoolMath.pmod (WoolMath.mul X (WoolMath.pmod (WoolMath.pw 256 (N - 1)) M)) M
def rollV (M P X Y N : Nat) : Nat := WoolMath.pmod (WoolMath.mul (restV M P X N) 256) M ^^^ WoolMath.pmod Y M ^^^ WoolMath.pmod (WoolMath.pw 256 N) M

theorem xor30 (a b : Nat) (ha : a < 1073741824) (hb : b < 1073741824) : a ^^^ b < 1073741824 := Nat.xor_lt_two_pow (n := 30) ha hb

end Go.Proofs.YtakbmbiebkgkiaaGreatDoor

/-
  Plain mathematics of fingerprints: of two texts behind one another, of a window that moves on, of three texts added, of a text with some bits turned. No condition but those that each says.
-/
namespace Go.Proofs.YtakbmbiebkgkiaaGreatDoor
open Go.RowKit
open Go.Proofs

theorem snoc_ind {α : Type} {P : List α → Prop} (h0 : P []) (hs : ∀ l a, P l → P (l ++ [a])) : ∀ l, P l := by
  intro l
  have : ∀ k : List α, P k.reverse := by
    intro k
    induction k with
    | nil => exact h0
    | cons a k ih => rw [List.reverse_cons]; exact hs _ _ ih
  have := this l.reverse
  rwa [List.reverse_reverse] at this

theorem sp_append (l k : List UInt8) : sp (l ++ k) = WoolMath.mul (sp l) (WoolMath.pw 256 k.length) ^^^ (sp k ^^^ WoolMath.pw 256 k.length) := by
  revert k
  refine snoc_ind ?_ ?_
  · rw [List.append_nil, sp_nil, List.length_nil, WoolMath.pw_zero, WoolMath.mul_one, Nat.xor_self, Nat.xor_zero]
  · intro k c ih
    rw [← List.append_assoc, sp_snoc, ih, sp_snoc, List.length_append, List.length_singleton, WoolMath.pw_succ, WoolMath.xor_mul, WoolMath.xor_mul, WoolMath.mul_assoc]
    generalize WoolMath.mul (sp l) (WoolMath.mul (WoolMath.pw 256 k.length) 256) = X
    generalize WoolMath.mul (WoolMath.pw 256 k.length) 256 = Y
    generalize WoolMath.mul (sp k) 256 = Z
    rw [Nat.xor_assoc, Nat.xor_assoc, Nat.xor_assoc, Nat.xor_comm Y]

theorem fp_join (M : Nat) (h : 2 ≤ M) (l k : List UInt8) : fp M (l ++ k) = joinV M (fp M l) (fp M k) k.length := by
  unfold joinV fp
  have hm : M ≠ 0 := by omega
  rw [sp_append, WoolMath.pmod_xor _ _ _ hm, WoolMath.pmod_xor _ _ _ hm, WoolMath.pmod_mul_right _ _ _ hm, WoolMath.pmod_mul_left _ _ _ hm, Nat.xor_assoc]

theorem sp_one (c : UInt8) : sp [c] = 256 ^^^ c.toNat := by
  show WoolMath.mul 1 256 ^^^ c.toNat = _
  rw [WoolMath.one_mul]

theorem fp_roll (M : Nat) (h : 2 ≤ M) (c d : UInt8) (l : List UInt8) : fp M (l ++ [d]) = rollV M (fp M (c :: l)) c.toNat d.toNat (l.length + 1) := by
  have hm : M ≠ 0 := by omega
  have e1 : sp (c :: l) = WoolMath.mul (256 ^^^ c.toNat) (WoolMath.pw 256 l.length) ^^^ (sp l ^^^ WoolMath.pw 256 l.length) := by
    have := sp_append [c] l
    rwa [sp_one] at this
  have e2 : restV M (fp M (c :: l)) c.toNat (l.length + 1) = WoolMath.pmod (sp l ^^^ WoolMath.pw 256 l.length) M := by
    unfold restV fp
    rw [Nat.add_sub_cancel, WoolMath.pmod_mul_right _ _ _ hm, e1, ← WoolMath.pmod_xor _ _ _ hm, ← WoolMath.pmod_xor _ _ _ hm, WoolMath.pw_succ, WoolMath.xor_mul, WoolMath.mul_comm 256]
    congr 1
    generalize WoolMath.mul (WoolMath.pw 256 l.length) 256 = X
    generalize WoolMath.mul c.toNat (WoolMath.pw 256 l.length) = Y
    generalize sp l ^^^ WoolMath.pw 256 l.length = Z
    apply Nat.eq_of_testBit_eq
    intro i
    simp only [Nat.testBit_xor]
    cases X.testBit i <;> cases Y.testBit i <;> cases Z.testBit i <;> rfl
  unfold rollV
  rw [e2, WoolMath.pmod_mul_left _ _ _ hm, ← WoolMath.pmod_xor _ _ _ hm, ← WoolMath.pmod_xor _ _ _ hm, WoolMath.pw_succ, WoolMath.xor_mul]
  unfold fp
  rw [sp_snoc]
  congr 1
  generalize WoolMath.mul (WoolMath.pw 256 l.length) 256 = X
  generalize WoolMath.mul (sp l) 256 = Y
  generalize d.toNat = Z
  apply Nat.eq_of_testBit_eq
  intro i
  simp only [Nat.testBit_xor]
  cases X.testBit i <;> cases Y.testBit i <;> cases Z.testBit i <;> rfl

/-- three texts, added -/
def xor3 : List UInt8 → List UInt8 → List UInt8 → List UInt8
  | a :: l, b :: k, c :: j => (a ^^^ b ^^^ c) :: xor3 l k j
  | _, _, _ => []

theorem xor3_length : ∀ (l k j : List UInt8), k.length = l.length → j.length = l.length → (xor3 l k j).length = l.length
  | [], [], [], _, _ => rfl
  | a :: l, b :: k, c :: j, h1, h2 => by
    simp only [List.length_cons, Nat.add_right_cancel_iff] at h1 h2
    simp only [xor3, List.length_cons, xor3_length l k j h1 h2]
  | [], _ :: _, _, h, _ => by simp at h
  | _ :: _, [], _, h, _ => by simp at h
  | [], [], _ :: _, _, h => by simp at h
  | _ :: _, _ :: _, [], _, h => by simp at h

theorem xor3_snoc : ∀ (l k j : List UInt8) (a b c : UInt8), k.length = l.length → j.length = l.length → xor3 (l ++ [a]) (k ++ [b]) (j ++ [c]) = xor3 l k j ++ [a ^^^ b ^^^ c]
  | [], [], [], _, _, _, _, _ => rfl
  | x :: l, y :: k, z :: j, a, b, c, h1, h2 => by
    simp only [List.length_cons, Nat.add_right_cancel_iff] at h1 h2
    simp only [List.cons_append, xor3, xor3_snoc l k j a b c h1 h2]
  | [], _ :: _, _, _, _, _, h, _ => by simp at h
  | _ :: _, [], _, _, _, _, h, _ => by simp at h
  | [], [], _ :: _, _, _, _, _, h => by simp at h
  | _ :: _, _ :: _, [], _, _, _, _, h => by simp at h

theorem sp_cons (a : UInt8) (l : List UInt8) : sp (a :: l) = WoolMath.mul (256 ^^^ a.toNat) (WoolMath.pw 256 l.length) ^^^ (sp l ^^^ WoolMath.pw 256 l.length) := by
  have := sp_append [a] l
  rwa [sp_one] at this

theorem sp_linear : ∀ (l k j : List UInt8), k.length = l.length → j.length = l.length → sp (xor3 l k j) = sp l ^^^ sp k ^^^ sp j
  | [], [], [], _, _ => by decide
  | a :: l, b :: k, c :: j, h1, h2 => by
    simp only [List.length_cons, Nat.add_right_cancel_iff] at h1 h2
    have ih := sp_linear l k j h1 h2
    have hl := xor3_length l k j h1 h2
    rw [show xor3 (a :: l) (b :: k) (c :: j) = (a ^^^ b ^^^ c) :: xor3 l k j from rfl, sp_cons, sp_cons, sp_cons, sp_cons, hl, ih, h1, h2, UInt8.toNat_xor, UInt8.toNat_xor]
    simp only [WoolMath.xor_mul]
    generalize WoolMath.mul 256 (WoolMath.pw 256 l.length) = X
    generalize WoolMath.mul a.toNat (WoolMath.pw 256 l.length) = A
    generalize WoolMath.mul b.toNat (WoolMath.pw 256 l.length) = B
    generalize WoolMath.mul c.toNat (WoolMath.pw 256 l.length) = C
    generalize WoolMath.pw 256 l.length = T
    generalize sp l = U
    generalize sp k = V
    generalize sp j = W
    apply Nat.eq_of_testBit_eq
    intro i
    simp only [Nat.testBit_xor]
    generalize X.testBit i = x
    generalize A.testBit i = a
    generalize B.testBit i = b
    generalize C.testBit i = c
    generalize T.testBit i = t
    generalize U.testBit i = u
    generalize V.testBit i = v
    generalize W.testBit i = w
    revert x a b c t u v w
    decide
  | [], _ :: _, _, h, _ => by simp at h
  | _ :: _, [], _, h, _ => by simp at h
  | [], [], _ :: _, _, h => by simp at h
  | _ :: _, _ :: _, [], _, h => by simp at h

theorem fp_linear (M : Nat) (h : 2 ≤ M) (l k j : List UInt8) (h1 : k.length = l.length) (h2 : j.length = l.length) : fp M (xor3 l k j) = fp M l ^^^ fp M k ^^^ fp M j := by
  unfold fp
  rw [sp_linear l k j h1 h2, WoolMath.pmod_xor _ _ _ (by omega), WoolMath.pmod_xor _ _ _ (by omega)]

theorem fp_parts (A B : Nat) (hA : A ≠ 0) (hB : B ≠ 0) (l : List UInt8) : WoolMath.pmod (fp (WoolMath.mul A B) l) A = fp A l := by
  unfold fp
  have hm : WoolMath.mul A B ≠ 0 := WoolMath.mul_ne A B hA hB
  obtain ⟨q, hq⟩ := WoolMath.pmod_eq (sp l) (WoolMath.mul A B)
  have e : sp l ^^^ WoolMath.pmod (sp l) (WoolMath.mul A B) = WoolMath.mul q (WoolMath.mul A B) := by
    generalize WoolMath.pmod (sp l) (WoolMath.mul A B) = r at *
    rw [hq, Nat.xor_assoc, Nat.xor_self, Nat.xor_zero]
  symm
  rw [WoolMath.pmod_eq_iff _ _ _ hA, e]
  exact WoolMath.dvd_mul_left _ (WoolMath.dvd_mul_self A B)

/-! ytakbmbiebkgkiaagreatdoor# bursts -/

theorem mul_mod2 (a b : Nat) : WoolMath.mul a b % 2 = a % 2 * (b % 2) := by
  rw [WoolMath.mul_step]
  have hx : ∀ x y : Nat, (x ^^^ (2 * y)) % 2 = x % 2 := by
    intro x y
    have := Nat.xor_mod_two_pow (a := x) (b := 2 * y) (n := 1)
    rw [Nat.pow_one] at this
    rw [this, show 2 * y % 2 = 0 by omega, Nat.xor_zero]
  rw [hx]
  by_cases h : b % 2 = 1
  · rw [if_pos h, h]; omega
  · have : b % 2 = 0 := by omega
    rw [if_neg h, this]; omega

theorem odd_cancel (M : Nat) (hM : M % 2 = 1) (k : Nat) : ∀ a : Nat, WoolMath.dvd M (a * 2 ^ k) → WoolMath.dvd M a := by
  induction k with
  | zero => intro a h; simpa using h
  | succ k ih =>
    intro a h
    rw [Nat.pow_succ, ← Nat.mul_assoc] at h
    apply ih
    obtain ⟨q, hq⟩ := h
    have h2 := mul_mod2 q M
    rw [← hq, hM] at h2
    have hq2 : q % 2 = 0 := by omega
    have e : q = 2 * (q / 2) := by omega
    rw [e, WoolMath.even_mul] at hq
    exact ⟨q / 2, by omega⟩

theorem burst_differ (M : Nat) (hM : M % 2 = 1) (h16 : 65536 ≤ M) (X T k : Nat) (hT0 : T ≠ 0) (hT : T < 65536) : WoolMath.pmod (X ^^^ (T * 2 ^ k)) M ≠ WoolMath.pmod X M := by
  intro h
  rw [WoolMath.pmod_eq_iff _ _ _ (by omega)] at h
  have e : X ^^^ T * 2 ^ k ^^^ X = T * 2 ^ k := by
    rw [Nat.xor_comm X, Nat.xor_assoc, Nat.xor_self, Nat.xor_zero]
  rw [e] at h
  have hd := odd_cancel M hM k T h
  have hlog : 16 ≤ M.log2 := (Nat.le_log2 (by omega)).2 (by omega)
  have : T < 2 ^ M.log2 := Nat.lt_of_lt_of_le (show T < 2 ^ 16 by omega) (Nat.pow_le_pow_right (by omega) hlog)
  exact WoolMath.not_dvd_small hT0 this hd

end Go.Proofs.YtakbmbiebkgkiaaGreatDoor
