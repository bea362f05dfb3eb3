/-
  What the reference's Do returns, for kind 1. Condition: a state that can be read.
-/
import Derived.Test.YtjklecglecpflaaGreatDoorRefVolB
import Derived.Test.YtjklecglecpflaaGreatDoorRefVolA
namespace Go.Proofs.YtjklecglecpflaaGreatDoor
open Go.RowKit
open Go.Proofs
open WoolBag
open WoolVol

set_option maxRecDepth 100000 in
set_option maxHeartbeats 2000000 in
theorem refDo1 (v : Value) (st : Sta) (s u t : List UInt8) (a : Int) (w : World) (h : Stat w v st) (hwf : WfS st) (hs : s.length ≤ 9223372036854775807) :
    Calls Tryz.prog 8 #[v, opV 1 s u a t] w (RdEPost w (make FP st s a)) := by
  have HST := Lib.hid h
  have HCK := Lib.hid (fun W (hW : Up w W) => refState_any v st W (h.up hW) hwf)
  have HVL := Lib.hid (fun W (hW : Up w W) => refVol_any v st s W (h.up hW))
  have HFR := Lib.hid (fun (h6 : st.v.length ≤ 6) W (hW : Up w W) => fresh_any v st s W (h.up hW) hs h6)
  have HWI := Lib.hid (fun (hl : st.v.Pairwise (fun a b => slt a.nm b.nm = true)) (hno : ∀ a ∈ st.v, a.nm ≠ s) (h6 : st.v.length ≤ 6) vd bl W (hW : Up w W) (hd : Ids W vd bl) => with_any v st s vd bl W (h.up hW) hd hl hno h6)
  unfold RdPost at HWI
  obtain ⟨vb, vv, rfl, hb, hv⟩ := h
  have HVV := Lib.hid hv
  obtain ⟨oB, cB, rfl, _⟩ := hb.slice
  obtain ⟨oV, cV, rfl, hV1, hV2⟩ := hv.slice
  unfold maxLen at hV2
  clear hb hv hwf
  obtain ⟨RS, hRS⟩ : ∃ RS, make FP st s a = RS := ⟨_, rfl⟩
  rw [hRS]
  have HRS := Lib.hid hRS
  clear hRS
  obtain ⟨N, hN⟩ : ∃ N, st.v.length = N := ⟨_, rfl⟩
  obtain ⟨M, hM⟩ : ∃ M, st.b.length = M := ⟨_, rfl⟩
  have HN := Lib.hid hN
  have HM := Lib.hid hM
  rw [hN, hM] at HST HCK HVL HFR HWI ⊢
  rw [hN] at HVV hV1
  clear hN hM
  obtain ⟨CK, hCK⟩ : ∃ CK, chkS FP st = CK := ⟨_, rfl⟩
  rw [hCK] at HCK
  have HC := Lib.hid hCK
  clear hCK
  unfold opV
  have HRA : Hid (RowC (((w.alloc (.cells #[.slice oB M cB, .slice oV N cV] 25)).alloc (.cells #[.int .i64 1, .string (bs s), .string (bs u), .int .i64 a, .string (bs t)] 33)).alloc (.cells #[.slice none 0 0, .slice none 0 0] 25)) w.heap.size 25 [.slice oB M cB, .slice oV N cV]) := RowC.up (rowN_at [.slice oB M cB, .slice oV N cV] 25 rfl) ((Up.alloc _ _).trans (Up.alloc _ _))
  have HRO : Hid (RowC (((w.alloc (.cells #[.slice oB M cB, .slice oV N cV] 25)).alloc (.cells #[.int .i64 1, .string (bs s), .string (bs u), .int .i64 a, .string (bs t)] 33)).alloc (.cells #[.slice none 0 0, .slice none 0 0] 25)) (w.heap.size + 1) 33 [.int .i64 1, .string (bs s), .string (bs u), .int .i64 a, .string (bs t)]) := RowC.up (rowN_at [.int .i64 1, .string (bs s), .string (bs u), .int .i64 a, .string (bs t)] 33 (by simp)) (Up.alloc _ _)
  have HRR : Hid (RowC (((w.alloc (.cells #[.slice oB M cB, .slice oV N cV] 25)).alloc (.cells #[.int .i64 1, .string (bs s), .string (bs u), .int .i64 a, .string (bs t)] 33)).alloc (.cells #[.slice none 0 0, .slice none 0 0] 25)) (w.heap.size + 1 + 1) 25 [.slice none 0 0, .slice none 0 0]) := rowN_at [.slice none 0 0, .slice none 0 0] 25 (by simp)
  have HW0 : Hid (Up w (((w.alloc (.cells #[.slice oB M cB, .slice oV N cV] 25)).alloc (.cells #[.int .i64 1, .string (bs s), .string (bs u), .int .i64 a, .string (bs t)] 33)).alloc (.cells #[.slice none 0 0, .slice none 0 0] 25))) := ((Up.alloc _ _).trans (Up.alloc _ _)).trans (Up.alloc _ _)
  go_enter Tryz.func8, Tryz.ntmps8
  go_upto_region 1 with (fail)
  generalize (((w.alloc (.cells #[.slice oB M cB, .slice oV N cV] 25)).alloc (.cells #[.int .i64 1, .string (bs s), .string (bs u), .int .i64 a, .string (bs t)] 33)).alloc (.cells #[.slice none 0 0, .slice none 0 0] 25)) = W0 at HRA HRO HRR HW0 ⊢
  have q0 := HRA.out.cell (j := 0) rfl
  have q1 := HRA.out.cell (j := 1) rfl
  go_wp2_with fail
  refine (HCK.out _ HW0.out).mono ?_
  rintro e w1 ⟨rfl, u1⟩
  have HRAw1 := Lib.hid (HRA.out.up u1)
  have HROw1 := Lib.hid (HRO.out.up u1)
  have HRw1 := Lib.hid (HRR.out.up u1)
  have HUw1 := Lib.hid (HW0.out.trans u1)
  clear u1 q0 q1 HRA HRO HRR HW0
  unfold make at HRS
  rw [HC.out] at HRS
  obtain ⟨NE, hNE⟩ : ∃ NE, newE st s = NE := ⟨_, rfl⟩
  rw [hNE] at HRS HFR
  have HNE0 := Lib.hid hNE
  clear hNE
  generalize ixV (fun t => t == s) st.v = IX at HVL
  by_cases h0 : CK = 0
  · subst h0
    have hgood := chkS_zero.1 HC.out
    have hN6 : N ≤ 6 := by rw [← HN.out]; exact hgood.len
    have HFR2 := Lib.hid (HFR.out hN6)
    have q0 := HRAw1.out.cell (j := 0) rfl
    have q1 := HRAw1.out.cell (j := 1) rfl
    have q2 := HROw1.out.cell (j := 1) rfl
    go_wp2_with fail
    refine (HVL.out _ HUw1.out).mono ?_
    rintro e w2 ⟨rfl, u2⟩
    have HRAw2 := Lib.hid (HRAw1.out.up u2)
    have HROw2 := Lib.hid (HROw1.out.up u2)
    have HRw2 := Lib.hid (HRw1.out.up u2)
    have HUw2 := Lib.hid (HUw1.out.trans u2)
    clear u2 q0 q1 q2
    have c0 := HROw2.out.cell (j := 0) rfl
    have c3 := HROw2.out.cell (j := 3) rfl
    by_cases hn : a < 1 ∨ 32 < a
    · have HRZ : Hid (RS = (zeroS, 1)) := by show _ = _; rw [← HRS.out, if_neg (by simp), if_pos hn]
      go_wp2_with fail
      refine (refWithin_no _ _ _ _ hn).mono ?_
      rintro e w3 ⟨rfl, rfl⟩
      clear hn
      have r0 := HRw2.out.frozen 0
      have r1 := HRw2.out.frozen 1
      have r2 := HRw2.out.cell (j := 0) rfl
      have r3 := HRw2.out.cell (j := 1) rfl
      go_wp2_with fail
      have hz := (HRw2.out.set 0 (.slice none 0 0)).set 1 (.slice none 0 0)
      have z0 := hz.cell (j := 0) rfl
      have z1 := hz.cell (j := 1) rfl
      have HUZ := Lib.hid (up2 (x := .slice none 0 0) (y := .slice none 0 0) HUw2.out (show w.heap.size ≤ w.heap.size + 1 + 1 by omega))
      generalize (w2.setCell ⟨w.heap.size + 1 + 1, 0, none⟩ (.slice none 0 0)).setCell ⟨w.heap.size + 1 + 1, 1, none⟩ (.slice none 0 0) = WZ at z0 z1 HUZ ⊢
      exact bodyPost_ret (v := .tuple #[zeroV, .int .i64 1]) (by simp [results, Tryz.results8, go_sem, z0, z1, zeroV]) rfl ⟨_, by rw [HRZ.out], by rw [HRZ.out]; exact Stat.zero _, HUZ.out⟩
    · obtain ⟨q, rfl⟩ : ∃ q : Nat, a = (q : Int) := ⟨a.toNat, by omega⟩
      have hq1 : 1 ≤ q := by omega
      have hq2 : q ≤ 32 := by omega
      go_wp2_with fail
      refine (refWithin_yes _ _ _ _ (by omega) (by omega)).mono ?_
      rintro e w3 ⟨rfl, rfl⟩
      have q0 := HRAw2.out.cell (j := 0) rfl
      have q1 := HRAw2.out.cell (j := 1) rfl
      have q2 := HROw2.out.cell (j := 1) rfl
      go_wp2_with fail
      refine (HFR2.out _ HUw2.out).mono ?_
      rintro e w3 ⟨rfl, u3⟩
      have HRAw3 := Lib.hid (HRAw2.out.up u3)
      have HROw3 := Lib.hid (HROw2.out.up u3)
      have HRw3 := Lib.hid (HRw2.out.up u3)
      have HUw3 := Lib.hid (HUw2.out.trans u3)
      clear u3 q0 q1 q2 c0 c3
      by_cases hE : NE = 0
      · subst hE
        obtain ⟨hnm, hno, h6⟩ := newE_zero HNE0.out
        have HRZ : Hid (RS = (⟨st.b, vins ⟨s, List.replicate q noId⟩ st.v⟩, 0)) := by show _ = _; rw [← HRS.out, if_neg (by simp), if_neg hn, if_neg (by simp), Int.toNat_natCast]
        have HWI2 := Lib.hid (HWI.out hgood.ord hno (by first | exact hN6 | exact hgood.len))
        have hmk := fun W => run_holes q hq2 W
        have HMO := Lib.hid (fun W => holes_own q hq2 W 0 (Nat.zero_le _))
        have q0 := HRAw3.out.cell (j := 0) rfl
        have q1 := HRAw3.out.cell (j := 1) rfl
        have q2 := HROw3.out.cell (j := 1) rfl
        have q3 := HROw3.out.cell (j := 3) rfl
        have hne1 : w.heap.size + 1 + 1 ≠ w.heap.size := by omega
        have hne2 : w.heap.size + 1 + 1 ≠ w.heap.size + 1 := by omega
        clear hgood hnm hno h6 hn
        go_wp2_with fail
        go_region_held3 (fun U => U.cell? ⟨w.heap.size, 0, none⟩ = some (.slice oB M cB) ∧ U.cell? ⟨w.heap.size, 1, none⟩ = some (.slice oV N cV) ∧ U.cell? ⟨w.heap.size + 1, 1, none⟩ = some (.string (bs s)) ∧ U.cell? ⟨w.heap.size + 1, 3, none⟩ = some (.int .i64 (q : Int))) (first | go_keep | (exact ⟨(World.cell?_setCell_far _ _ _ _ hne1).trans ((World.cell?_setCell_far _ _ _ _ hne1).trans y0), (World.cell?_setCell_far _ _ _ _ hne1).trans ((World.cell?_setCell_far _ _ _ _ hne1).trans y1), (World.cell?_setCell_far _ _ _ _ hne2).trans ((World.cell?_setCell_far _ _ _ _ hne2).trans y2), (World.cell?_setCell_far _ _ _ _ hne2).trans ((World.cell?_setCell_far _ _ _ _ hne2).trans y3)⟩)) ((go_at_call 28; (have hc := HWI2.out (.slice (some ⟨w3.heap.size, 0, none⟩) q q) (List.replicate q noId) (w3.alloc (.cells (fl idC (List.replicate q noId)).toArray 47)).drew (HUw3.out.trans ((Up.alloc _ _).trans (Up.drew _))) ((HMO.out w3).ids.up (Up.drew _)); with_reducible refine hc.mono ?_; clear hc; rintro e w4 ⟨v4, rfl, hs4, u4⟩; have h34 : Up w3 w4 := ((Up.alloc _ _).trans (Up.drew _)).trans u4; have HS4 := Lib.hid hs4; obtain ⟨o4, c4, o5, c5, hv4⟩ := hs4.shape; subst hv4; have hz4 := HRw3.out.up h34; have x0 := hz4.frozen 0; have x1 := hz4.frozen 1; have x2 := hz4.cell (j := 0) rfl; have x3 := hz4.cell (j := 1) rfl; have y0 := (HRAw3.out.up h34).cell (j := 0) rfl; have y1 := (HRAw3.out.up h34).cell (j := 1) rfl; have y2 := (HROw3.out.up h34).cell (j := 1) rfl; have y3 := (HROw3.out.up h34).cell (j := 3) rfl)))
        all_goals
          have HZ4 := Lib.hid hz4
          have HU4 := Lib.hid (HUw3.out.trans h34)
          clear hz4 x0 x1 x2 x3 y0 y1 y2 y3
          go_wp2_with fail
          obtain ⟨L5, hL5⟩ : ∃ L5, (vins ⟨s, List.replicate q noId⟩ st.v).length = L5 := ⟨_, rfl⟩
          rw [hL5] at HS4 ⊢
          have hz := (HZ4.out.set 0 (.slice o4 st.b.length c4)).set 1 (.slice o5 L5 c5)
          have z0 := hz.cell (j := 0) rfl
          have z1 := hz.cell (j := 1) rfl
          have HOZ := Lib.hid (Stat.boxed (x := .slice o4 st.b.length c4) (y := .slice o5 L5 c5) HS4.out HZ4.out rfl rfl rfl)
          have HUZ := Lib.hid (up2 (x := .slice o4 st.b.length c4) (y := .slice o5 L5 c5) HU4.out (show w.heap.size ≤ w.heap.size + 1 + 1 by omega))
          generalize (w4.setCell ⟨w.heap.size + 1 + 1, 0, none⟩ (.slice o4 st.b.length c4)).setCell ⟨w.heap.size + 1 + 1, 1, none⟩ (.slice o5 L5 c5) = WZ at z0 z1 HOZ HUZ ⊢
          exact bodyPost_ret (v := .tuple #[.agg #[.slice o4 st.b.length c4, .slice o5 L5 c5], .int .i64 0]) (by simp [results, Tryz.results8, go_sem, z0, z1]) rfl ⟨_, by rw [HRZ.out], by rw [HRZ.out]; exact HOZ.out, HUZ.out⟩
      · have hne : (NE != 0) = true := by rw [bne_iff_ne]; exact hE
        have HRZ : Hid (RS = (zeroS, NE)) := by show _ = _; rw [← HRS.out, if_neg (by simp), if_neg hn, if_pos hE]
        clear hE hn
        have r0 := HRw3.out.frozen 0
        have r1 := HRw3.out.frozen 1
        have r2 := HRw3.out.cell (j := 0) rfl
        have r3 := HRw3.out.cell (j := 1) rfl
        go_wp2_with fail
        have hz := (HRw3.out.set 0 (.slice none 0 0)).set 1 (.slice none 0 0)
        have z0 := hz.cell (j := 0) rfl
        have z1 := hz.cell (j := 1) rfl
        have HUZ := Lib.hid (up2 (x := .slice none 0 0) (y := .slice none 0 0) HUw3.out (show w.heap.size ≤ w.heap.size + 1 + 1 by omega))
        generalize (w3.setCell ⟨w.heap.size + 1 + 1, 0, none⟩ (.slice none 0 0)).setCell ⟨w.heap.size + 1 + 1, 1, none⟩ (.slice none 0 0) = WZ at z0 z1 HUZ ⊢
        exact bodyPost_ret (v := .tuple #[zeroV, .int .i64 NE]) (by simp [results, Tryz.results8, go_sem, z0, z1, zeroV]) rfl ⟨_, by rw [HRZ.out], by rw [HRZ.out]; exact Stat.zero _, HUZ.out⟩
  · have hne : (CK != 0) = true := by rw [bne_iff_ne]; exact h0
    have HRZ : Hid (RS = (zeroS, CK)) := by show _ = _; rw [← HRS.out, if_pos h0]
    clear h0
    have r0 := HRw1.out.frozen 0
    have r1 := HRw1.out.frozen 1
    have r2 := HRw1.out.cell (j := 0) rfl
    have r3 := HRw1.out.cell (j := 1) rfl
    go_wp2_with fail
    have hz := (HRw1.out.set 0 (.slice none 0 0)).set 1 (.slice none 0 0)
    have z0 := hz.cell (j := 0) rfl
    have z1 := hz.cell (j := 1) rfl
    have HUZ := Lib.hid (up2 (x := .slice none 0 0) (y := .slice none 0 0) HUw1.out (show w.heap.size ≤ w.heap.size + 1 + 1 by omega))
    generalize (w1.setCell ⟨w.heap.size + 1 + 1, 0, none⟩ (.slice none 0 0)).setCell ⟨w.heap.size + 1 + 1, 1, none⟩ (.slice none 0 0) = WZ at z0 z1 HUZ ⊢
    exact bodyPost_ret (v := .tuple #[zeroV, .int .i64 CK]) (by simp [results, Tryz.results8, go_sem, z0, z1, zeroV]) rfl ⟨_, by rw [HRZ.out], by rw [HRZ.out]; exact Stat.zero _, HUZ.out⟩

end Go.Proofs.YtjklecglecpflaaGreatDoor
