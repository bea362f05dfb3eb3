/-
  What the reference's Do returns, for kind 2. Condition: a state that can be read.
-/
import Derived.Test.YtbeigaanlhaolaaGreatDoorJB39
import Derived.Test.YtbeigaanlhaolaaGreatDoorJB37
import Derived.Test.YtbeigaanlhaolaaGreatDoorJB40
import Derived.Test.YtbeigaanlhaolaaGreatDoorJB20
namespace Go.Proofs.YtbeigaanlhaolaaGreatDoor
open Go.RowKit
open Go.Proofs
open WoolBag
open WoolVol

theorem vdrop_none {st : Sta} {s : List UInt8} (h : chkS FP st = 0) (hx : vix (nmB s) st.v = none) : vdrop FP st s = (zeroS, 4) := by
  unfold vdrop vfind
  rw [h, hx]
  simp
theorem vdrop_chk {st : Sta} {s : List UInt8} (h : chkS FP st ≠ 0) : vdrop FP st s = (zeroS, chkS FP st) := by
  unfold vdrop vfind
  rw [if_pos h]
  simp [h]
theorem vdrop_some {st : Sta} {s : List UInt8} {k : Nat} (hk : k < st.v.length) (hf : vfind FP st s = (k, 0)) : vdrop FP st s = (⟨rel FP st.b st.v[k].bl, st.v.eraseIdx k⟩, 0) := by
  unfold vdrop
  rw [hf, if_neg (by simp), getElem!_pos st.v k hk]

def DrRel (st : Sta) (k L : Nat) (w : World) (ops : List Value) (i : Value) (wr : World) : Prop :=
  ∃ j x y, j ≤ L ∧ i = .int .i64 ((j : Nat) : Int) ∧ RowC wr w.heap.size 36 [x, y] ∧ RowC wr (w.heap.size + 1) 27 ops ∧ RowC wr (w.heap.size + 1 + 1) 36 [.slice none 0 0, .slice none 0 0] ∧ Stat wr (.agg #[x, y]) (hol FP st k j) ∧ Up w wr

/-- what lies behind a place of a slice of volumes -/
theorem VCs.behind {w : World} {b off n c k : Nat} {C : List VC} (h : VCs w (.slice (some ⟨b, off, none⟩) n c) C) (hk : k ≤ C.length) (hn : C.length = n) (h0 : C.length ≠ 0) : ∃ P : Addr, (if c = k then some (⟨b, off, none⟩ : Addr) else some ⟨b, off + k * 2, none⟩) = some P ∧ VCs w (.slice (some P) (n - k) (c - k)) (C.drop k) := by
  obtain ⟨b', off', e, h2⟩ := Sl.cells h h0
  cases e
  obtain ⟨o, c', e, h3, h4⟩ := Sl.slice h
  simp only [Value.slice.injEq] at e
  obtain ⟨_, _, rfl⟩ := e
  have hd : (C.drop k).length = n - k := by rw [List.length_drop, hn]
  by_cases hc : c = k
  · refine ⟨_, by rw [if_pos hc], ?_⟩
    have hz : n - k = 0 := by omega
    have hdl : C.drop k = [] := List.eq_nil_of_length_eq_zero (by omega)
    unfold VCs
    rw [hdl, hz]
    exact ⟨rfl, _, c - k, rfl, Nat.zero_le _, by omega, .inl rfl⟩
  · refine ⟨_, by rw [if_neg hc], ?_⟩
    unfold VCs
    rw [hd]
    refine ⟨by rw [vL_length, hd], _, c - k, rfl, by omega, by omega, .inr ⟨b, off + k * 2, rfl, fun j u hj => ?_⟩⟩
    rw [vL_drop, List.getElem?_drop] at hj
    have := h2 _ _ hj
    rwa [← Nat.add_assoc] at this

theorem VCs.slice {w : World} {v : Value} {C : List VC} (h : VCs w v C) : ∃ o c, v = .slice o C.length c := by
  obtain ⟨o, c, h1, _⟩ := Sl.slice h
  exact ⟨o, c, h1⟩

theorem VCs.ahead {w : World} {b off n c k : Nat} {C : List VC} (h : VCs w (.slice (some ⟨b, off, none⟩) n c) C) (hk : k ≤ C.length) (h0 : C.length ≠ 0) : VCs w (.slice (some ⟨b, off, none⟩) k c) (C.take k) := by
  obtain ⟨b', off', e, h2⟩ := Sl.cells h h0
  cases e
  obtain ⟨o, c', e, h3, h4⟩ := Sl.slice h
  simp only [Value.slice.injEq] at e
  obtain ⟨_, _, rfl⟩ := e
  have hd : (C.take k).length = k := by rw [List.length_take]; omega
  unfold VCs
  rw [hd]
  refine ⟨by rw [vL_length, hd], _, c, rfl, by omega, h4, .inr ⟨b, off, rfl, fun j u hj => ?_⟩⟩
  rw [vL_take, List.getElem?_take] at hj
  split at hj
  · exact h2 _ _ hj
  · cases hj

set_option maxRecDepth 100000 in
set_option maxHeartbeats 2000000 in
theorem refDo2 (v : Value) (st : Sta) (s u t : List UInt8) (a : Int) (w : World) (h : Stat w v st) (hwf : WfS st) :
    Calls Tryz.prog 23 #[v, opV 2 s u a t] w (RdEPost w (vdrop FP st s)) := by
  have HST := Lib.hid h
  have HCK := Lib.hid (fun W (hW : Up w W) => refState_any v st W (h.up hW) hwf)
  have HVL := Lib.hid (fun W (hW : Up w W) => refVol_any v st s W (h.up hW))
  obtain ⟨vb, vv, rfl, hb, hv⟩ := h
  have HVV := Lib.hid hv
  obtain ⟨oB, cB, rfl, _⟩ := hb.slice
  obtain ⟨oV, cV, rfl, hV1, hV2⟩ := hv.slice
  unfold maxLen at hV2
  clear hb hv hwf
  obtain ⟨RS, hRS⟩ : ∃ RS, vdrop FP st s = RS := ⟨_, rfl⟩
  rw [hRS]
  have HRS := Lib.hid hRS
  clear hRS
  obtain ⟨N, hN⟩ : ∃ N, st.v.length = N := ⟨_, rfl⟩
  obtain ⟨M, hM⟩ : ∃ M, st.b.length = M := ⟨_, rfl⟩
  have HN := Lib.hid hN
  have HM := Lib.hid hM
  rw [hN, hM] at HST HCK HVL ⊢
  rw [hN] at HVV hV1
  clear hN hM
  obtain ⟨CK, hCK⟩ : ∃ CK, chkS FP st = CK := ⟨_, rfl⟩
  rw [hCK] at HCK
  have HC := Lib.hid hCK
  clear hCK
  unfold opV
  have HRA : Hid (RowC (((w.alloc (.cells #[.slice oB M cB, .slice oV N cV] 36)).alloc (.cells #[.int .i64 2, .string (bs s), .string (bs u), .int .i64 a, .string (bs t)] 27)).alloc (.cells #[.slice none 0 0, .slice none 0 0] 36)) w.heap.size 36 [.slice oB M cB, .slice oV N cV]) := RowC.up (rowN_at [.slice oB M cB, .slice oV N cV] 36 rfl) ((Up.alloc _ _).trans (Up.alloc _ _))
  have HRO : Hid (RowC (((w.alloc (.cells #[.slice oB M cB, .slice oV N cV] 36)).alloc (.cells #[.int .i64 2, .string (bs s), .string (bs u), .int .i64 a, .string (bs t)] 27)).alloc (.cells #[.slice none 0 0, .slice none 0 0] 36)) (w.heap.size + 1) 27 [.int .i64 2, .string (bs s), .string (bs u), .int .i64 a, .string (bs t)]) := RowC.up (rowN_at [.int .i64 2, .string (bs s), .string (bs u), .int .i64 a, .string (bs t)] 27 (by simp)) (Up.alloc _ _)
  have HRR : Hid (RowC (((w.alloc (.cells #[.slice oB M cB, .slice oV N cV] 36)).alloc (.cells #[.int .i64 2, .string (bs s), .string (bs u), .int .i64 a, .string (bs t)] 27)).alloc (.cells #[.slice none 0 0, .slice none 0 0] 36)) (w.heap.size + 1 + 1) 36 [.slice none 0 0, .slice none 0 0]) := rowN_at [.slice none 0 0, .slice none 0 0] 36 (by simp)
  have HW0 : Hid (Up w (((w.alloc (.cells #[.slice oB M cB, .slice oV N cV] 36)).alloc (.cells #[.int .i64 2, .string (bs s), .string (bs u), .int .i64 a, .string (bs t)] 27)).alloc (.cells #[.slice none 0 0, .slice none 0 0] 36))) := ((Up.alloc _ _).trans (Up.alloc _ _)).trans (Up.alloc _ _)
  go_enter Tryz.func23, Tryz.ntmps23
  go_upto_region 1 with (fail)
  generalize (((w.alloc (.cells #[.slice oB M cB, .slice oV N cV] 36)).alloc (.cells #[.int .i64 2, .string (bs s), .string (bs u), .int .i64 a, .string (bs t)] 27)).alloc (.cells #[.slice none 0 0, .slice none 0 0] 36)) = W0 at HRA HRO HRR HW0 ⊢
  have q0 := HRA.out.cell (j := 0) rfl
  have q1 := HRA.out.cell (j := 1) rfl
  go_wp2_with fail
  refine (HCK.out _ HW0.out).mono ?_
  rintro e w1 ⟨rfl, u1⟩
  have HRAw1 := Lib.hid (HRA.out.up u1)
  have HROw1 := Lib.hid (HRO.out.up u1)
  have HRw1 := Lib.hid (HRR.out.up u1)
  have HUw1 := Lib.hid (HW0.out.trans u1)
  clear u1 q0 q1 HRA HRO HRR HW0
  by_cases h0 : CK = 0
  · subst h0
    have q0 := HRAw1.out.cell (j := 0) rfl
    have q1 := HRAw1.out.cell (j := 1) rfl
    have q2 := HROw1.out.cell (j := 1) rfl
    cases hx : vix (nmB s) st.v with
    | none =>
      have hr : ixV (fun t => t == s) st.v = -1 := by rw [ixV_name, hx]
      rw [hr] at HVL
      have HRZ : Hid (RS = (zeroS, 4)) := by show _ = _; rw [← HRS.out, vdrop_none HC.out hx]
      clear hr hx
      go_wp2_with fail
      refine (HVL.out _ HUw1.out).mono ?_
      rintro e w2 ⟨rfl, u2⟩
      have HROw2 := Lib.hid (HROw1.out.up u2)
      have HRw2 := Lib.hid (HRw1.out.up u2)
      have HUw2 := Lib.hid (HUw1.out.trans u2)
      clear u2 q0 q1 q2
      have c0 := HROw2.out.cell (j := 0) rfl
      have r0 := HRw2.out.frozen 0
      have r1 := HRw2.out.frozen 1
      have r2 := HRw2.out.cell (j := 0) rfl
      have r3 := HRw2.out.cell (j := 1) rfl
      go_wp2_with fail
      have hz := (HRw2.out.set 0 (.slice none 0 0)).set 1 (.slice none 0 0)
      have z0 := hz.cell (j := 0) rfl
      have z1 := hz.cell (j := 1) rfl
      have HUZ := Lib.hid (up2 (x := .slice none 0 0) (y := .slice none 0 0) HUw2.out (show w.heap.size ≤ w.heap.size + 1 + 1 by omega))
      generalize (w2.setCell ⟨w.heap.size + 1 + 1, 0, none⟩ (.slice none 0 0)).setCell ⟨w.heap.size + 1 + 1, 1, none⟩ (.slice none 0 0) = WZ at z0 z1 HUZ ⊢
      exact bodyPost_ret (v := .tuple #[zeroV, .int .i64 4]) (by simp [results, Tryz.results23, go_sem, z0, z1, zeroV]) rfl ⟨_, by rw [HRZ.out], by rw [HRZ.out]; exact Stat.zero _, HUZ.out⟩
    | some k =>
      have hr : ixV (fun t => t == s) st.v = (k : Int) := by rw [ixV_name, hx]
      rw [hr] at HVL
      obtain ⟨hk, _, _⟩ := vix_some hx
      have HRZ := Lib.hid (HRS.out.symm.trans (vdrop_some hk (vfind_some HC.out hx)))
      have HGD : Hid (WoolVol.Good FP st) := chkS_zero.1 HC.out
      obtain ⟨b, off, rfl, h5⟩ := HVV.out.at (by intro e; rw [e] at hk; simp at hk)
      obtain ⟨a1, u0, a2, hids⟩ := h5 k hk
      obtain ⟨o', c', rfl, hc1, hc2⟩ := hids.slice
      have hL32 := (HGD.out.vol _ (List.getElem_mem hk)).2.1
      have hN6 : N ≤ 6 := by rw [← HN.out]; exact HGD.out.len
      obtain ⟨L, hL⟩ : ∃ L, st.v[k].bl.length = L := ⟨_, rfl⟩
      have HL := Lib.hid hL
      rw [hL] at a2 hL32
      have hkN : k < N := by rw [← HN.out]; exact hk
      clear hr hx h5 a1 hids hL hc1 hc2 HRS
      go_wp2_with fail
      refine (HVL.out _ HUw1.out).mono ?_
      rintro e w2 ⟨rfl, u2⟩
      have HRA2 := Lib.hid (HRAw1.out.up u2)
      have HRO2 := Lib.hid (HROw1.out.up u2)
      have HRR2 := Lib.hid (HRw1.out.up u2)
      have HU2 := Lib.hid (HUw1.out.trans u2)
      have c0 := HRO2.out.cell (j := 0) rfl
      have q4 := HRA2.out.cell (j := 1) rfl
      have a3 := (HU2.out.cell (World.block_lt_of_cell? w _ a2)).trans a2
      have HST2 : Hid (DrRel st k L w [.int .i64 2, .string (bs s), .string (bs u), .int .i64 a, .string (bs t)] (.int .i64 0) w2) := ⟨0, _, _, Nat.zero_le _, rfl, HRA2.out, HRO2.out, HRR2.out, by rw [hol_zero hk]; exact HST.out.up HU2.out, HU2.out⟩
      clear u2 q0 q1 q2 a2
      go_wp2_with fail
      go_loopw [62] (fun i wr => DrRel st k L w [.int .i64 2, .string (bs s), .string (bs u), .int .i64 a, .string (bs t)] i wr) (fun i _ => L - (intOf i).toNat)
      case atStart => exact HST2.out
      case round =>
        obtain ⟨j, x, y, hj, rfl, hA, hO, hZ, hS, hU⟩ := hrel
        have hholk : k < (hol FP st k j).v.length := by rw [hol_len]; exact hk
        have hjl : j ≤ st.v[k].bl.length := by rw [HL.out]; exact hj
        have hgj := hol_good HGD.out hk j hjl
        have hbl := hol_bl (F := FP) hk hjl hholk
        have HSJ := Lib.hid hS
        obtain ⟨vbj, vvj, hag, hbj, hvj⟩ := hS
        simp at hag
        obtain ⟨rfl, rfl⟩ := hag
        obtain ⟨ob, cb, rfl, _⟩ := hbj.slice
        obtain ⟨ov, cv, rfl, hv1, hv2⟩ := hvj.slice
        have HVJ := Lib.hid hvj
        have HBJ := Lib.hid hbj
        have HAJ := Lib.hid hA
        have HOJ := Lib.hid hO
        have HZJ := Lib.hid hZ
        have HUJ := Lib.hid hU
        have HGJ := Lib.hid hgj
        have y0 := hA.cell (j := 0) rfl
        have y1 := hA.cell (j := 1) rfl
        have hneO : w.heap.size + 1 ≠ w.heap.size := by omega
        have hneZ : w.heap.size + 1 + 1 ≠ w.heap.size := by omega
        clear hbj hvj hA hO hZ hU hgj
        by_cases hlt : j < L
        · have dz : decide (j < L) = true := decide_eq_true hlt
          have hjb : j < st.v[k].bl.length := by rw [HL.out]; exact hlt
          have htr := refTrim_any _ (hol FP st k j) k j wr HSJ.out ⟨HGJ.out.len, fun q hq => (HGJ.out.vol q hq).2.1⟩ HGJ.out.bag hholk (by rw [hbl]; exact hjb)
          rw [hol_here hk hjb hholk, hol_step hk hjb] at htr
          unfold RdPost at htr
          have HTR := Lib.hid htr
          clear htr hbl hholk
          go_wp2_with fail
          refine HTR.out.mono ?_
          rintro e w5 ⟨v5, rfl, hst5, u5⟩
          have HS5 := Lib.hid hst5
          obtain ⟨o5, c5, o6, c6, hv5⟩ := hst5.shape
          subst hv5
          obtain ⟨B5, hB5⟩ : ∃ B5, (hol FP st k (j + 1)).b.length = B5 := ⟨_, rfl⟩
          obtain ⟨V5, hV5⟩ : ∃ V5, (hol FP st k (j + 1)).v.length = V5 := ⟨_, rfl⟩
          rw [hB5, hV5] at HS5 ⊢
          have hA5 := HAJ.out.up u5
          have HA5 := Lib.hid hA5
          have HO5 := Lib.hid ((HOJ.out.up u5).other hneO 0 (.slice o5 B5 c5))
          have HZ5 := Lib.hid ((HZJ.out.up u5).other hneZ 0 (.slice o5 B5 c5))
          have HU5 := Lib.hid (HUJ.out.trans u5)
          have k0 := hA5.frozen 0
          have k1 := hA5.frozen 1
          have k2 := hA5.cell (j := 0) rfl
          have k3 := hA5.cell (j := 1) rfl
          have HA6 := Lib.hid ((hA5.set 0 (.slice o5 B5 c5)).set 1 (.slice o6 V5 c6))
          have HS6 := Lib.hid (Stat.boxed (x := .slice o5 B5 c5) (y := .slice o6 V5 c6) HS5.out hA5 rfl rfl rfl)
          have HO6 := Lib.hid (HO5.out.other hneO 1 (.slice o6 V5 c6))
          have HZ6 := Lib.hid (HZ5.out.other hneZ 1 (.slice o6 V5 c6))
          have HU6 := Lib.hid (up2 (x := .slice o5 B5 c5) (y := .slice o6 V5 c6) HU5.out (Nat.le_refl w.heap.size))
          clear hst5 u5 hA5 hB5 hV5 y0 y1
          go_upto_region 20 with (fail)
          clear k0 k1 k2 k3
          generalize (w5.setCell ⟨w.heap.size, 0, none⟩ (.slice o5 B5 c5)).setCell ⟨w.heap.size, 1, none⟩ (.slice o6 V5 c6) = W6 at HA6 HS6 HO6 HZ6 HU6 ⊢
          go_wp2_with fail
          go_roundw
          case rel => exact ⟨j + 1, _, _, by omega, by go_num, HA6.out, HO6.out, HZ6.out, HS6.out, HU6.out⟩
          case measure => simp only [intOf]; omega
        · have dz : decide (j < L) = false := decide_eq_false hlt
          have hjL : j = L := by omega
          subst hjL
          have hNv : (hol FP st k j).v.length = N := by rw [hol_len]; exact HN.out
          obtain ⟨C, hC, hR⟩ := HVJ.out
          have hCl : C.length = N := hR.len.trans hNv
          rw [hNv] at hC hv1
          obtain ⟨bv, offv, hov, _⟩ := Sl.cells hC (by omega)
          subst hov
          by_cases hcv : cv = k + 1
          · obtain ⟨P2, hP2, hd2⟩ := VCs.behind (k := k + 1) hC (by omega) hCl (by omega)
            rw [if_pos hcv] at hP2
            cases hP2
            have hNk : N = k + 1 := by omega
            subst hNk hcv
            rw [Nat.sub_self] at hd2
            have p12 : (k : Int) ≤ (k : Int) + 1 := by omega
            have p13 : ((k : Int) ≤ (k : Int) + 1) = True := eq_true p12
            obtain ⟨LN, hLN⟩ : ∃ LN, k + 1 - 1 = LN := ⟨_, rfl⟩
            have ha2 := VCs.ahead (k := k) hC (by omega) (by omega)
            have HCAT : Hid (∀ B W, Up wr W → W.cell? ⟨B, 0, none⟩ = some (.slice (some ⟨bv, offv, none⟩) k (k + 1)) → W.cell? ⟨B, 1, none⟩ = some (.slice (some ⟨bv, offv, none⟩) 0 0) → Calls Tryz.prog 43 #[.slice (some ⟨B, 0, none⟩) 2 2] W (CatPostV (C.take k) (C.drop (k + 1)) W)) := fun B W hW e1 e2 =>
              concat_anyV B _ _ _ _ _ _ _ _ W (Sl.up ha2 hW) (Sl.up hd2 hW) e1 e2 (by rw [List.length_take, List.length_drop]; omega) (fun q hq => hR.one q (by rw [vL_take] at hq; exact List.mem_of_mem_take hq)) (fun q hq => hR.one q (by rw [vL_drop] at hq; exact List.mem_of_mem_drop hq))
            unfold CatPostV at HCAT
            have HRE : Hid (Rd wr (C.take k ++ C.drop (k + 1)) (st.v.eraseIdx k)) := by
              show Rd wr (C.take k ++ C.drop (k + 1)) (st.v.eraseIdx k)
              rw [← hol_vol (F := FP) (st := st) (k := k) (j := j)]
              exact (hR.take k).app (hR.drop (k + 1))
            have HBG : Hid ((hol FP st k j).b = rel FP st.b st.v[k].bl) := by
              show _ = _
              have := hol_bag (F := FP) hk
              rwa [HL.out] at this
            have HLN : Hid ((C.take k ++ C.drop (k + 1)).length = LN) := by show _ = _; rw [← hLN, List.length_append, List.length_take, List.length_drop]; omega
            have hw1 : IntKind.i64.wrap ((k : Int) + 1) = (k : Int) + 1 := IntWalk.i64_in _ (by omega)
            have p6 : ((k : Int) + 1).toNat = k + 1 := by omega
            have p8 : (0 : Int) ≤ (k : Int) + 1 := by omega
            have p7 : (0 : Int) ≤ (k : Int) := by omega
            have p9 : (k : Int) + 1 ≤ ((k + 1 : Nat) : Int) := by omega
            have p10 : (k : Int) ≤ ((k + 1 : Nat) : Int) := by omega
            have p11 : (k : Int) ≤ ((k + 1 : Nat) : Int) := by omega
            unfold maxLen at hv2
            have hkc : k ≤ (k + 1) := by omega
            have hkc1 : k + 1 ≤ (k + 1) := by omega
            have hkN1 : k + 1 ≤ k + 1 := Nat.le_refl _
            obtain ⟨MB, hMB⟩ : ∃ MB, (hol FP st k j).b.length = MB := ⟨_, rfl⟩
            have HMB := Lib.hid hMB
            rw [hNv] at y1 HAJ
            rw [hMB] at y0 HAJ HBJ
            clear hC hR hCl hd2 ha2 hNv hMB hbl hholk hjl hlt hLN
            go_upto_region 21 with (fail)
            go_region_held3 (fun U => U.cell? ⟨w.heap.size, 0, none⟩ = some (.slice ob MB cb) ∧ U.cell? ⟨w.heap.size, 1, none⟩ = some (.slice (some ⟨bv, offv, none⟩) (k + 1) (k + 1))) (first | go_keep | (exact ⟨(World.cell?_setCell_far _ _ _ _ hneZ).trans ((World.cell?_setCell_far _ _ _ _ hneZ).trans m0), (World.cell?_setCell_far _ _ _ _ hneZ).trans ((World.cell?_setCell_far _ _ _ _ hneZ).trans m1)⟩)) ((go_at_call 43; (have hc := HCAT.out wr.heap.size (wr.alloc (.cells #[.slice (some ⟨bv, offv, none⟩) k (k + 1), .slice (some ⟨bv, offv, none⟩) 0 0] 34)).drew ((Up.alloc _ _).trans (Up.drew _)) (World.cell?_alloc_new wr #[.slice (some ⟨bv, offv, none⟩) k (k + 1), .slice (some ⟨bv, offv, none⟩) 0 0] 34 0) (World.cell?_alloc_new wr #[.slice (some ⟨bv, offv, none⟩) k (k + 1), .slice (some ⟨bv, offv, none⟩) 0 0] 34 1); with_reducible refine hc.mono ?_; clear hc; rintro e w6 ⟨v6, rfl, hv6, u6⟩; have h6 : Up wr w6 := ((Up.alloc _ _).trans (Up.drew _)).trans u6; have HV6 := Lib.hid hv6; obtain ⟨o6, c6, hs6⟩ := hv6.slice; rw [HLN.out] at hs6; subst hs6; have hz6 := HZJ.out.up h6; have x0 := hz6.frozen 0; have x1 := hz6.frozen 1; have x2 := hz6.cell (j := 0) rfl; have x3 := hz6.cell (j := 1) rfl; have m0 := (HAJ.out.up h6).cell (j := 0) rfl; have m1 := (HAJ.out.up h6).cell (j := 1) rfl)))
            all_goals
              have HZ6 := Lib.hid hz6
              have HU6 := Lib.hid (HUJ.out.trans h6)
              have HS6 : Hid (Stat w6 (.agg #[.slice ob MB cb, .slice o6 LN c6]) ⟨(hol FP st k j).b, st.v.eraseIdx k⟩) := ⟨_, _, rfl, HBJ.out.up h6, ⟨_, HV6.out, HRE.out.up h6⟩⟩
              rw [HBG.out] at HS6
              clear hz6 x0 x1 x2 x3 m0 m1 h6 u6
              go_wp2_with fail
              have hz := (HZ6.out.set 0 (.slice ob MB cb)).set 1 (.slice o6 LN c6)
              have z0 := hz.cell (j := 0) rfl
              have z1 := hz.cell (j := 1) rfl
              have HOZ := Lib.hid (Stat.boxed (x := .slice ob MB cb) (y := .slice o6 LN c6) HS6.out HZ6.out rfl rfl rfl)
              have HUZ := Lib.hid (up2 (x := .slice ob MB cb) (y := .slice o6 LN c6) HU6.out (show w.heap.size ≤ w.heap.size + 1 + 1 by omega))
              generalize (w6.setCell ⟨w.heap.size + 1 + 1, 0, none⟩ (.slice ob MB cb)).setCell ⟨w.heap.size + 1 + 1, 1, none⟩ (.slice o6 LN c6) = WZ at z0 z1 HOZ HUZ ⊢
              exact bodyPost_ret (v := .tuple #[.agg #[.slice ob MB cb, .slice o6 LN c6], .int .i64 0]) (by simp [results, Tryz.results23, go_sem, z0, z1]) rfl ⟨_, by rw [HRZ.out], by rw [HRZ.out]; exact HOZ.out, HUZ.out⟩
          · obtain ⟨P2, hP2, hd2⟩ := VCs.behind (k := k + 1) hC (by omega) hCl (by omega)
            rw [if_neg hcv] at hP2
            cases hP2
            obtain ⟨LN, hLN⟩ : ∃ LN, N - 1 = LN := ⟨_, rfl⟩
            have ha2 := VCs.ahead (k := k) hC (by omega) (by omega)
            have HCAT : Hid (∀ B W, Up wr W → W.cell? ⟨B, 0, none⟩ = some (.slice (some ⟨bv, offv, none⟩) k cv) → W.cell? ⟨B, 1, none⟩ = some (.slice (some ⟨bv, offv + (k + 1) * 2, none⟩) (N - (k + 1)) (cv - (k + 1))) → Calls Tryz.prog 43 #[.slice (some ⟨B, 0, none⟩) 2 2] W (CatPostV (C.take k) (C.drop (k + 1)) W)) := fun B W hW e1 e2 =>
              concat_anyV B _ _ _ _ _ _ _ _ W (Sl.up ha2 hW) (Sl.up hd2 hW) e1 e2 (by rw [List.length_take, List.length_drop]; omega) (fun q hq => hR.one q (by rw [vL_take] at hq; exact List.mem_of_mem_take hq)) (fun q hq => hR.one q (by rw [vL_drop] at hq; exact List.mem_of_mem_drop hq))
            unfold CatPostV at HCAT
            have HRE : Hid (Rd wr (C.take k ++ C.drop (k + 1)) (st.v.eraseIdx k)) := by
              show Rd wr (C.take k ++ C.drop (k + 1)) (st.v.eraseIdx k)
              rw [← hol_vol (F := FP) (st := st) (k := k) (j := j)]
              exact (hR.take k).app (hR.drop (k + 1))
            have HBG : Hid ((hol FP st k j).b = rel FP st.b st.v[k].bl) := by
              show _ = _
              have := hol_bag (F := FP) hk
              rwa [HL.out] at this
            have HLN : Hid ((C.take k ++ C.drop (k + 1)).length = LN) := by show _ = _; rw [← hLN, List.length_append, List.length_take, List.length_drop]; omega
            have hw1 : IntKind.i64.wrap ((k : Int) + 1) = (k : Int) + 1 := IntWalk.i64_in _ (by omega)
            have p6 : ((k : Int) + 1).toNat = k + 1 := by omega
            have p8 : (0 : Int) ≤ (k : Int) + 1 := by omega
            have p7 : (0 : Int) ≤ (k : Int) := by omega
            have p9 : (k : Int) + 1 ≤ (N : Int) := by omega
            have p10 : (k : Int) ≤ (cv : Int) := by omega
            have p11 : (k : Int) ≤ (N : Int) := by omega
            unfold maxLen at hv2
            have hkc : k ≤ cv := by omega
            have hkc1 : k + 1 ≤ cv := by omega
            have hkN1 : k + 1 ≤ N := by omega
            obtain ⟨MB, hMB⟩ : ∃ MB, (hol FP st k j).b.length = MB := ⟨_, rfl⟩
            have HMB := Lib.hid hMB
            rw [hNv] at y1 HAJ
            rw [hMB] at y0 HAJ HBJ
            clear hC hR hCl hd2 ha2 hNv hMB hbl hholk hjl hlt hLN
            go_upto_region 21 with (fail)
            go_region_held3 (fun U => U.cell? ⟨w.heap.size, 0, none⟩ = some (.slice ob MB cb) ∧ U.cell? ⟨w.heap.size, 1, none⟩ = some (.slice (some ⟨bv, offv, none⟩) N cv)) (first | go_keep | (exact ⟨(World.cell?_setCell_far _ _ _ _ hneZ).trans ((World.cell?_setCell_far _ _ _ _ hneZ).trans m0), (World.cell?_setCell_far _ _ _ _ hneZ).trans ((World.cell?_setCell_far _ _ _ _ hneZ).trans m1)⟩)) ((go_at_call 43; (have hc := HCAT.out wr.heap.size (wr.alloc (.cells #[.slice (some ⟨bv, offv, none⟩) k cv, .slice (some ⟨bv, offv + (k + 1) * 2, none⟩) (N - (k + 1)) (cv - (k + 1))] 34)).drew ((Up.alloc _ _).trans (Up.drew _)) (World.cell?_alloc_new wr #[.slice (some ⟨bv, offv, none⟩) k cv, .slice (some ⟨bv, offv + (k + 1) * 2, none⟩) (N - (k + 1)) (cv - (k + 1))] 34 0) (World.cell?_alloc_new wr #[.slice (some ⟨bv, offv, none⟩) k cv, .slice (some ⟨bv, offv + (k + 1) * 2, none⟩) (N - (k + 1)) (cv - (k + 1))] 34 1); with_reducible refine hc.mono ?_; clear hc; rintro e w6 ⟨v6, rfl, hv6, u6⟩; have h6 : Up wr w6 := ((Up.alloc _ _).trans (Up.drew _)).trans u6; have HV6 := Lib.hid hv6; obtain ⟨o6, c6, hs6⟩ := hv6.slice; rw [HLN.out] at hs6; subst hs6; have hz6 := HZJ.out.up h6; have x0 := hz6.frozen 0; have x1 := hz6.frozen 1; have x2 := hz6.cell (j := 0) rfl; have x3 := hz6.cell (j := 1) rfl; have m0 := (HAJ.out.up h6).cell (j := 0) rfl; have m1 := (HAJ.out.up h6).cell (j := 1) rfl)))
            all_goals
              have HZ6 := Lib.hid hz6
              have HU6 := Lib.hid (HUJ.out.trans h6)
              have HS6 : Hid (Stat w6 (.agg #[.slice ob MB cb, .slice o6 LN c6]) ⟨(hol FP st k j).b, st.v.eraseIdx k⟩) := ⟨_, _, rfl, HBJ.out.up h6, ⟨_, HV6.out, HRE.out.up h6⟩⟩
              rw [HBG.out] at HS6
              clear hz6 x0 x1 x2 x3 m0 m1 h6 u6
              go_wp2_with fail
              have hz := (HZ6.out.set 0 (.slice ob MB cb)).set 1 (.slice o6 LN c6)
              have z0 := hz.cell (j := 0) rfl
              have z1 := hz.cell (j := 1) rfl
              have HOZ := Lib.hid (Stat.boxed (x := .slice ob MB cb) (y := .slice o6 LN c6) HS6.out HZ6.out rfl rfl rfl)
              have HUZ := Lib.hid (up2 (x := .slice ob MB cb) (y := .slice o6 LN c6) HU6.out (show w.heap.size ≤ w.heap.size + 1 + 1 by omega))
              generalize (w6.setCell ⟨w.heap.size + 1 + 1, 0, none⟩ (.slice ob MB cb)).setCell ⟨w.heap.size + 1 + 1, 1, none⟩ (.slice o6 LN c6) = WZ at z0 z1 HOZ HUZ ⊢
              exact bodyPost_ret (v := .tuple #[.agg #[.slice ob MB cb, .slice o6 LN c6], .int .i64 0]) (by simp [results, Tryz.results23, go_sem, z0, z1]) rfl ⟨_, by rw [HRZ.out], by rw [HRZ.out]; exact HOZ.out, HUZ.out⟩
  · have hne : (CK != 0) = true := by rw [bne_iff_ne]; exact h0
    have HRZ : Hid (RS = (zeroS, CK)) := by show _ = _; rw [← HRS.out, vdrop_chk (by rw [HC.out]; exact h0), HC.out]
    clear h0
    have r0 := HRw1.out.frozen 0
    have r1 := HRw1.out.frozen 1
    have r2 := HRw1.out.cell (j := 0) rfl
    have r3 := HRw1.out.cell (j := 1) rfl
    go_wp2_with fail
    have hz := (HRw1.out.set 0 (.slice none 0 0)).set 1 (.slice none 0 0)
    have z0 := hz.cell (j := 0) rfl
    have z1 := hz.cell (j := 1) rfl
    have HUZ := Lib.hid (up2 (x := .slice none 0 0) (y := .slice none 0 0) HUw1.out (show w.heap.size ≤ w.heap.size + 1 + 1 by omega))
    generalize (w1.setCell ⟨w.heap.size + 1 + 1, 0, none⟩ (.slice none 0 0)).setCell ⟨w.heap.size + 1 + 1, 1, none⟩ (.slice none 0 0) = WZ at z0 z1 HUZ ⊢
    exact bodyPost_ret (v := .tuple #[zeroV, .int .i64 CK]) (by simp [results, Tryz.results23, go_sem, z0, z1, zeroV]) rfl ⟨_, by rw [HRZ.out], by rw [HRZ.out]; exact Stat.zero _, HUZ.out⟩

end Go.Proofs.YtbeigaanlhaolaaGreatDoor
