/-
  The law VolEmpty: without volumes there are no blocks, and where all is trimmed there are none. Conditions: a slice of deeds that reads as deeds.
-/
import Derived.Test.YtkobngbjffbjiaaJB42
import Derived.Deep.DeepCutAuto
import Derived.Deep.RegionHeld3
namespace Go.Proofs.Ytkobngbjffbjiaa
open Go.RowKit
open Go.Proofs
open WoolBag
open WoolVol

structure EmI (S cur bare : Sta) (k p X3 X4 : Nat) (v : Value) (w wr : World) : Prop where
  b3 : ∃ o1 n1 c1 o2 n2 c2, BoxS wr X3 cur o1 n1 c1 o2 n2 c2
  b4 : ∃ o1 n1 c1 o2 n2 c2, BoxS wr X4 bare o1 n1 c1 o2 n2 c2
  vols : Vols wr v S.v
  good : WoolVol.Good FP cur
  rest : cur.v = S.v.drop k
  bj : BareJ FP S bare k p
  up : Up w wr

def EmOut (S : Sta) (n X3 X4 : Nat) (v : Value) (w : World) (i : Value) (wr : World) : Prop := ∃ (k : Nat) (cur bare : Sta), k ≤ n ∧ i = .int .i64 (k : Int) ∧ EmI S cur bare k 0 X3 X4 v w wr
def EmIn (S cur : Sta) (k L X3 X4 Q : Nat) (R : List Value) (v : Value) (w : World) (i : Value) (wr : World) : Prop := ∃ (p : Nat) (bare : Sta), p ≤ L ∧ i = .int .i64 (p : Int) ∧ EmI S cur bare k p X3 X4 v w wr ∧ RowC wr Q 31 R

theorem EmI.upW {S cur bare : Sta} {k p X3 X4 : Nat} {v : Value} {w wr wr' : World} (h : EmI S cur bare k p X3 X4 v w wr) (hu : Up wr wr') : EmI S cur bare k p X3 X4 v w wr' := by
  obtain ⟨o1, n1, c1, o2, n2, c2, h3⟩ := h.b3
  obtain ⟨o1', n1', c1', o2', n2', c2', h4⟩ := h.b4
  exact ⟨⟨_, _, _, _, _, _, h3.up hu⟩, ⟨_, _, _, _, _, _, h4.up hu⟩, h.vols.up hu, h.good, h.rest, h.bj, h.up.trans hu⟩

/-- another state laid into the second box -/
theorem EmI.put4 {S cur bare bare' : Sta} {k p p' X3 X4 : Nat} {v : Value} {w wr : World} {o3 o4 : Option Addr} {n3 c3 n4 c4 : Nat} (h : EmI S cur bare k p X3 X4 v w wr) (hne : X3 ≠ X4) (hw : w.heap.size ≤ X4)
    (hs : Stat wr (.agg #[.slice o3 n3 c3, .slice o4 n4 c4]) bare') (h1 : bare'.b.length = n3) (h2 : bare'.v.length = n4) (hb : BareJ FP S bare' k p') :
    EmI S cur bare' k p' X3 X4 v w ((wr.setCell ⟨X4, 0, none⟩ (.slice o3 n3 c3)).setCell ⟨X4, 1, none⟩ (.slice o4 n4 c4)) := by
  obtain ⟨a1, a2, a3, a4, a5, a6, h3⟩ := h.b3
  obtain ⟨b1, b2, b3, b4, b5, b6, h4⟩ := h.b4
  exact ⟨⟨_, _, _, _, _, _, h3.beside h4 hne rfl⟩, ⟨_, _, _, _, _, _, h4.put hs h1 h2⟩, (h.vols.setS h4.row rfl rfl).setS (h4.row.set 0 _) rfl rfl, h.good, h.rest, hb, up2 h.up hw⟩

/-- another state laid into the first box -/
theorem EmI.put3 {S cur cur' bare : Sta} {k k' p p' X3 X4 : Nat} {v : Value} {w wr : World} {o3 o4 : Option Addr} {n3 c3 n4 c4 : Nat} (h : EmI S cur bare k p X3 X4 v w wr) (hne : X3 ≠ X4) (hw : w.heap.size ≤ X3)
    (hs : Stat wr (.agg #[.slice o3 n3 c3, .slice o4 n4 c4]) cur') (h1 : cur'.b.length = n3) (h2 : cur'.v.length = n4) (hg : WoolVol.Good FP cur') (hr : cur'.v = S.v.drop k') (hb : BareJ FP S bare k' p') :
    EmI S cur' bare k' p' X3 X4 v w ((wr.setCell ⟨X3, 0, none⟩ (.slice o3 n3 c3)).setCell ⟨X3, 1, none⟩ (.slice o4 n4 c4)) := by
  obtain ⟨a1, a2, a3, a4, a5, a6, h3⟩ := h.b3
  obtain ⟨b1, b2, b3, b4, b5, b6, h4⟩ := h.b4
  exact ⟨⟨_, _, _, _, _, _, h3.put hs h1 h2⟩, ⟨_, _, _, _, _, _, h4.beside h3 (fun e => hne e.symm) rfl⟩, (h.vols.setS h3.row rfl rfl).setS (h3.row.set 0 _) rfl rfl, hg, hr, hb, up2 h.up hw⟩

theorem stVolE : (27 : Nat) ≠ 31 := by decide

set_option maxRecDepth 100000 in
set_option maxHeartbeats 4000000 in
theorem volEmpty_walk (a0 : Option Addr) (len0 cap0 : Nat) (z0 : List Opn) (w : World) (w0 : Ops w (.slice a0 len0 cap0) z0) :
    Calls Try.prog 11 #[.slice a0 len0 cap0] w fun e w' => e = .returned (.bool true) ∧ Up w w' := by
  have HBG := Lib.hid (fun W => begun_any W)
  go_enter Try.func11, Try.ntmps11
  go_wp2_with fail
  refine (HBG.out _).mono ?_
  rintro e w1 ⟨rfl, u1⟩
  have HU := Lib.hid u1
  have HC := Lib.hid (MdO.of (made_any _ z0 w1 (Ops.up w0 u1)))
  have HG := Lib.hid (madeO_good (F := FP) z0)
  clear u1 HBG
  generalize madeO FP z0 = ST at HC HG
  go_wp2_with fail
  refine HC.out.mono ?_
  clear HC
  rintro e w2 ⟨osa, csa, osb, csb, rfl, hs, hu⟩
  obtain ⟨nsa, hna⟩ : ∃ m, ST.b.length = m := ⟨_, rfl⟩
  obtain ⟨nsb, hnb⟩ : ∃ m, ST.v.length = m := ⟨_, rfl⟩
  rw [hna, hnb] at hs ⊢
  have HXW : Hid (w.heap.size ≤ w2.heap.size) := Nat.le_trans HU.out.size hu.size
  have hb := BoxS.new hs hna hnb
  have hv := hu.trans (Up.alloc w2 (.cells #[.slice osa nsa csa, .slice osb nsb csb] 27))
  clear hu hs hna hnb
  go_upto_region 4 with (fail)
  replace HU := Lib.hid (HU.out.trans hv)
  clear hv
  have HBs := Lib.hid hb
  clear hb
  generalize w2.alloc (.cells #[.slice osa nsa csa, .slice osb nsb csb] 27) = W2 at HBs HU ⊢
  generalize w2.heap.size = Xs at HBs HXW ⊢
  have HE2 := Lib.hid HBs.out.e2
  have h6 : nsb ≤ 6 := by rw [← HBs.out.e2]; exact HG.out.len
  have ks0 := HBs.out.k0
  have ks1 := HBs.out.k1
  go_upto_region 5 with (fail)
  have HU2 : Hid (w.heap.size ≤ Xs) := HXW.out
  have HB2 : Hid (BoxS (W2.alloc (.cells #[.slice osa nsa csa, .slice osb nsb csb] 27)) W2.heap.size ST osa nsa csa osb nsb csb) := BoxS.new HBs.out.st HBs.out.e1 HBs.out.e2
  have HB1 := Lib.hid (HBs.out.up (Up.alloc W2 (.cells #[.slice osa nsa csa, .slice osb nsb csb] 27)))
  have HU1 := Lib.hid (HU.out.trans (Up.alloc W2 (.cells #[.slice osa nsa csa, .slice osb nsb csb] 27)))
  have HNE : Hid (Xs ≠ W2.heap.size) := Nat.ne_of_lt HBs.out.lt
  have HX4 : Hid (w.heap.size ≤ W2.heap.size) := HU.out.size
  clear ks0 ks1
  generalize W2.alloc (.cells #[.slice osa nsa csa, .slice osb nsb csb] 27) = W3 at HB1 HB2 HU1 ⊢
  generalize W2.heap.size = X4 at HB2 HNE HX4 ⊢
  have HST : Hid (EmI ST ST ST 0 0 Xs X4 (.slice osb nsb csb) w W3) := ⟨⟨_, _, _, _, _, _, HB1.out⟩, ⟨_, _, _, _, _, _, HB2.out⟩, HB1.out.vols, HG.out, by simp, BareJ.first HG.out, HU1.out⟩
  have hcv : nsb ≤ csb ∧ csb ≤ maxLen := by obtain ⟨_, _, h1, h2, h3⟩ := HBs.out.vols.slice; simp at h1; obtain ⟨_, h4, rfl⟩ := h1; exact ⟨by omega, h3⟩
  unfold maxLen at hcv
  obtain ⟨hcv1, hcv2⟩ := hcv
  have ks0 := HB1.out.k0
  have ks1 := HB1.out.k1
  go_wp2_with fail
  go_loopw [20] (fun i wr => EmOut ST nsb Xs X4 (.slice osb nsb csb) w i wr) (fun i _ => nsb - (intOf i).toNat)
  case atStart => exact ⟨0, ST, ST, Nat.zero_le _, rfl, HST.out⟩
  case round =>
    clear ks0 ks1
    obtain ⟨k, cur, bare, hkn, rfl, hI⟩ := hrel
    have HI := Lib.hid hI
    by_cases hlt : k < nsb
    · have dz : decide (k < nsb) = true := decide_eq_true hlt
      have hkl : k < ST.v.length := by rw [HE2.out]; exact hlt
      obtain ⟨b, off, rfl, hat⟩ := hI.vols.at (fun e => by rw [e] at hkl; simp at hkl)
      obtain ⟨e1, u, e2, hi⟩ := hat k hkl
      obtain ⟨oi, ci, rfl, hi1, hi2⟩ := hi.slice
      have HDH := Lib.hid (drop_head hI.good hkl hI.rest)
      obtain ⟨NM, hNM⟩ : ∃ NM, ST.v[k].nm = NM := ⟨_, rfl⟩
      have HNM := Lib.hid hNM
      rw [hNM] at e1 HDH
      obtain ⟨L, hL⟩ : ∃ L, ST.v[k].bl.length = L := ⟨_, rfl⟩
      have HLL := Lib.hid hL
      rw [hL] at e2 hi1
      have HKL := Lib.hid hkl
      unfold maxLen at hi2
      clear hat hi hL hNM hI
      go_upto_region 8 with (fail)
      have HZ : Hid (RowC (wr.alloc (.cells #[.string (bs NM), .slice oi L ci] 31)) wr.heap.size 31 [.string (bs NM), .slice oi L ci]) := heap_alloc_new wr _
      have HIA := Lib.hid (HI.out.upW (Up.alloc wr (.cells #[.string (bs NM), .slice oi L ci] 31)))
      generalize wr.alloc (.cells #[.string (bs NM), .slice oi L ci] 31) = WA at HZ HIA ⊢
      generalize wr.heap.size = Q at HZ ⊢
      have z1 := HZ.out.cell (j := 1) rfl
      clear e1 e2 HI
      go_wp2_with fail
      go_loopw [27] (fun i wx => EmIn ST cur k L Xs X4 Q [.string (bs NM), .slice oi L ci] (.slice (some ⟨b, off, none⟩) nsb csb) w i wx) (fun i _ => L - (intOf i).toNat)
      case atStart => exact ⟨0, bare, Nat.zero_le _, rfl, HIA.out, HZ.out⟩
      case round =>
        obtain ⟨p, br, hpn, rfl, hJ, hz⟩ := hrel
        obtain ⟨WX, hWX⟩ : ∃ WX, WX = wr := ⟨_, rfl⟩
        subst hWX
        clear z1
        have HJ := Lib.hid hJ
        have HZX := Lib.hid hz
        obtain ⟨b1, b2, b3, b4, b5, b6, hb4⟩ := hJ.b4
        have HB4 := Lib.hid hb4
        obtain ⟨a1, a2, a3, a4, a5, a6, hb3⟩ := hJ.b3
        have HB3 := Lib.hid hb3
        have z0 := hz.cell (j := 0) rfl
        clear hz hb3 hJ
        by_cases hlp : p < L
        · have dp : decide (p < L) = true := decide_eq_true hlp
          have hstep := HJ.out.bj.step HG.out HKL.out (show p < (ST.v[k]'HKL.out).bl.length by rw [HLL.out]; exact hlp)
          rw [HNM.out] at hstep
          have HC := Lib.hid (StO.ow (trim_any _ br NM (p : Int) WX HB4.out.st (good_wf HJ.out.bj.good)))
          obtain ⟨⟨TSt, TEt⟩, hR⟩ : ∃ R, trim FP br NM (p : Int) = R := ⟨_, rfl⟩
          rw [hR] at HC hstep
          simp only at hstep
          obtain ⟨hs1, hs2⟩ := hstep
          subst hs1
          have HS2 := Lib.hid hs2
          have k0 := hb4.k0
          have k1 := hb4.k1
          clear hs2 hR hb4
          go_wp2_with fail
          refine HC.out.mono ?_
          clear HC
          rintro e w5 ⟨o7, c7, o8, c8, rfl, hs, hu⟩
          obtain ⟨n7, hn7⟩ : ∃ m, TSt.b.length = m := ⟨_, rfl⟩
          obtain ⟨n8, hn8⟩ : ∃ m, TSt.v.length = m := ⟨_, rfl⟩
          simp only at hs ⊢
          rw [hn7, hn8] at hs ⊢
          have hv := hu.trans (Up.alloc w5 (.cells #[.slice o7 n7 c7, .slice o8 n8 c8] 27))
          have HSN := Lib.hid (BoxS.new hs hn7 hn8)
          clear hs hu k0 k1 z0
          go_upto_region 12 with (fail)
          have HJ6 := Lib.hid (HJ.out.upW hv)
          have HZ6 := Lib.hid (HZX.out.up hv)
          have HB46 := Lib.hid (HB4.out.up hv)
          clear hv
          generalize w5.alloc (.cells #[.slice o7 n7 c7, .slice o8 n8 c8] 27) = W6 at HSN HJ6 HZ6 HB46 ⊢
          generalize w5.heap.size = X6 at HSN ⊢
          have k0 := HSN.out.k0
          have k1 := HSN.out.k1
          have r0 := HB46.out.f0
          have r1 := HB46.out.f1
          have r2 := HB46.out.k0
          have r3 := HB46.out.k1
          have HZ7 := Lib.hid (((HZ6.out.other (RowC.apart HZ6.out HB46.out.row (fun e => stVolE e.symm)) 0 (.slice o7 n7 c7))).other (RowC.apart HZ6.out HB46.out.row (fun e => stVolE e.symm)) 1 (.slice o8 n8 c8))
          have HJ7 := Lib.hid (HJ6.out.put4 HNE.out HX4.out HSN.out.st hn7 hn8 HS2.out)
          clear hn7 hn8
          go_wp2_with fail
          go_roundw
          case rel => exact ⟨p + 1, TSt, by omega, by go_num, HJ7.out, HZ7.out⟩
          case measure => simp only [intOf]; omega
        · have dp : decide (p < L) = false := decide_eq_false hlp
          have hpl : p = L := by omega
          subst hpl
          obtain ⟨hd0, hdg, hdr⟩ := HDH.out
          have HC := Lib.hid (StO.ow (vdrop_own _ cur NM WX HB3.out.st (good_wf HJ.out.good)))
          obtain ⟨⟨TSt, TEt⟩, hR⟩ : ∃ R, vdrop FP cur NM = R := ⟨_, rfl⟩
          rw [hR] at HC hd0 hdg hdr
          simp only at hd0 hdg hdr
          subst hd0
          have HDG := Lib.hid hdg
          have HDR := Lib.hid hdr
          have HNX : Hid (BareJ FP ST br (k + 1) 0) := by
            have h9 := HJ.out.bj
            have h8 : p = ST.v[k]!.bl.length := by rw [getElem!_pos ST.v k HKL.out, HLL.out]
            rw [h8] at h9
            exact h9.next HKL.out
          have k0 := HB3.out.k0
          have k1 := HB3.out.k1
          clear hdg hdr hR hb4 hlp hpn
          go_wp2_with fail
          refine HC.out.mono ?_
          clear HC
          rintro e w5 ⟨o7, c7, o8, c8, rfl, hs, hu⟩
          obtain ⟨n7, hn7⟩ : ∃ m, TSt.b.length = m := ⟨_, rfl⟩
          obtain ⟨n8, hn8⟩ : ∃ m, TSt.v.length = m := ⟨_, rfl⟩
          simp only at hs ⊢
          rw [hn7, hn8] at hs ⊢
          have hv := hu.trans (Up.alloc w5 (.cells #[.slice o7 n7 c7, .slice o8 n8 c8] 27))
          have HSN := Lib.hid (BoxS.new hs hn7 hn8)
          clear hs hu k0 k1 z0
          go_upto_region 17 with (fail)
          have HJ6 := Lib.hid (HJ.out.upW hv)
          have HB36 := Lib.hid (HB3.out.up hv)
          clear hv
          generalize w5.alloc (.cells #[.slice o7 n7 c7, .slice o8 n8 c8] 27) = W6 at HSN HJ6 HB36 ⊢
          generalize w5.heap.size = X6 at HSN ⊢
          have k0 := HSN.out.k0
          have k1 := HSN.out.k1
          have r0 := HB36.out.f0
          have r1 := HB36.out.f1
          have r2 := HB36.out.k0
          have r3 := HB36.out.k1
          have HJ7 := Lib.hid (HJ6.out.put3 HNE.out HU2.out HSN.out.st hn7 hn8 HDG.out HDR.out HNX.out)
          clear hn7 hn8
          go_wp2_with fail
          go_roundw
          case rel => exact ⟨k + 1, TSt, br, by omega, by go_num, HJ7.out⟩
          case measure => simp only [intOf]; omega
    · have dz : decide (k < nsb) = false := decide_eq_false hlt
      have hk9 : k = ST.v.length := by rw [HE2.out]; omega
      obtain ⟨b1, b2, b3, b4, b5, b6, hb4⟩ := hI.b4
      obtain ⟨a1, a2, a3, a4, a5, a6, hb3⟩ := hI.b3
      have hcv : cur.v = [] := by rw [hI.rest, hk9]; simp
      have hcb := empty_bag hI.good hcv
      have hbb : bare.b = [] := by have h9 := hI.bj; rw [hk9] at h9; exact h9.bag
      have q1 : a5 = 0 := by rw [← hb3.e2, hcv]; rfl
      have q2 : a2 = 0 := by rw [← hb3.e1, hcb]; rfl
      have q3 : b2 = 0 := by rw [← hb4.e1, hbb]; rfl
      subst q1 q2 q3
      have k0 := hb3.k0
      have k1 := hb3.k1
      have k2 := hb4.k0
      have k3 := hb4.k1
      have HUP := Lib.hid hI.up
      clear hb3 hb4 hcv hcb hbb hk9 hlt hkn hI
      go_wp2_with fail
      go_ret
      exact ⟨rfl, HUP.out⟩

end Go.Proofs.Ytkobngbjffbjiaa
