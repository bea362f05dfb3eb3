/-
  The law DiffMetric: a volume does not differ from itself; two differ from each other alike; where one differs from a third, it differs from a second, or that does. Conditions: a slice of deeds that reads as deeds.
-/
import Derived.Test.YtkobngbjffbjiaaJB42
import Derived.Test.YtkobngbjffbjiaaJB46
import Derived.Deep.DeepCutAuto
import Derived.Deep.RegionHeld3
namespace Go.Proofs.Ytkobngbjffbjiaa
open Go.RowKit
open Go.Proofs
open WoolBag
open WoolVol

def MtRel (n : Nat) (W : World) (i : Value) (wr : World) : Prop := ∃ j : Nat, j ≤ n ∧ i = .int .i64 (j : Int) ∧ Up W wr

set_option maxRecDepth 100000 in
set_option maxHeartbeats 4000000 in
theorem diffMetric_walk (a0 : Option Addr) (len0 cap0 : Nat) (z0 : List Opn) (a1 a2 a3 : Int) (w : World) (w0 : Ops w (.slice a0 len0 cap0) z0) (_ : (Lit.int .i64 a1).wf = true) (_ : (Lit.int .i64 a2).wf = true) (_ : (Lit.int .i64 a3).wf = true) :
    Calls Try.prog 13 #[.slice a0 len0 cap0, .int .i64 a1, .int .i64 a2, .int .i64 a3] w fun e w' => e = .returned (.bool true) ∧ Up w w' := by
  have HBG := Lib.hid (fun W => begun_any W)
  obtain ⟨s1, s2, hm, g1, hcl, g2, hd⟩ := metric_start
  have HAA : bs [97] = ⟨#[97]⟩ := rfl
  have HBB : bs [98] = ⟨#[98]⟩ := rfl
  have HW9 := w0
  have HOL := Lib.hid (fun W => ops_one W ⟨1, [97], [], 2, []⟩ ⟨by decide, by simp, by simp, by decide, by simp⟩)
  have HMD := Lib.hid (fun v W (h : Ops W v [⟨1, [97], [], 2, []⟩]) => MdO.of (made_any v _ W h))
  rw [hm] at HMD
  have HCL := Lib.hid (fun v W (h : Stat W v s1) => StO.ow (vclone_own v s1 [97] [98] W h (good_wf g1) (by simp)))
  rw [hcl, HAA, HBB] at HCL
  have HDF := Lib.hid (fun v W (h : Stat W v s2) => DfO.of (diff_any v s2 [97] [98] W h (good_wf g2)))
  rw [hd, HAA, HBB] at HDF
  unfold DfO at HDF
  simp only at HDF
  have HG := Lib.hid (madeO_good (F := FP) z0)
  have HOZ := Lib.hid w0
  clear HW9 w0 HAA HBB hm hcl hd
  go_enter Try.func13, Try.ntmps13
  go_wp2_with fail
  refine (HBG.out _).mono ?_
  rintro e w1 ⟨rfl, u1⟩
  have HU := Lib.hid u1
  clear u1 HBG
  go_wp2_with fail
  refine (HMD.out _ _ (HOL.out _)).mono ?_
  rintro e w2 ⟨o1, c1, o2, c2, rfl, hs, hu⟩
  replace HU := Lib.hid ((HU.out.trans (Up.alloc _ _)).trans hu)
  have HS := Lib.hid hs
  clear hs hu
  obtain ⟨m1, hm1⟩ : ∃ m, s1.b.length = m := ⟨_, rfl⟩
  obtain ⟨m2, hm2⟩ : ∃ m, s1.v.length = m := ⟨_, rfl⟩
  rw [hm1, hm2] at HS ⊢
  clear hm1 hm2
  go_wp2_with fail
  refine (HCL.out _ _ HS.out).mono ?_
  rintro e w3 ⟨oda, cda, odb, cdb, rfl, hs, hu⟩
  obtain ⟨nda, hna⟩ : ∃ m, s2.b.length = m := ⟨_, rfl⟩
  obtain ⟨ndb, hnb⟩ : ∃ m, s2.v.length = m := ⟨_, rfl⟩
  simp only at hs ⊢
  rw [hna, hnb] at hs ⊢
  have HXWXd : Hid (w.heap.size ≤ w3.heap.size) := Nat.le_trans HU.out.size hu.size
  have hb := BoxS.new hs hna hnb
  have hv := hu.trans (Up.alloc w3 (.cells #[.slice oda nda cda, .slice odb ndb cdb] 27))
  clear hu hs hna hnb
  go_upto_region 4 with (fail)
  replace HU := Lib.hid (HU.out.trans hv)
  clear hv
  have HBd := Lib.hid hb
  clear hb
  generalize w3.alloc (.cells #[.slice oda nda cda, .slice odb ndb cdb] 27) = W4 at HBd HU ⊢
  generalize w3.heap.size = Xd at HBd HXWXd ⊢
  have k0 := HBd.out.k0
  have k1 := HBd.out.k1
  go_wp2_with fail
  refine (HDF.out _ _ HBd.out.st).mono ?_
  rintro e w5 ⟨od, cd, bd, rfl, hi, hcd, hu⟩
  clear k0 k1
  simp only [List.length_nil]
  replace HBd := Lib.hid (HBd.out.up hu)
  replace HU := Lib.hid (HU.out.trans hu)
  clear hi hu
  go_upto_region 7 with (fail)
  have HC := Lib.hid (MdO.of (made_any _ z0 w5 (Ops.up HOZ.out HU.out)))
  generalize madeO FP z0 = ST at HC HG
  go_wp2_with fail
  refine HC.out.mono ?_
  clear HC
  rintro e w6 ⟨osa, csa, osb, csb, rfl, hs, hu⟩
  obtain ⟨nsa, hna⟩ : ∃ m, ST.b.length = m := ⟨_, rfl⟩
  obtain ⟨nsb, hnb⟩ : ∃ m, ST.v.length = m := ⟨_, rfl⟩
  rw [hna, hnb] at hs ⊢
  have HSs := Lib.hid hs
  have HNsa := Lib.hid hna
  have HNsb := Lib.hid hnb
  replace HBd := Lib.hid (HBd.out.up hu)
  replace HU := Lib.hid (HU.out.trans hu)
  clear hs hna hnb hu
  have r0 := HBd.out.f0
  have r1 := HBd.out.f1
  have r2 := HBd.out.k0
  have r3 := HBd.out.k1
  go_upto_region 8 with (fail)
  clear r0 r1 r2 r3
  have HBs := Lib.hid (HBd.out.put HSs.out HNsa.out HNsb.out)
  replace HU := Lib.hid (up2 (x := .slice osa nsa csa) (y := .slice osb nsb csb) HU.out HXWXd.out)
  clear HBd HSs HNsa HNsb
  generalize (w6.setCell ⟨Xd, 0, none⟩ (.slice osa nsa csa)).setCell ⟨Xd, 1, none⟩ (.slice osb nsb csb) = W7 at HBs  HU ⊢
  have HPA : Hid (∀ W, Up W7 W → Calls Try.prog 19 #[.agg #[.slice osa nsa csa, .slice osb nsb csb], .int .i64 a1] W (PickPost W)) := fun W hW => pick_any _ ST a1 W (HBs.out.up hW).st (good_wf HG.out) HG.out.len
  unfold PickPost at HPA
  have HPB : Hid (∀ W, Up W7 W → Calls Try.prog 19 #[.agg #[.slice osa nsa csa, .slice osb nsb csb], .int .i64 a2] W (PickPost W)) := fun W hW => pick_any _ ST a2 W (HBs.out.up hW).st (good_wf HG.out) HG.out.len
  unfold PickPost at HPB
  have HPC : Hid (∀ W, Up W7 W → Calls Try.prog 19 #[.agg #[.slice osa nsa csa, .slice osb nsb csb], .int .i64 a3] W (PickPost W)) := fun W hW => pick_any _ ST a3 W (HBs.out.up hW).st (good_wf HG.out) HG.out.len
  unfold PickPost at HPC
  have ks0 := HBs.out.k0
  have ks1 := HBs.out.k1
  go_cut [13, 14, 15] (fun p q r wx => Picks3 W7 p q r wx)
  case first =>
    go_region_held3 (fun U => U.cell? ⟨Xd, 0, none⟩ = some (.slice osa nsa csa) ∧ U.cell? ⟨Xd, 1, none⟩ = some (.slice osb nsb csb)) (go_keep) (first
    | (go_at_call 19; ((with_reducible refine (HPA.out _ (by first | exact ux | exact Up.drew _)).mono ?_); rintro e wz ⟨A, hlA, rfl, uz⟩; have uy : Up W7 wz := (by first | exact ux.trans uz | exact (Up.drew _).trans uz); clear uz; have ux : Up W7 wz := uy; clear uy; have s0 := (HBs.out.up ux).k0; have s1 := (HBs.out.up ux).k1))
    | (go_at_call 19; ((with_reducible refine (HPB.out _ (by first | exact ux | exact Up.drew _)).mono ?_); rintro e wz ⟨B, hlB, rfl, uz⟩; have uy : Up W7 wz := (by first | exact ux.trans uz | exact (Up.drew _).trans uz); clear uz; have ux : Up W7 wz := uy; clear uy; have s0 := (HBs.out.up ux).k0; have s1 := (HBs.out.up ux).k1))
    | (go_at_call 19; ((with_reducible refine (HPC.out _ (by first | exact ux | exact Up.drew _)).mono ?_); rintro e wz ⟨C, hlC, rfl, uz⟩; have uy : Up W7 wz := (by first | exact ux.trans uz | exact (Up.drew _).trans uz); clear uz; have ux : Up W7 wz := uy; clear uy; have s0 := (HBs.out.up ux).k0; have s1 := (HBs.out.up ux).k1)))
    all_goals
      go_wp2_with fail
      go_meet
      exact ⟨A, B, C, hlA, hlB, hlC, rfl, rfl, rfl, ux⟩
  case rest =>
    obtain ⟨A, B, C, hlA, hlB, hlC, rfl, rfl, rfl, hu⟩ := hcut
    obtain ⟨W8, hW⟩ : ∃ W, W = wc := ⟨_, rfl⟩
    subst hW
    clear ks0 ks1
    replace HBs := Lib.hid (HBs.out.up hu)
    replace HU := Lib.hid (HU.out.trans hu)
    clear hu HPA HPB HPC
    have hsy := difR_symm HG.out A B
    have hsf := difR_self HG.out A
    have htr := difR_tri HG.out A B C
    obtain ⟨⟨Di, Ei⟩, hR⟩ : ∃ R, difR ST A A = R := ⟨_, rfl⟩
    have HRi := Lib.hid hR
    clear hR
    obtain ⟨⟨Dx, Ex⟩, hR⟩ : ∃ R, difR ST A B = R := ⟨_, rfl⟩
    have HRx := Lib.hid hR
    clear hR
    obtain ⟨⟨Dz, Ez⟩, hR⟩ : ∃ R, difR ST B C = R := ⟨_, rfl⟩
    have HRz := Lib.hid hR
    clear hR
    obtain ⟨⟨Dw, Ew⟩, hR⟩ : ∃ R, difR ST A C = R := ⟨_, rfl⟩
    have HRw := Lib.hid hR
    clear hR
    have HRy : Hid (difR ST B A = (Dx, Ex)) := by show _ = _; rw [← hsy]; exact HRx.out
    rw [HRi.out] at hsf
    rw [HRx.out, HRz.out, HRw.out] at htr
    simp only at hsf htr
    subst hsf
    have HTR := Lib.hid htr
    clear htr hsy
    have HC := Lib.hid (DfO.of (diff_any _ ST A A W8 HBs.out.st (good_wf HG.out)))
    rw [HRi.out] at HC
    unfold DfO at HC
    simp only at HC
    have ks0 := HBs.out.k0
    have ks1 := HBs.out.k1
    go_wp2_with fail
    refine HC.out.mono ?_
    clear HC
    rintro e w9 ⟨oi, ci, bbi, rfl, hi, hci, hu⟩
    unfold maxLen at hci
    clear ks0 ks1
    replace HBs := Lib.hid (HBs.out.up hu)
    replace HU := Lib.hid (HU.out.trans hu)
    have HIi := Lib.hid hi
    clear hi hu
    have HC := Lib.hid (DfO.of (diff_any _ ST A B w9 HBs.out.st (good_wf HG.out)))
    rw [HRx.out] at HC
    unfold DfO at HC
    simp only at HC
    have ks0 := HBs.out.k0
    have ks1 := HBs.out.k1
    go_wp2_with fail
    refine HC.out.mono ?_
    clear HC
    rintro e w10 ⟨ox, cx, bbx, rfl, hi, hcx, hu⟩
    unfold maxLen at hcx
    clear ks0 ks1
    replace HBs := Lib.hid (HBs.out.up hu)
    replace HIi := Lib.hid (HIi.out.up hu)
    replace HU := Lib.hid (HU.out.trans hu)
    have HIx := Lib.hid hi
    clear hi hu
    have HC := Lib.hid (DfO.of (diff_any _ ST B A w10 HBs.out.st (good_wf HG.out)))
    rw [HRy.out] at HC
    unfold DfO at HC
    simp only at HC
    have ks0 := HBs.out.k0
    have ks1 := HBs.out.k1
    go_wp2_with fail
    refine HC.out.mono ?_
    clear HC
    rintro e w11 ⟨oy, cy, bby, rfl, hi, hcy, hu⟩
    unfold maxLen at hcy
    clear ks0 ks1
    replace HBs := Lib.hid (HBs.out.up hu)
    replace HIi := Lib.hid (HIi.out.up hu)
    replace HIx := Lib.hid (HIx.out.up hu)
    replace HU := Lib.hid (HU.out.trans hu)
    have HIy := Lib.hid hi
    clear hi hu
    have HC := Lib.hid (DfO.of (diff_any _ ST B C w11 HBs.out.st (good_wf HG.out)))
    rw [HRz.out] at HC
    unfold DfO at HC
    simp only at HC
    have ks0 := HBs.out.k0
    have ks1 := HBs.out.k1
    go_wp2_with fail
    refine HC.out.mono ?_
    clear HC
    rintro e w12 ⟨oz, cz, bbz, rfl, hi, hcz, hu⟩
    unfold maxLen at hcz
    clear ks0 ks1
    replace HBs := Lib.hid (HBs.out.up hu)
    replace HIi := Lib.hid (HIi.out.up hu)
    replace HIx := Lib.hid (HIx.out.up hu)
    replace HIy := Lib.hid (HIy.out.up hu)
    replace HU := Lib.hid (HU.out.trans hu)
    have HIz := Lib.hid hi
    clear hi hu
    have HC := Lib.hid (DfO.of (diff_any _ ST A C w12 HBs.out.st (good_wf HG.out)))
    rw [HRw.out] at HC
    unfold DfO at HC
    simp only at HC
    have ks0 := HBs.out.k0
    have ks1 := HBs.out.k1
    go_wp2_with fail
    refine HC.out.mono ?_
    clear HC
    rintro e w13 ⟨ow, cw, bbw, rfl, hi, hcw, hu⟩
    unfold maxLen at hcw
    clear ks0 ks1
    replace HBs := Lib.hid (HBs.out.up hu)
    replace HIi := Lib.hid (HIi.out.up hu)
    replace HIx := Lib.hid (HIx.out.up hu)
    replace HIy := Lib.hid (HIy.out.up hu)
    replace HIz := Lib.hid (HIz.out.up hu)
    replace HU := Lib.hid (HU.out.trans hu)
    have HIw := Lib.hid hi
    clear hi hu
    have hxx : (Ex == Ex) = true := by simp
    clear HRi HRx HRy HRz HRw
    by_cases hi : Ei = 0
    · subst hi
      by_cases hx : Ex = 0
      · subst hx
        by_cases hz : Ez = 0
        · subst hz
          by_cases hw : Ew = 0
          · subst hw
            have HT := Lib.hid (HTR.out rfl rfl)
            clear HTR
            obtain ⟨LX, hLX⟩ : ∃ n, Dx.length = n := ⟨_, rfl⟩
            obtain ⟨LZ, hLZ⟩ : ∃ n, Dz.length = n := ⟨_, rfl⟩
            obtain ⟨LW, hLW⟩ : ∃ n, Dw.length = n := ⟨_, rfl⟩
            rw [hLX] at HIx HIy ⊢
            rw [hLZ] at HIz ⊢
            rw [hLW] at HIw ⊢
            have HLX := Lib.hid hLX
            have HLW := Lib.hid hLW
            clear hLX hLZ hLW
            go_wp2_with fail
            go_loopw [122] (fun i wr => MtRel LW w13 i wr) (fun i _ => LW - (intOf i).toNat)
            case atStart => exact ⟨0, Nat.zero_le _, rfl, Up.refl _⟩
            case round =>
              obtain ⟨j, hj, rfl, hu⟩ := hrel
              have HUX := Lib.hid hu
              by_cases hlt : j < LW
              · have dz : decide (j < LW) = true := decide_eq_true hlt
                have hjl : j < Dw.length := by rw [HLW.out]; exact hlt
                obtain ⟨o9, c9, hv9, hc9, hc9', hat⟩ := (HIw.out.up hu).shape
                simp only [Value.slice.injEq] at hv9
                obtain ⟨rfl, hq9, rfl⟩ := hv9
                clear hq9
                rcases hat with h5 | ⟨b9, rfl, h5⟩
                · rw [h5] at hjl; simp at hjl
                have e1 := h5 j hjl
                simp only [Nat.zero_add, Nat.mul_one] at e1
                have hmem := HT.out Dw[j] (List.getElem_mem hjl)
                obtain ⟨y, hy⟩ : ∃ y, Dw[j] = y := ⟨_, rfl⟩
                rw [hy] at e1 hmem
                rw [HLW.out] at hc9
                have HCX := Lib.hid (fun W (hW : Up w13 W) => containsInt _ _ Dx y W (HIx.out.up hW))
                have HCZ := Lib.hid (fun W (hW : Up w13 W) => containsInt _ _ Dz y W (HIz.out.up hW))
                clear h5 hy hu
                cases hcx : Dx.contains y with
                | true =>
                  rw [hcx] at HCX
                  clear hcx hmem
                  go_wp2_with fail
                  refine (HCX.out _ HUX.out).mono ?_
                  rintro e w8 ⟨rfl, u8⟩
                  have HU8 := Lib.hid (HUX.out.trans u8)
                  clear u8 e1
                  go_wp2_with fail
                  go_roundw
                  case rel => exact ⟨j + 1, by omega, by go_num, HU8.out⟩
                  case measure => simp only [intOf]; omega
                | false =>
                  rw [hcx] at HCX
                  have hcz : Dz.contains y = true := by
                    rcases hmem with h | h
                    · rw [List.contains_iff_mem.2 h] at hcx; cases hcx
                    · exact List.contains_iff_mem.2 h
                  rw [hcz] at HCZ
                  clear hcx hmem hcz
                  go_wp2_with fail
                  refine (HCX.out _ HUX.out).mono ?_
                  rintro e w8 ⟨rfl, u8⟩
                  have HU8 := Lib.hid (HUX.out.trans u8)
                  clear u8 e1
                  go_wp2_with fail
                  refine (HCZ.out _ HU8.out).mono ?_
                  rintro e w9 ⟨rfl, u9⟩
                  have HU9 := Lib.hid (HU8.out.trans u9)
                  clear u9
                  go_wp2_with fail
                  go_roundw
                  case rel => exact ⟨j + 1, by omega, by go_num, HU9.out⟩
                  case measure => simp only [intOf]; omega
              · have dz : decide (j < LW) = false := decide_eq_false hlt
                have HEQ := Lib.hid (equalN_yes _ _ Dx wr (by have h9 := Sl.of_own (HIx.out.up hu); exact h9) (by have h9 := Sl.of_own (HIy.out.up hu); exact h9))
                clear hu hlt hj
                go_wp2_with fail
                refine HEQ.out.mono ?_
                rintro e w8 ⟨rfl, u8⟩
                have HU8 := Lib.hid ((HU.out.trans HUX.out).trans u8)
                clear u8
                go_wp2_with fail
                go_ret
                exact ⟨rfl, HU8.out⟩
          · skip
            have hq : (Ew == 0) = false := by rw [beq_eq_false_iff_ne]; exact hw
            go_wp2_with fail
            go_ret
            exact ⟨rfl, HU.out⟩
        · skip
          have hq : (Ez == 0) = false := by rw [beq_eq_false_iff_ne]; exact hz
          go_wp2_with fail
          go_ret
          exact ⟨rfl, HU.out⟩
      · skip
        have hq : (Ex == 0) = false := by rw [beq_eq_false_iff_ne]; exact hx
        go_wp2_with fail
        go_ret
        exact ⟨rfl, HU.out⟩
    · skip
      have hq : (Ei == 0) = false := by rw [beq_eq_false_iff_ne]; exact hi
      go_wp2_with fail
      go_ret
      exact ⟨rfl, HU.out⟩

end Go.Proofs.Ytkobngbjffbjiaa
