/-
  The law VolClones: a clone has what there was, takes no room, and what is written in one of the two changes nothing in the other. Conditions: a slice of deeds that reads as deeds.
-/
import Derived.Test.YtkobngbjffbjiaaJB42
import Derived.Test.YtkobngbjffbjiaaJB43
import Derived.Deep.DeepCutAuto
import Derived.Deep.RegionHeld3
namespace Go.Proofs.Ytkobngbjffbjiaa
open Go.RowKit
open Go.Proofs
open WoolBag
open WoolVol

set_option maxRecDepth 100000 in
set_option maxHeartbeats 4000000 in
theorem volClones_walk (a0 : Option Addr) (len0 cap0 : Nat) (z0 : List Opn) (a1 : Int) (a2 : ByteArray) (a3 : Int) (a4 : ByteArray) (w : World) (w0 : Ops w (.slice a0 len0 cap0) z0) (_ : (Lit.int .i64 a1).wf = true) (w2 : a2.size ≤ 140737488351232) (_ : (Lit.int .i64 a3).wf = true) (_ : a4.size ≤ 140737488351232) :
    Calls Try.prog 5 #[.slice a0 len0 cap0, .int .i64 a1, .string a2, .int .i64 a3, .string a4] w fun e w' => e = .returned (.bool true) ∧ Up w w' := by
  have hla : a2.data.toList.length ≤ 9223372036854775807 := by rw [ba_length]; omega
  obtain ⟨B, rfl⟩ : ∃ B, a2 = bs B := ⟨a2.data.toList, (bs_of a2).symm⟩
  rw [bs_list] at hla
  have HLA := Lib.hid hla
  clear hla w2
  obtain ⟨S, rfl⟩ : ∃ S, a4 = bs S := ⟨a4.data.toList, (bs_of a4).symm⟩
  have HBG := Lib.hid (fun W => begun_any W)
  go_enter Try.func5, Try.ntmps5
  go_wp2_with fail
  refine (HBG.out _).mono ?_
  rintro e w1 ⟨rfl, u1⟩
  have HU := Lib.hid u1
  have HC := Lib.hid (MdO.of (made_any _ z0 w1 (Ops.up w0 u1)))
  have HG := Lib.hid (madeO_good (F := FP) z0)
  clear u1 HBG
  generalize madeO FP z0 = ST at HC HG
  go_wp2_with fail
  refine HC.out.mono ?_
  clear HC
  rintro e w2 ⟨osa, csa, osb, csb, rfl, hs, hu⟩
  obtain ⟨nsa, hna⟩ : ∃ m, ST.b.length = m := ⟨_, rfl⟩
  obtain ⟨nsb, hnb⟩ : ∃ m, ST.v.length = m := ⟨_, rfl⟩
  rw [hna, hnb] at hs ⊢
  have hb := BoxS.new hs hna hnb
  have hv := hu.trans (Up.alloc w2 (.cells #[.slice osa nsa csa, .slice osb nsb csb] 27))
  clear hu hs hna hnb
  go_upto_region 4 with (fail)
  replace HU := Lib.hid (HU.out.trans hv)
  clear hv
  have HBs := Lib.hid hb
  clear hb
  generalize w2.alloc (.cells #[.slice osa nsa csa, .slice osb nsb csb] 27) = W2 at HBs HU ⊢
  generalize w2.heap.size = Xs at HBs ⊢
  have HC := Lib.hid (pick_any _ ST a1 W2 HBs.out.st (good_wf HG.out) HG.out.len)
  unfold PickPost at HC
  have ks0 := HBs.out.k0
  have ks1 := HBs.out.k1
  go_wp2_with fail
  refine HC.out.mono ?_
  clear HC
  rintro e w3 ⟨A, hlA, rfl, hu⟩
  clear ks0 ks1
  replace HBs := Lib.hid (HBs.out.up hu)
  replace HU := Lib.hid (HU.out.trans hu)
  clear hu
  obtain ⟨⟨TSx, TEx⟩, hR⟩ : ∃ R, clone FP ST A B = R := ⟨_, rfl⟩
  have HRx := Lib.hid hR
  clear hR
  have HGx := Lib.hid (clone_goodA (F := FP) ST A B)
  rw [HRx.out] at HGx
  simp only at HGx
  have HC := Lib.hid (StO.ow (vclone_own _ ST A B w3 HBs.out.st (good_wf HG.out) HLA.out))
  rw [HRx.out] at HC
  have ks0 := HBs.out.k0
  have ks1 := HBs.out.k1
  go_wp2_with fail
  refine HC.out.mono ?_
  clear HC
  rintro e w4 ⟨oxa, cxa, oxb, cxb, rfl, hs, hu⟩
  simp only at hs ⊢
  clear ks0 ks1
  obtain ⟨nxa, hna⟩ : ∃ m, TSx.b.length = m := ⟨_, rfl⟩
  obtain ⟨nxb, hnb⟩ : ∃ m, TSx.v.length = m := ⟨_, rfl⟩
  rw [hna, hnb] at hs ⊢
  have hb := BoxS.new hs hna hnb
  have hv := hu.trans (Up.alloc w4 (.cells #[.slice oxa nxa cxa, .slice oxb nxb cxb] 27))
  clear hu hs hna hnb
  go_upto_region 6 with (fail)
  replace HBs := Lib.hid (HBs.out.up hv)
  replace HU := Lib.hid (HU.out.trans hv)
  clear hv
  have HBx := Lib.hid hb
  clear hb
  generalize w4.alloc (.cells #[.slice oxa nxa cxa, .slice oxb nxb cxb] 27) = W5 at HBs HBx   HU ⊢
  generalize w4.heap.size = Xx at HBx  ⊢
  by_cases hE : TEx = 0
  · subst hE
    obtain ⟨ht1, hbb, hw1, hw2, hdr⟩ := law_clones (F := FP) (st := ST) (s := A) (t := B) (by rw [HRx.out])
    rw [HRx.out] at ht1 hbb hw1 hw2 hdr
    simp only at ht1 hbb hw1 hw2 hdr
    have q1 : nxa = nsa := by rw [← HBx.out.e1, ← HBs.out.e1]; exact hbb
    subst q1
    have hqq : ((nxa : Int) != (nxa : Int)) = false := by simp
    have HT1 := Lib.hid ht1
    have HW1 := Lib.hid (hw1 a3 S)
    have HW2 := Lib.hid (hw2 a3 S)
    have HDR := Lib.hid hdr
    have HLN := Lib.hid (textsG_len HG.out A)
    clear HRx ht1 hw1 hw2 hdr hbb
    obtain ⟨L, hL⟩ : ∃ L, textsG FP ST A = L := ⟨_, rfl⟩
    have HL := Lib.hid hL
    clear hL
    rw [HL.out] at HT1 HW1 HW2 HLN
    have HC := Lib.hid (TxO.of (texts_any _ ST A W5 HBs.out.st HG.out))
    rw [HL.out] at HC
    have ks0 := HBs.out.k0
    have ks1 := HBs.out.k1
    go_wp2_with fail
    refine HC.out.mono ?_
    clear HC
    rintro e w6 ⟨op, cp, rfl, hs, hu⟩
    clear ks0 ks1
    replace HBs := Lib.hid (HBs.out.up hu)
    replace HBx := Lib.hid (HBx.out.up hu)
    replace HU := Lib.hid (HU.out.trans hu)
    have HTp := Lib.hid hs
    clear hs hu
    have HC := Lib.hid (TxO.of (texts_any _ TSx B w6 HBx.out.st HGx.out))
    rw [HT1.out] at HC
    have kx0 := HBx.out.k0
    have kx1 := HBx.out.k1
    go_wp2_with fail
    refine HC.out.mono ?_
    clear HC
    rintro e w7 ⟨oq, cq, rfl, hs, hu⟩
    clear kx0 kx1
    replace HBs := Lib.hid (HBs.out.up hu)
    replace HBx := Lib.hid (HBx.out.up hu)
    replace HTp := Lib.hid (HTp.out.up hu)
    replace HU := Lib.hid (HU.out.trans hu)
    have HTq := Lib.hid hs
    clear hs hu
    have k0 := HBx.out.k0
    have k1 := HBs.out.k0
    have HC := Lib.hid (equalT_same _ _ _ _ w7 (HLN.out) HTq.out HTp.out (rfl))
    go_wp2_with fail
    refine HC.out.mono ?_
    clear HC
    rintro e w8 ⟨rfl, hu⟩
    replace HBs := Lib.hid (HBs.out.up hu)
    replace HBx := Lib.hid (HBx.out.up hu)
    replace HTp := Lib.hid (HTp.out.up hu)
    replace HTq := Lib.hid (HTq.out.up hu)
    replace HU := Lib.hid (HU.out.trans hu)
    clear hu
    clear k0 k1
    have k0 := HBx.out.k0
    have k1 := HBx.out.k1
    have k2 := HBs.out.k0
    obtain ⟨⟨TSy, TEy⟩, hR⟩ : ∃ R, write FP TSx B a3 S = R := ⟨_, rfl⟩
    have HRy := Lib.hid hR
    clear hR
    have HGy := Lib.hid (write_goodA (F := FP) TSx B S a3)
    rw [HRy.out] at HGy
    simp only at HGy
    obtain ⟨⟨TSz, TEz⟩, hR⟩ : ∃ R, write FP TSx A a3 S = R := ⟨_, rfl⟩
    have HRz := Lib.hid hR
    clear hR
    have HGz := Lib.hid (write_goodA (F := FP) TSx A S a3)
    rw [HRz.out] at HGz
    simp only at HGz
    obtain ⟨⟨TSv, TEv⟩, hR⟩ : ∃ R, vdrop FP TSx B = R := ⟨_, rfl⟩
    have HRv := Lib.hid hR
    clear hR
    have HGv := Lib.hid (vdrop_goodA (F := FP) TSx B)
    rw [HRv.out] at HGv
    simp only at HGv
    rw [HRy.out] at HW1
    rw [HRz.out] at HW2
    have HV := Lib.hid (HDR.out.symm.trans HRv.out)
    simp only at HW1 HW2
    go_upto_region 11 with (fail)
    clear k0 k1 k2
    have HC := Lib.hid (StO.ow (write_any _ TSx B S a3 w8 HBx.out.st (good_wf HGx.out)))
    rw [HRy.out] at HC
    have kx0 := HBx.out.k0
    have kx1 := HBx.out.k1
    go_wp2_with fail
    refine HC.out.mono ?_
    clear HC
    rintro e w9 ⟨oya, cya, oyb, cyb, rfl, hs, hu⟩
    simp only at hs ⊢
    clear kx0 kx1
    obtain ⟨nya, hna⟩ : ∃ m, TSy.b.length = m := ⟨_, rfl⟩
    obtain ⟨nyb, hnb⟩ : ∃ m, TSy.v.length = m := ⟨_, rfl⟩
    rw [hna, hnb] at hs ⊢
    have hb := BoxS.new hs hna hnb
    have hv := hu.trans (Up.alloc w9 (.cells #[.slice oya nya cya, .slice oyb nyb cyb] 27))
    clear hu hs hna hnb
    go_upto_region 12 with (fail)
    replace HBs := Lib.hid (HBs.out.up hv)
    replace HBx := Lib.hid (HBx.out.up hv)
    replace HTp := Lib.hid (HTp.out.up hv)
    replace HTq := Lib.hid (HTq.out.up hv)
    replace HU := Lib.hid (HU.out.trans hv)
    clear hv
    have HBy := Lib.hid hb
    clear hb
    generalize w9.alloc (.cells #[.slice oya nya cya, .slice oyb nyb cyb] 27) = W10 at HBs HBx HBy HTp HTq  HU ⊢
    generalize w9.heap.size = Xy at HBy  ⊢
    by_cases hy0 : TEy = 0
    · subst hy0
      replace HW1 := Lib.hid (HW1.out rfl)
      have HC := Lib.hid (TxO.of (texts_any _ TSy A W10 HBy.out.st HGy.out))
      rw [HW1.out] at HC
      have ky0 := HBy.out.k0
      have ky1 := HBy.out.k1
      go_wp2_with fail
      refine HC.out.mono ?_
      clear HC
      rintro e w11 ⟨od, cd, rfl, hs, hu⟩
      clear ky0 ky1
      replace HBs := Lib.hid (HBs.out.up hu)
      replace HBx := Lib.hid (HBx.out.up hu)
      replace HBy := Lib.hid (HBy.out.up hu)
      replace HTp := Lib.hid (HTp.out.up hu)
      replace HTq := Lib.hid (HTq.out.up hu)
      replace HU := Lib.hid (HU.out.trans hu)
      have HTd := Lib.hid hs
      clear hs hu
      have HC := Lib.hid (equalT_same _ _ _ _ w11 (HLN.out) HTd.out HTp.out (rfl))
      go_wp2_with fail
      refine HC.out.mono ?_
      clear HC
      rintro e w12 ⟨rfl, hu⟩
      replace HBs := Lib.hid (HBs.out.up hu)
      replace HBx := Lib.hid (HBx.out.up hu)
      replace HBy := Lib.hid (HBy.out.up hu)
      replace HTp := Lib.hid (HTp.out.up hu)
      replace HTq := Lib.hid (HTq.out.up hu)
      replace HTd := Lib.hid (HTd.out.up hu)
      replace HU := Lib.hid (HU.out.trans hu)
      clear hu
      go_upto_region 14 with (fail)
      have HC := Lib.hid (StO.ow (write_any _ TSx A S a3 w12 HBx.out.st (good_wf HGx.out)))
      rw [HRz.out] at HC
      have kx0 := HBx.out.k0
      have kx1 := HBx.out.k1
      go_wp2_with fail
      refine HC.out.mono ?_
      clear HC
      rintro e w13 ⟨oza, cza, ozb, czb, rfl, hs, hu⟩
      simp only at hs ⊢
      clear kx0 kx1
      obtain ⟨nza, hna⟩ : ∃ m, TSz.b.length = m := ⟨_, rfl⟩
      obtain ⟨nzb, hnb⟩ : ∃ m, TSz.v.length = m := ⟨_, rfl⟩
      rw [hna, hnb] at hs ⊢
      have hb := BoxS.new hs hna hnb
      have hv := hu.trans (Up.alloc w13 (.cells #[.slice oza nza cza, .slice ozb nzb czb] 27))
      clear hu hs hna hnb
      go_upto_region 15 with (fail)
      replace HBs := Lib.hid (HBs.out.up hv)
      replace HBx := Lib.hid (HBx.out.up hv)
      replace HBy := Lib.hid (HBy.out.up hv)
      replace HTp := Lib.hid (HTp.out.up hv)
      replace HTq := Lib.hid (HTq.out.up hv)
      replace HTd := Lib.hid (HTd.out.up hv)
      replace HU := Lib.hid (HU.out.trans hv)
      clear hv
      have HBz := Lib.hid hb
      clear hb
      generalize w13.alloc (.cells #[.slice oza nza cza, .slice ozb nzb czb] 27) = W14 at HBs HBx HBy HBz HTp HTq HTd  HU ⊢
      generalize w13.heap.size = Xz at HBz  ⊢
      by_cases hz0 : TEz = 0
      · subst hz0
        replace HW2 := Lib.hid (HW2.out rfl)
        have HC := Lib.hid (TxO.of (texts_any _ TSz B W14 HBz.out.st HGz.out))
        rw [HW2.out] at HC
        have kz0 := HBz.out.k0
        have kz1 := HBz.out.k1
        go_wp2_with fail
        refine HC.out.mono ?_
        clear HC
        rintro e w15 ⟨of, cf, rfl, hs, hu⟩
        clear kz0 kz1
        replace HBs := Lib.hid (HBs.out.up hu)
        replace HBx := Lib.hid (HBx.out.up hu)
        replace HBy := Lib.hid (HBy.out.up hu)
        replace HBz := Lib.hid (HBz.out.up hu)
        replace HTp := Lib.hid (HTp.out.up hu)
        replace HTq := Lib.hid (HTq.out.up hu)
        replace HTd := Lib.hid (HTd.out.up hu)
        replace HU := Lib.hid (HU.out.trans hu)
        have HTf := Lib.hid hs
        clear hs hu
        have HC := Lib.hid (equalT_same _ _ _ _ w15 (HLN.out) HTf.out HTp.out (rfl))
        go_wp2_with fail
        refine HC.out.mono ?_
        clear HC
        rintro e w16 ⟨rfl, hu⟩
        replace HBs := Lib.hid (HBs.out.up hu)
        replace HBx := Lib.hid (HBx.out.up hu)
        replace HBy := Lib.hid (HBy.out.up hu)
        replace HBz := Lib.hid (HBz.out.up hu)
        replace HTp := Lib.hid (HTp.out.up hu)
        replace HTq := Lib.hid (HTq.out.up hu)
        replace HTd := Lib.hid (HTd.out.up hu)
        replace HTf := Lib.hid (HTf.out.up hu)
        replace HU := Lib.hid (HU.out.trans hu)
        clear hu
        go_upto_region 17 with (fail)
        have HC := Lib.hid (StO.ow (vdrop_own _ TSx B w16 HBx.out.st (good_wf HGx.out)))
        rw [HRv.out] at HC
        have kx0 := HBx.out.k0
        have kx1 := HBx.out.k1
        go_wp2_with fail
        refine HC.out.mono ?_
        clear HC
        rintro e w17 ⟨ova, cva, ovb, cvb, rfl, hs, hu⟩
        simp only at hs ⊢
        clear kx0 kx1
        obtain ⟨nva, hna⟩ : ∃ m, TSv.b.length = m := ⟨_, rfl⟩
        obtain ⟨nvb, hnb⟩ : ∃ m, TSv.v.length = m := ⟨_, rfl⟩
        rw [hna, hnb] at hs ⊢
        have hb := BoxS.new hs hna hnb
        have hv := hu.trans (Up.alloc w17 (.cells #[.slice ova nva cva, .slice ovb nvb cvb] 27))
        clear hu hs hna hnb
        go_upto_region 18 with (fail)
        replace HBs := Lib.hid (HBs.out.up hv)
        replace HBx := Lib.hid (HBx.out.up hv)
        replace HBy := Lib.hid (HBy.out.up hv)
        replace HBz := Lib.hid (HBz.out.up hv)
        replace HTp := Lib.hid (HTp.out.up hv)
        replace HTq := Lib.hid (HTq.out.up hv)
        replace HTd := Lib.hid (HTd.out.up hv)
        replace HTf := Lib.hid (HTf.out.up hv)
        replace HU := Lib.hid (HU.out.trans hv)
        clear hv
        have HBv := Lib.hid hb
        clear hb
        generalize w17.alloc (.cells #[.slice ova nva cva, .slice ovb nvb cvb] 27) = W18 at HBs HBx HBy HBz HBv HTp HTq HTd HTf  HU ⊢
        generalize w17.heap.size = Xv at HBv  ⊢
        have hv := HV.out
        simp only [Prod.mk.injEq] at hv
        obtain ⟨hv1, hv2⟩ := hv
        subst hv2
        have HC := Lib.hid (same_yes _ _ ST W18 (by have h9 := HBv.out.st; rwa [← hv1] at h9) HBs.out.st)
        clear hv1
        have kv0 := HBv.out.k0
        have kv1 := HBv.out.k1
        have ks0 := HBs.out.k0
        have ks1 := HBs.out.k1
        go_wp2_with fail
        refine HC.out.mono ?_
        clear HC
        rintro e wz ⟨rfl, hu⟩
        clear kv0 kv1 ks0 ks1
        replace HBs := Lib.hid (HBs.out.up hu)
        replace HBx := Lib.hid (HBx.out.up hu)
        replace HBy := Lib.hid (HBy.out.up hu)
        replace HBz := Lib.hid (HBz.out.up hu)
        replace HBv := Lib.hid (HBv.out.up hu)
        replace HTp := Lib.hid (HTp.out.up hu)
        replace HTq := Lib.hid (HTq.out.up hu)
        replace HTd := Lib.hid (HTd.out.up hu)
        replace HTf := Lib.hid (HTf.out.up hu)
        replace HU := Lib.hid (HU.out.trans hu)
        clear hu
        go_wp2_with fail
        go_ret
        exact ⟨rfl, HU.out⟩
      · skip
        have hzz : (TEz == 0) = false := by rw [beq_eq_false_iff_ne]; exact hz0
        go_upto_region 17 with (fail)
        have HC := Lib.hid (StO.ow (vdrop_own _ TSx B W14 HBx.out.st (good_wf HGx.out)))
        rw [HRv.out] at HC
        have kx0 := HBx.out.k0
        have kx1 := HBx.out.k1
        go_wp2_with fail
        refine HC.out.mono ?_
        clear HC
        rintro e w19 ⟨ova, cva, ovb, cvb, rfl, hs, hu⟩
        simp only at hs ⊢
        clear kx0 kx1
        obtain ⟨nva, hna⟩ : ∃ m, TSv.b.length = m := ⟨_, rfl⟩
        obtain ⟨nvb, hnb⟩ : ∃ m, TSv.v.length = m := ⟨_, rfl⟩
        rw [hna, hnb] at hs ⊢
        have hb := BoxS.new hs hna hnb
        have hv := hu.trans (Up.alloc w19 (.cells #[.slice ova nva cva, .slice ovb nvb cvb] 27))
        clear hu hs hna hnb
        go_upto_region 18 with (fail)
        replace HBs := Lib.hid (HBs.out.up hv)
        replace HBx := Lib.hid (HBx.out.up hv)
        replace HBy := Lib.hid (HBy.out.up hv)
        replace HBz := Lib.hid (HBz.out.up hv)
        replace HTp := Lib.hid (HTp.out.up hv)
        replace HTq := Lib.hid (HTq.out.up hv)
        replace HTd := Lib.hid (HTd.out.up hv)
        replace HU := Lib.hid (HU.out.trans hv)
        clear hv
        have HBv := Lib.hid hb
        clear hb
        generalize w19.alloc (.cells #[.slice ova nva cva, .slice ovb nvb cvb] 27) = W20 at HBs HBx HBy HBz HBv HTp HTq HTd  HU ⊢
        generalize w19.heap.size = Xv at HBv  ⊢
        have hv := HV.out
        simp only [Prod.mk.injEq] at hv
        obtain ⟨hv1, hv2⟩ := hv
        subst hv2
        have HC := Lib.hid (same_yes _ _ ST W20 (by have h9 := HBv.out.st; rwa [← hv1] at h9) HBs.out.st)
        clear hv1
        have kv0 := HBv.out.k0
        have kv1 := HBv.out.k1
        have ks0 := HBs.out.k0
        have ks1 := HBs.out.k1
        go_wp2_with fail
        refine HC.out.mono ?_
        clear HC
        rintro e wz ⟨rfl, hu⟩
        clear kv0 kv1 ks0 ks1
        replace HBs := Lib.hid (HBs.out.up hu)
        replace HBx := Lib.hid (HBx.out.up hu)
        replace HBy := Lib.hid (HBy.out.up hu)
        replace HBz := Lib.hid (HBz.out.up hu)
        replace HBv := Lib.hid (HBv.out.up hu)
        replace HTp := Lib.hid (HTp.out.up hu)
        replace HTq := Lib.hid (HTq.out.up hu)
        replace HTd := Lib.hid (HTd.out.up hu)
        replace HU := Lib.hid (HU.out.trans hu)
        clear hu
        go_wp2_with fail
        go_ret
        exact ⟨rfl, HU.out⟩
    · skip
      have hyy : (TEy == 0) = false := by rw [beq_eq_false_iff_ne]; exact hy0
      go_upto_region 14 with (fail)
      have HC := Lib.hid (StO.ow (write_any _ TSx A S a3 W10 HBx.out.st (good_wf HGx.out)))
      rw [HRz.out] at HC
      have kx0 := HBx.out.k0
      have kx1 := HBx.out.k1
      go_wp2_with fail
      refine HC.out.mono ?_
      clear HC
      rintro e w15 ⟨oza, cza, ozb, czb, rfl, hs, hu⟩
      simp only at hs ⊢
      clear kx0 kx1
      obtain ⟨nza, hna⟩ : ∃ m, TSz.b.length = m := ⟨_, rfl⟩
      obtain ⟨nzb, hnb⟩ : ∃ m, TSz.v.length = m := ⟨_, rfl⟩
      rw [hna, hnb] at hs ⊢
      have hb := BoxS.new hs hna hnb
      have hv := hu.trans (Up.alloc w15 (.cells #[.slice oza nza cza, .slice ozb nzb czb] 27))
      clear hu hs hna hnb
      go_upto_region 15 with (fail)
      replace HBs := Lib.hid (HBs.out.up hv)
      replace HBx := Lib.hid (HBx.out.up hv)
      replace HBy := Lib.hid (HBy.out.up hv)
      replace HTp := Lib.hid (HTp.out.up hv)
      replace HTq := Lib.hid (HTq.out.up hv)
      replace HU := Lib.hid (HU.out.trans hv)
      clear hv
      have HBz := Lib.hid hb
      clear hb
      generalize w15.alloc (.cells #[.slice oza nza cza, .slice ozb nzb czb] 27) = W16 at HBs HBx HBy HBz HTp HTq  HU ⊢
      generalize w15.heap.size = Xz at HBz  ⊢
      by_cases hz0 : TEz = 0
      · subst hz0
        replace HW2 := Lib.hid (HW2.out rfl)
        have HC := Lib.hid (TxO.of (texts_any _ TSz B W16 HBz.out.st HGz.out))
        rw [HW2.out] at HC
        have kz0 := HBz.out.k0
        have kz1 := HBz.out.k1
        go_wp2_with fail
        refine HC.out.mono ?_
        clear HC
        rintro e w17 ⟨of, cf, rfl, hs, hu⟩
        clear kz0 kz1
        replace HBs := Lib.hid (HBs.out.up hu)
        replace HBx := Lib.hid (HBx.out.up hu)
        replace HBy := Lib.hid (HBy.out.up hu)
        replace HBz := Lib.hid (HBz.out.up hu)
        replace HTp := Lib.hid (HTp.out.up hu)
        replace HTq := Lib.hid (HTq.out.up hu)
        replace HU := Lib.hid (HU.out.trans hu)
        have HTf := Lib.hid hs
        clear hs hu
        have HC := Lib.hid (equalT_same _ _ _ _ w17 (HLN.out) HTf.out HTp.out (rfl))
        go_wp2_with fail
        refine HC.out.mono ?_
        clear HC
        rintro e w18 ⟨rfl, hu⟩
        replace HBs := Lib.hid (HBs.out.up hu)
        replace HBx := Lib.hid (HBx.out.up hu)
        replace HBy := Lib.hid (HBy.out.up hu)
        replace HBz := Lib.hid (HBz.out.up hu)
        replace HTp := Lib.hid (HTp.out.up hu)
        replace HTq := Lib.hid (HTq.out.up hu)
        replace HTf := Lib.hid (HTf.out.up hu)
        replace HU := Lib.hid (HU.out.trans hu)
        clear hu
        go_upto_region 17 with (fail)
        have HC := Lib.hid (StO.ow (vdrop_own _ TSx B w18 HBx.out.st (good_wf HGx.out)))
        rw [HRv.out] at HC
        have kx0 := HBx.out.k0
        have kx1 := HBx.out.k1
        go_wp2_with fail
        refine HC.out.mono ?_
        clear HC
        rintro e w19 ⟨ova, cva, ovb, cvb, rfl, hs, hu⟩
        simp only at hs ⊢
        clear kx0 kx1
        obtain ⟨nva, hna⟩ : ∃ m, TSv.b.length = m := ⟨_, rfl⟩
        obtain ⟨nvb, hnb⟩ : ∃ m, TSv.v.length = m := ⟨_, rfl⟩
        rw [hna, hnb] at hs ⊢
        have hb := BoxS.new hs hna hnb
        have hv := hu.trans (Up.alloc w19 (.cells #[.slice ova nva cva, .slice ovb nvb cvb] 27))
        clear hu hs hna hnb
        go_upto_region 18 with (fail)
        replace HBs := Lib.hid (HBs.out.up hv)
        replace HBx := Lib.hid (HBx.out.up hv)
        replace HBy := Lib.hid (HBy.out.up hv)
        replace HBz := Lib.hid (HBz.out.up hv)
        replace HTp := Lib.hid (HTp.out.up hv)
        replace HTq := Lib.hid (HTq.out.up hv)
        replace HTf := Lib.hid (HTf.out.up hv)
        replace HU := Lib.hid (HU.out.trans hv)
        clear hv
        have HBv := Lib.hid hb
        clear hb
        generalize w19.alloc (.cells #[.slice ova nva cva, .slice ovb nvb cvb] 27) = W20 at HBs HBx HBy HBz HBv HTp HTq HTf  HU ⊢
        generalize w19.heap.size = Xv at HBv  ⊢
        have hv := HV.out
        simp only [Prod.mk.injEq] at hv
        obtain ⟨hv1, hv2⟩ := hv
        subst hv2
        have HC := Lib.hid (same_yes _ _ ST W20 (by have h9 := HBv.out.st; rwa [← hv1] at h9) HBs.out.st)
        clear hv1
        have kv0 := HBv.out.k0
        have kv1 := HBv.out.k1
        have ks0 := HBs.out.k0
        have ks1 := HBs.out.k1
        go_wp2_with fail
        refine HC.out.mono ?_
        clear HC
        rintro e wz ⟨rfl, hu⟩
        clear kv0 kv1 ks0 ks1
        replace HBs := Lib.hid (HBs.out.up hu)
        replace HBx := Lib.hid (HBx.out.up hu)
        replace HBy := Lib.hid (HBy.out.up hu)
        replace HBz := Lib.hid (HBz.out.up hu)
        replace HBv := Lib.hid (HBv.out.up hu)
        replace HTp := Lib.hid (HTp.out.up hu)
        replace HTq := Lib.hid (HTq.out.up hu)
        replace HTf := Lib.hid (HTf.out.up hu)
        replace HU := Lib.hid (HU.out.trans hu)
        clear hu
        go_wp2_with fail
        go_ret
        exact ⟨rfl, HU.out⟩
      · skip
        have hzz : (TEz == 0) = false := by rw [beq_eq_false_iff_ne]; exact hz0
        go_upto_region 17 with (fail)
        have HC := Lib.hid (StO.ow (vdrop_own _ TSx B W16 HBx.out.st (good_wf HGx.out)))
        rw [HRv.out] at HC
        have kx0 := HBx.out.k0
        have kx1 := HBx.out.k1
        go_wp2_with fail
        refine HC.out.mono ?_
        clear HC
        rintro e w21 ⟨ova, cva, ovb, cvb, rfl, hs, hu⟩
        simp only at hs ⊢
        clear kx0 kx1
        obtain ⟨nva, hna⟩ : ∃ m, TSv.b.length = m := ⟨_, rfl⟩
        obtain ⟨nvb, hnb⟩ : ∃ m, TSv.v.length = m := ⟨_, rfl⟩
        rw [hna, hnb] at hs ⊢
        have hb := BoxS.new hs hna hnb
        have hv := hu.trans (Up.alloc w21 (.cells #[.slice ova nva cva, .slice ovb nvb cvb] 27))
        clear hu hs hna hnb
        go_upto_region 18 with (fail)
        replace HBs := Lib.hid (HBs.out.up hv)
        replace HBx := Lib.hid (HBx.out.up hv)
        replace HBy := Lib.hid (HBy.out.up hv)
        replace HBz := Lib.hid (HBz.out.up hv)
        replace HTp := Lib.hid (HTp.out.up hv)
        replace HTq := Lib.hid (HTq.out.up hv)
        replace HU := Lib.hid (HU.out.trans hv)
        clear hv
        have HBv := Lib.hid hb
        clear hb
        generalize w21.alloc (.cells #[.slice ova nva cva, .slice ovb nvb cvb] 27) = W22 at HBs HBx HBy HBz HBv HTp HTq  HU ⊢
        generalize w21.heap.size = Xv at HBv  ⊢
        have hv := HV.out
        simp only [Prod.mk.injEq] at hv
        obtain ⟨hv1, hv2⟩ := hv
        subst hv2
        have HC := Lib.hid (same_yes _ _ ST W22 (by have h9 := HBv.out.st; rwa [← hv1] at h9) HBs.out.st)
        clear hv1
        have kv0 := HBv.out.k0
        have kv1 := HBv.out.k1
        have ks0 := HBs.out.k0
        have ks1 := HBs.out.k1
        go_wp2_with fail
        refine HC.out.mono ?_
        clear HC
        rintro e wz ⟨rfl, hu⟩
        clear kv0 kv1 ks0 ks1
        replace HBs := Lib.hid (HBs.out.up hu)
        replace HBx := Lib.hid (HBx.out.up hu)
        replace HBy := Lib.hid (HBy.out.up hu)
        replace HBz := Lib.hid (HBz.out.up hu)
        replace HBv := Lib.hid (HBv.out.up hu)
        replace HTp := Lib.hid (HTp.out.up hu)
        replace HTq := Lib.hid (HTq.out.up hu)
        replace HU := Lib.hid (HU.out.trans hu)
        clear hu
        go_wp2_with fail
        go_ret
        exact ⟨rfl, HU.out⟩
  · skip
    have hE0 : (TEx == 0) = false := by rw [beq_eq_false_iff_ne]; exact hE
    have hz : TSx = zeroS := by have := clone_errZ (F := FP) (st := ST) (s := A) (t := B) (by rw [HRx.out]; exact hE); rwa [HRx.out] at this
    have hn0 : nxb = 0 := by have h9 := HBx.out.e2; rw [hz] at h9; exact h9.symm
    subst hn0
    have kx0 := HBx.out.k0
    have kx1 := HBx.out.k1
    go_wp2_with fail
    go_ret
    exact ⟨rfl, HU.out⟩

end Go.Proofs.Ytkobngbjffbjiaa
