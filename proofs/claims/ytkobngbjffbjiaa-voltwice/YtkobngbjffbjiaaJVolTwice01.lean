/-
  The law VolTwice: written twice is written once, the last time; made and dropped, all is as it was. Conditions: a slice of deeds that reads as deeds.
-/
import Derived.Test.YtkobngbjffbjiaaJB42
import Derived.Test.YtkobngbjffbjiaaJB43
import Derived.Deep.DeepCutAuto
import Derived.Deep.RegionHeld3
namespace Go.Proofs.Ytkobngbjffbjiaa
open Go.RowKit
open Go.Proofs
open WoolBag
open WoolVol

set_option maxRecDepth 100000 in
set_option maxHeartbeats 4000000 in
theorem volTwice_walk (a0 : Option Addr) (len0 cap0 : Nat) (z0 : List Opn) (a1 a2 : Int) (a3 a4 a5 : ByteArray) (a6 : Int) (w : World) (w0 : Ops w (.slice a0 len0 cap0) z0) (_ : (Lit.int .i64 a1).wf = true) (_ : (Lit.int .i64 a2).wf = true) (_ : a3.size ≤ 140737488351232) (_ : a4.size ≤ 140737488351232) (w5 : a5.size ≤ 140737488351232) (_ : (Lit.int .i64 a6).wf = true) :
    Calls Try.prog 7 #[.slice a0 len0 cap0, .int .i64 a1, .int .i64 a2, .string a3, .string a4, .string a5, .int .i64 a6] w fun e w' => e = .returned (.bool true) ∧ Up w w' := by
  have hla : a5.data.toList.length ≤ 9223372036854775807 := by rw [ba_length]; omega
  obtain ⟨B, rfl⟩ : ∃ B, a5 = bs B := ⟨a5.data.toList, (bs_of a5).symm⟩
  rw [bs_list] at hla
  have HLA := Lib.hid hla
  clear hla w5
  obtain ⟨S, rfl⟩ : ∃ S, a3 = bs S := ⟨a3.data.toList, (bs_of a3).symm⟩
  obtain ⟨T, rfl⟩ : ∃ T, a4 = bs T := ⟨a4.data.toList, (bs_of a4).symm⟩
  have HBG := Lib.hid (fun W => begun_any W)
  go_enter Try.func7, Try.ntmps7
  go_wp2_with fail
  refine (HBG.out _).mono ?_
  rintro e w1 ⟨rfl, u1⟩
  have HU := Lib.hid u1
  have HC := Lib.hid (MdO.of (made_any _ z0 w1 (Ops.up w0 u1)))
  have HG := Lib.hid (madeO_good (F := FP) z0)
  clear u1 HBG
  generalize madeO FP z0 = ST at HC HG
  go_wp2_with fail
  refine HC.out.mono ?_
  clear HC
  rintro e w2 ⟨osa, csa, osb, csb, rfl, hs, hu⟩
  obtain ⟨nsa, hna⟩ : ∃ m, ST.b.length = m := ⟨_, rfl⟩
  obtain ⟨nsb, hnb⟩ : ∃ m, ST.v.length = m := ⟨_, rfl⟩
  rw [hna, hnb] at hs ⊢
  have hb := BoxS.new hs hna hnb
  have hv := hu.trans (Up.alloc w2 (.cells #[.slice osa nsa csa, .slice osb nsb csb] 27))
  clear hu hs hna hnb
  go_upto_region 4 with (fail)
  replace HU := Lib.hid (HU.out.trans hv)
  clear hv
  have HBs := Lib.hid hb
  clear hb
  generalize w2.alloc (.cells #[.slice osa nsa csa, .slice osb nsb csb] 27) = W2 at HBs HU ⊢
  generalize w2.heap.size = Xs at HBs ⊢
  have HC := Lib.hid (pick_any _ ST a1 W2 HBs.out.st (good_wf HG.out) HG.out.len)
  unfold PickPost at HC
  have ks0 := HBs.out.k0
  have ks1 := HBs.out.k1
  go_wp2_with fail
  refine HC.out.mono ?_
  clear HC
  rintro e w3 ⟨A, hlA, rfl, hu⟩
  clear ks0 ks1
  replace HBs := Lib.hid (HBs.out.up hu)
  replace HU := Lib.hid (HU.out.trans hu)
  clear hu
  obtain ⟨⟨TSx, TEx⟩, hR⟩ : ∃ R, write FP ST A a2 S = R := ⟨_, rfl⟩
  have HRx := Lib.hid hR
  clear hR
  have HGx := Lib.hid (write_goodA (F := FP) ST A S a2)
  rw [HRx.out] at HGx
  simp only at HGx
  have HC := Lib.hid (StO.ow (write_any _ ST A S a2 w3 HBs.out.st (good_wf HG.out)))
  rw [HRx.out] at HC
  have ks0 := HBs.out.k0
  have ks1 := HBs.out.k1
  go_wp2_with fail
  refine HC.out.mono ?_
  clear HC
  rintro e w4 ⟨oxa, cxa, oxb, cxb, rfl, hs, hu⟩
  simp only at hs ⊢
  clear ks0 ks1
  obtain ⟨nxa, hna⟩ : ∃ m, TSx.b.length = m := ⟨_, rfl⟩
  obtain ⟨nxb, hnb⟩ : ∃ m, TSx.v.length = m := ⟨_, rfl⟩
  rw [hna, hnb] at hs ⊢
  have hb := BoxS.new hs hna hnb
  have hv := hu.trans (Up.alloc w4 (.cells #[.slice oxa nxa cxa, .slice oxb nxb cxb] 27))
  clear hu hs hna hnb
  go_upto_region 6 with (fail)
  replace HBs := Lib.hid (HBs.out.up hv)
  replace HU := Lib.hid (HU.out.trans hv)
  clear hv
  have HBx := Lib.hid hb
  clear hb
  generalize w4.alloc (.cells #[.slice oxa nxa cxa, .slice oxb nxb cxb] 27) = W5 at HBs HBx   HU ⊢
  generalize w4.heap.size = Xx at HBx  ⊢
  by_cases hx : TEx = 0
  · subst hx
    have htw := write_twice (F := FP) (st := ST) (s := A) (t := S) (u := T) (a := a2) (by rw [HRx.out])
    rw [HRx.out] at htw
    simp only at htw
    obtain ⟨⟨TSy, TEy⟩, hR⟩ : ∃ R, write FP TSx A a2 T = R := ⟨_, rfl⟩
    have HRy := Lib.hid hR
    clear hR
    have HGy := Lib.hid (write_goodA (F := FP) TSx A T a2)
    rw [HRy.out] at HGy
    simp only at HGy
    obtain ⟨⟨TSz, TEz⟩, hR⟩ : ∃ R, write FP ST A a2 T = R := ⟨_, rfl⟩
    have HRz := Lib.hid hR
    clear hR
    have HGz := Lib.hid (write_goodA (F := FP) ST A T a2)
    rw [HRz.out] at HGz
    simp only at HGz
    rw [HRy.out, HRz.out] at htw
    simp only [Prod.mk.injEq] at htw
    obtain ⟨ht1, ht2⟩ := htw
    have HT1 := Lib.hid ht1
    clear ht1
    have HT2 := Lib.hid ht2
    clear ht2
    have HC := Lib.hid (StO.ow (write_any _ TSx A T a2 W5 HBx.out.st (good_wf HGx.out)))
    rw [HRy.out] at HC
    have kx0 := HBx.out.k0
    have kx1 := HBx.out.k1
    go_wp2_with fail
    refine HC.out.mono ?_
    clear HC
    rintro e w6 ⟨oya, cya, oyb, cyb, rfl, hs, hu⟩
    simp only at hs ⊢
    clear kx0 kx1
    obtain ⟨nya, hna⟩ : ∃ m, TSy.b.length = m := ⟨_, rfl⟩
    obtain ⟨nyb, hnb⟩ : ∃ m, TSy.v.length = m := ⟨_, rfl⟩
    rw [hna, hnb] at hs ⊢
    have hb := BoxS.new hs hna hnb
    have hv := hu.trans (Up.alloc w6 (.cells #[.slice oya nya cya, .slice oyb nyb cyb] 27))
    clear hu hs hna hnb
    go_upto_region 8 with (fail)
    replace HBs := Lib.hid (HBs.out.up hv)
    replace HBx := Lib.hid (HBx.out.up hv)
    replace HU := Lib.hid (HU.out.trans hv)
    clear hv
    have HBy := Lib.hid hb
    clear hb
    generalize w6.alloc (.cells #[.slice oya nya cya, .slice oyb nyb cyb] 27) = W7 at HBs HBx HBy   HU ⊢
    generalize w6.heap.size = Xy at HBy  ⊢
    have HC := Lib.hid (StO.ow (write_any _ ST A T a2 W7 HBs.out.st (good_wf HG.out)))
    rw [HRz.out] at HC
    have ks0 := HBs.out.k0
    have ks1 := HBs.out.k1
    go_wp2_with fail
    refine HC.out.mono ?_
    clear HC
    rintro e w8 ⟨oza, cza, ozb, czb, rfl, hs, hu⟩
    simp only at hs ⊢
    clear ks0 ks1
    obtain ⟨nza, hna⟩ : ∃ m, TSz.b.length = m := ⟨_, rfl⟩
    obtain ⟨nzb, hnb⟩ : ∃ m, TSz.v.length = m := ⟨_, rfl⟩
    rw [hna, hnb] at hs ⊢
    have hb := BoxS.new hs hna hnb
    have hv := hu.trans (Up.alloc w8 (.cells #[.slice oza nza cza, .slice ozb nzb czb] 27))
    clear hu hs hna hnb
    go_upto_region 9 with (fail)
    replace HBs := Lib.hid (HBs.out.up hv)
    replace HBx := Lib.hid (HBx.out.up hv)
    replace HBy := Lib.hid (HBy.out.up hv)
    replace HU := Lib.hid (HU.out.trans hv)
    clear hv
    have HBz := Lib.hid hb
    clear hb
    generalize w8.alloc (.cells #[.slice oza nza cza, .slice ozb nzb czb] 27) = W9 at HBs HBx HBy HBz   HU ⊢
    generalize w8.heap.size = Xz at HBz  ⊢
    have ht2 := HT2.out
    subst ht2
    have hee : (TEy == TEy) = true := by simp
    clear HT2
    obtain ⟨L, hL⟩ : ∃ L, textsG FP TSy A = L := ⟨_, rfl⟩
    have HL := Lib.hid hL
    clear hL
    have HL2 : Hid (textsG FP TSz A = L) := by rw [← HT1.out]; exact HL.out
    have HLN : Hid (L.length ≤ 32) := by rw [← HL.out]; exact textsG_len HGy.out A
    have HQf : Hid (∀ W, Up W9 W → Calls Try.prog 24 #[.agg #[.slice oya nya cya, .slice oyb nyb cyb], .string (bs A)] W (TxO L W)) := fun W hW => by have h9 := TxO.of (texts_any _ TSy A W (HBy.out.up hW).st HGy.out); rwa [HL.out] at h9
    unfold TxO at HQf
    have HQh : Hid (∀ W, Up W9 W → Calls Try.prog 24 #[.agg #[.slice oza nza cza, .slice ozb nzb czb], .string (bs A)] W (TxO L W)) := fun W hW => by have h9 := TxO.of (texts_any _ TSz A W (HBz.out.up hW).st HGz.out); rwa [HL2.out] at h9
    unfold TxO at HQh
    have HE0 : Hid (∀ v1 v2 W, Txs W v1 L → Txs W v2 L → Calls Try.prog 25 #[v1, v2] W fun e w' => e = .returned (.bool true) ∧ Up W w') := fun v1 v2 W h1 h2 => equalT_same v1 v2 L L W (HLN.out) h1 h2 rfl
    have ky0 := HBy.out.k0
    have ky1 := HBy.out.k1
    have kz0 := HBz.out.k0
    have kz1 := HBz.out.k1
    go_cut [71] (fun p wx => p = .bool false ∧ Up W9 wx)
    case first =>
      go_region_held3 (fun U => U.cell? ⟨Xy, 0, none⟩ = some (.slice oya nya cya) ∧ U.cell? ⟨Xy, 1, none⟩ = some (.slice oyb nyb cyb) ∧ U.cell? ⟨Xz, 0, none⟩ = some (.slice oza nza cza) ∧ U.cell? ⟨Xz, 1, none⟩ = some (.slice ozb nzb czb)) (go_keep) (first
        | (go_at_call 24; ((with_reducible refine (HQf.out _ (by first | exact ux | exact Up.drew _ | exact Up.refl _)).mono ?_); rintro e wz ⟨of, cf, rfl, tf, uz⟩; have uy : Up W9 wz := (by first | exact ux.trans uz | exact (Up.drew _).trans uz | exact uz); (first | (have tf := Txs.up tf uz) | skip); (first | (have th := Txs.up th uz) | skip); clear uz; have ux : Up W9 wz := uy; clear uy; have sy0 := (HBy.out.up ux).k0; have sy1 := (HBy.out.up ux).k1; have sz0 := (HBz.out.up ux).k0; have sz1 := (HBz.out.up ux).k1))
        | (go_at_call 24; ((with_reducible refine (HQh.out _ (by first | exact ux | exact Up.drew _ | exact Up.refl _)).mono ?_); rintro e wz ⟨oh, ch, rfl, th, uz⟩; have uy : Up W9 wz := (by first | exact ux.trans uz | exact (Up.drew _).trans uz | exact uz); (first | (have tf := Txs.up tf uz) | skip); (first | (have th := Txs.up th uz) | skip); clear uz; have ux : Up W9 wz := uy; clear uy; have sy0 := (HBy.out.up ux).k0; have sy1 := (HBy.out.up ux).k1; have sz0 := (HBz.out.up ux).k0; have sz1 := (HBz.out.up ux).k1))
        | (go_at_call 25; ((with_reducible refine (HE0.out _ _ _ tf th).mono ?_); rintro e wz ⟨rfl, uz⟩; have uy : Up W9 wz := (by first | exact ux.trans uz | exact (Up.drew _).trans uz | exact uz); (first | (have tf := Txs.up tf uz) | skip); (first | (have th := Txs.up th uz) | skip); clear uz; have ux : Up W9 wz := uy; clear uy; have sy0 := (HBy.out.up ux).k0; have sy1 := (HBy.out.up ux).k1; have sz0 := (HBz.out.up ux).k0; have sz1 := (HBz.out.up ux).k1)))
      all_goals
        go_wp2_with fail
        go_meet
        exact ⟨rfl, ux⟩
    case rest =>
      clear ky0 ky1 kz0 kz1
      obtain ⟨rfl, hu⟩ := hcut
      obtain ⟨W10, hW⟩ : ∃ W, W = wc := ⟨_, rfl⟩
      subst hW
      clear HQf HQh HE0
      replace HBs := Lib.hid (HBs.out.up hu)
      replace HBx := Lib.hid (HBx.out.up hu)
      replace HBy := Lib.hid (HBy.out.up hu)
      replace HBz := Lib.hid (HBz.out.up hu)
      replace HU := Lib.hid (HU.out.trans hu)
      clear hu
      go_upto_region 11 with (fail)
      obtain ⟨⟨TSm, TEm⟩, hR⟩ : ∃ R, make FP ST B a6 = R := ⟨_, rfl⟩
      have HRm := Lib.hid hR
      clear hR
      have HGm := Lib.hid (make_goodA (F := FP) ST B a6)
      rw [HRm.out] at HGm
      simp only at HGm
      have HC := Lib.hid (StO.ow (make_own _ ST B a6 W10 HBs.out.st (good_wf HG.out) HLA.out))
      rw [HRm.out] at HC
      have ks0 := HBs.out.k0
      have ks1 := HBs.out.k1
      go_wp2_with fail
      refine HC.out.mono ?_
      clear HC
      rintro e w11 ⟨oma, cma, omb, cmb, rfl, hs, hu⟩
      simp only at hs ⊢
      clear ks0 ks1
      obtain ⟨nma, hna⟩ : ∃ m, TSm.b.length = m := ⟨_, rfl⟩
      obtain ⟨nmb, hnb⟩ : ∃ m, TSm.v.length = m := ⟨_, rfl⟩
      rw [hna, hnb] at hs ⊢
      have hb := BoxS.new hs hna hnb
      have hv := hu.trans (Up.alloc w11 (.cells #[.slice oma nma cma, .slice omb nmb cmb] 27))
      clear hu hs hna hnb
      go_upto_region 12 with (fail)
      replace HBs := Lib.hid (HBs.out.up hv)
      replace HU := Lib.hid (HU.out.trans hv)
      clear hv
      have HBm := Lib.hid hb
      clear hb
      generalize w11.alloc (.cells #[.slice oma nma cma, .slice omb nmb cmb] 27) = W12 at HBs HBm   HU ⊢
      generalize w11.heap.size = Xm at HBm  ⊢
      by_cases hE : TEm = 0
      · subst hE
        obtain ⟨⟨TSv, TEv⟩, hR⟩ : ∃ R, vdrop FP TSm B = R := ⟨_, rfl⟩
        have HRv := Lib.hid hR
        clear hR
        have HGv := Lib.hid (vdrop_goodA (F := FP) TSm B)
        rw [HRv.out] at HGv
        simp only at HGv
        have HV : Hid ((ST, (0 : Int)) = (TSv, TEv)) := by have h9 := drop_make (F := FP) (st := ST) (s := B) (n := a6) (by rw [HRm.out]); rw [HRm.out] at h9; exact h9.symm.trans HRv.out
        have HC := Lib.hid (StO.ow (vdrop_own _ TSm B W12 HBm.out.st (good_wf HGm.out)))
        rw [HRv.out] at HC
        have km0 := HBm.out.k0
        have km1 := HBm.out.k1
        go_wp2_with fail
        refine HC.out.mono ?_
        clear HC
        rintro e w13 ⟨ova, cva, ovb, cvb, rfl, hs, hu⟩
        simp only at hs ⊢
        clear km0 km1
        obtain ⟨nva, hna⟩ : ∃ m, TSv.b.length = m := ⟨_, rfl⟩
        obtain ⟨nvb, hnb⟩ : ∃ m, TSv.v.length = m := ⟨_, rfl⟩
        rw [hna, hnb] at hs ⊢
        have hb := BoxS.new hs hna hnb
        have hv := hu.trans (Up.alloc w13 (.cells #[.slice ova nva cva, .slice ovb nvb cvb] 27))
        clear hu hs hna hnb
        go_upto_region 15 with (fail)
        replace HBs := Lib.hid (HBs.out.up hv)
        replace HBm := Lib.hid (HBm.out.up hv)
        replace HU := Lib.hid (HU.out.trans hv)
        clear hv
        have HBv := Lib.hid hb
        clear hb
        generalize w13.alloc (.cells #[.slice ova nva cva, .slice ovb nvb cvb] 27) = W14 at HBs HBm HBv   HU ⊢
        generalize w13.heap.size = Xv at HBv  ⊢
        have hv := HV.out
        simp only [Prod.mk.injEq] at hv
        obtain ⟨hv1, hv2⟩ := hv
        subst hv2
        have HC := Lib.hid (same_yes _ _ ST W14 (by have h9 := HBv.out.st; rwa [← hv1] at h9) HBs.out.st)
        clear hv1
        have kv0 := HBv.out.k0
        have kv1 := HBv.out.k1
        have ks0 := HBs.out.k0
        have ks1 := HBs.out.k1
        go_wp2_with fail
        refine HC.out.mono ?_
        clear HC
        rintro e wz ⟨rfl, hu⟩
        clear kv0 kv1 ks0 ks1
        replace HBs := Lib.hid (HBs.out.up hu)
        replace HBm := Lib.hid (HBm.out.up hu)
        replace HBv := Lib.hid (HBv.out.up hu)
        replace HU := Lib.hid (HU.out.trans hu)
        clear hu
        go_wp2_with fail
        go_ret
        exact ⟨rfl, HU.out⟩
      · skip
        have hE0 : (TEm == 0) = false := by rw [beq_eq_false_iff_ne]; exact hE
        have hz : TSm = zeroS := by have := make_errZ (F := FP) (st := ST) (s := B) (n := a6) (by rw [HRm.out]; exact hE); rwa [HRm.out] at this
        have hn0 : nmb = 0 := by have h9 := HBm.out.e2; rw [hz] at h9; exact h9.symm
        subst hn0
        have km0 := HBm.out.k0
        have km1 := HBm.out.k1
        go_wp2_with fail
        go_ret
        exact ⟨rfl, HU.out⟩
  · skip
    have hxx : (TEx == 0) = false := by rw [beq_eq_false_iff_ne]; exact hx
    go_upto_region 11 with (fail)
    obtain ⟨⟨TSm, TEm⟩, hR⟩ : ∃ R, make FP ST B a6 = R := ⟨_, rfl⟩
    have HRm := Lib.hid hR
    clear hR
    have HGm := Lib.hid (make_goodA (F := FP) ST B a6)
    rw [HRm.out] at HGm
    simp only at HGm
    have HC := Lib.hid (StO.ow (make_own _ ST B a6 W5 HBs.out.st (good_wf HG.out) HLA.out))
    rw [HRm.out] at HC
    have ks0 := HBs.out.k0
    have ks1 := HBs.out.k1
    go_wp2_with fail
    refine HC.out.mono ?_
    clear HC
    rintro e w13 ⟨oma, cma, omb, cmb, rfl, hs, hu⟩
    simp only at hs ⊢
    clear ks0 ks1
    obtain ⟨nma, hna⟩ : ∃ m, TSm.b.length = m := ⟨_, rfl⟩
    obtain ⟨nmb, hnb⟩ : ∃ m, TSm.v.length = m := ⟨_, rfl⟩
    rw [hna, hnb] at hs ⊢
    have hb := BoxS.new hs hna hnb
    have hv := hu.trans (Up.alloc w13 (.cells #[.slice oma nma cma, .slice omb nmb cmb] 27))
    clear hu hs hna hnb
    go_upto_region 12 with (fail)
    replace HBs := Lib.hid (HBs.out.up hv)
    replace HU := Lib.hid (HU.out.trans hv)
    clear hv
    have HBm := Lib.hid hb
    clear hb
    generalize w13.alloc (.cells #[.slice oma nma cma, .slice omb nmb cmb] 27) = W14 at HBs HBm   HU ⊢
    generalize w13.heap.size = Xm at HBm  ⊢
    by_cases hE : TEm = 0
    · subst hE
      obtain ⟨⟨TSv, TEv⟩, hR⟩ : ∃ R, vdrop FP TSm B = R := ⟨_, rfl⟩
      have HRv := Lib.hid hR
      clear hR
      have HGv := Lib.hid (vdrop_goodA (F := FP) TSm B)
      rw [HRv.out] at HGv
      simp only at HGv
      have HV : Hid ((ST, (0 : Int)) = (TSv, TEv)) := by have h9 := drop_make (F := FP) (st := ST) (s := B) (n := a6) (by rw [HRm.out]); rw [HRm.out] at h9; exact h9.symm.trans HRv.out
      have HC := Lib.hid (StO.ow (vdrop_own _ TSm B W14 HBm.out.st (good_wf HGm.out)))
      rw [HRv.out] at HC
      have km0 := HBm.out.k0
      have km1 := HBm.out.k1
      go_wp2_with fail
      refine HC.out.mono ?_
      clear HC
      rintro e w15 ⟨ova, cva, ovb, cvb, rfl, hs, hu⟩
      simp only at hs ⊢
      clear km0 km1
      obtain ⟨nva, hna⟩ : ∃ m, TSv.b.length = m := ⟨_, rfl⟩
      obtain ⟨nvb, hnb⟩ : ∃ m, TSv.v.length = m := ⟨_, rfl⟩
      rw [hna, hnb] at hs ⊢
      have hb := BoxS.new hs hna hnb
      have hv := hu.trans (Up.alloc w15 (.cells #[.slice ova nva cva, .slice ovb nvb cvb] 27))
      clear hu hs hna hnb
      go_upto_region 15 with (fail)
      replace HBs := Lib.hid (HBs.out.up hv)
      replace HBm := Lib.hid (HBm.out.up hv)
      replace HU := Lib.hid (HU.out.trans hv)
      clear hv
      have HBv := Lib.hid hb
      clear hb
      generalize w15.alloc (.cells #[.slice ova nva cva, .slice ovb nvb cvb] 27) = W16 at HBs HBm HBv   HU ⊢
      generalize w15.heap.size = Xv at HBv  ⊢
      have hv := HV.out
      simp only [Prod.mk.injEq] at hv
      obtain ⟨hv1, hv2⟩ := hv
      subst hv2
      have HC := Lib.hid (same_yes _ _ ST W16 (by have h9 := HBv.out.st; rwa [← hv1] at h9) HBs.out.st)
      clear hv1
      have kv0 := HBv.out.k0
      have kv1 := HBv.out.k1
      have ks0 := HBs.out.k0
      have ks1 := HBs.out.k1
      go_wp2_with fail
      refine HC.out.mono ?_
      clear HC
      rintro e wz ⟨rfl, hu⟩
      clear kv0 kv1 ks0 ks1
      replace HBs := Lib.hid (HBs.out.up hu)
      replace HBm := Lib.hid (HBm.out.up hu)
      replace HBv := Lib.hid (HBv.out.up hu)
      replace HU := Lib.hid (HU.out.trans hu)
      clear hu
      go_wp2_with fail
      go_ret
      exact ⟨rfl, HU.out⟩
    · skip
      have hE0 : (TEm == 0) = false := by rw [beq_eq_false_iff_ne]; exact hE
      have hz : TSm = zeroS := by have := make_errZ (F := FP) (st := ST) (s := B) (n := a6) (by rw [HRm.out]; exact hE); rwa [HRm.out] at this
      have hn0 : nmb = 0 := by have h9 := HBm.out.e2; rw [hz] at h9; exact h9.symm
      subst hn0
      have km0 := HBm.out.k0
      have km1 := HBm.out.k1
      go_wp2_with fail
      go_ret
      exact ⟨rfl, HU.out⟩

end Go.Proofs.Ytkobngbjffbjiaa
