/-
  The law VolApart: in whichever order two places are written, the same is read. Conditions: a slice of deeds that reads as deeds.
-/
import Derived.Test.YtkobngbjffbjiaaJB42
import Derived.Deep.DeepCutAuto
import Derived.Deep.RegionHeld3
namespace Go.Proofs.Ytkobngbjffbjiaa
open Go.RowKit
open Go.Proofs
open WoolBag
open WoolVol

set_option maxRecDepth 100000 in
set_option maxHeartbeats 20000000 in
theorem volApart_walk (a0 : Option Addr) (len0 cap0 : Nat) (z0 : List Opn) (a1 a2 a3 a4 : Int) (a5 a6 : ByteArray) (w : World) (w0 : Ops w (.slice a0 len0 cap0) z0) (_ : (Lit.int .i64 a1).wf = true) (_ : (Lit.int .i64 a2).wf = true) (_ : (Lit.int .i64 a3).wf = true) (_ : (Lit.int .i64 a4).wf = true) (_ : a5.size ≤ 140737488351232) (_ : a6.size ≤ 140737488351232) :
    Calls Try.prog 12 #[.slice a0 len0 cap0, .int .i64 a1, .int .i64 a2, .int .i64 a3, .int .i64 a4, .string a5, .string a6] w fun e w' => e = .returned (.bool true) ∧ Up w w' := by
  obtain ⟨S, rfl⟩ : ∃ S, a5 = bs S := ⟨a5.data.toList, (bs_of a5).symm⟩
  obtain ⟨T, rfl⟩ : ∃ T, a6 = bs T := ⟨a6.data.toList, (bs_of a6).symm⟩
  have HBG := Lib.hid (fun W => begun_any W)
  go_enter Try.func12, Try.ntmps12
  go_wp2_with fail
  refine (HBG.out _).mono ?_
  rintro e w1 ⟨rfl, u1⟩
  have HU := Lib.hid u1
  have HC := Lib.hid (MdO.of (made_any _ z0 w1 (Ops.up w0 u1)))
  have HG := Lib.hid (madeO_good (F := FP) z0)
  clear u1 HBG
  generalize madeO FP z0 = ST at HC HG
  go_wp2_with fail
  refine HC.out.mono ?_
  clear HC
  rintro e w2 ⟨osa, csa, osb, csb, rfl, hs, hu⟩
  obtain ⟨nsa, hna⟩ : ∃ m, ST.b.length = m := ⟨_, rfl⟩
  obtain ⟨nsb, hnb⟩ : ∃ m, ST.v.length = m := ⟨_, rfl⟩
  rw [hna, hnb] at hs ⊢
  have hb := BoxS.new hs hna hnb
  have hv := hu.trans (Up.alloc w2 (.cells #[.slice osa nsa csa, .slice osb nsb csb] 27))
  clear hu hs hna hnb
  go_upto_region 4 with (fail)
  replace HU := Lib.hid (HU.out.trans hv)
  clear hv
  have HBs := Lib.hid hb
  clear hb
  generalize w2.alloc (.cells #[.slice osa nsa csa, .slice osb nsb csb] 27) = W2 at HBs HU ⊢
  generalize w2.heap.size = Xs at HBs ⊢
  have HPA : Hid (∀ W, Up W2 W → Calls Try.prog 19 #[.agg #[.slice osa nsa csa, .slice osb nsb csb], .int .i64 a1] W (PickPost W)) := fun W hW => pick_any _ ST a1 W (HBs.out.up hW).st (good_wf HG.out) HG.out.len
  unfold PickPost at HPA
  have HPB : Hid (∀ W, Up W2 W → Calls Try.prog 19 #[.agg #[.slice osa nsa csa, .slice osb nsb csb], .int .i64 a2] W (PickPost W)) := fun W hW => pick_any _ ST a2 W (HBs.out.up hW).st (good_wf HG.out) HG.out.len
  unfold PickPost at HPB
  have ks0 := HBs.out.k0
  have ks1 := HBs.out.k1
  go_cut [16, 17] (fun p q wx => Picks2 W2 p q wx)
  case first =>
    go_region_held3 (fun U => U.cell? ⟨Xs, 0, none⟩ = some (.slice osa nsa csa) ∧ U.cell? ⟨Xs, 1, none⟩ = some (.slice osb nsb csb)) (go_keep) (first
    | (go_at_call 19; ((with_reducible refine (HPA.out _ (by first | exact ux | exact Up.drew _)).mono ?_); rintro e wz ⟨A, hlA, rfl, uz⟩; have uy : Up W2 wz := (by first | exact ux.trans uz | exact (Up.drew _).trans uz); clear uz; have ux : Up W2 wz := uy; clear uy; have s0 := (HBs.out.up ux).k0; have s1 := (HBs.out.up ux).k1))
    | (go_at_call 19; ((with_reducible refine (HPB.out _ (by first | exact ux | exact Up.drew _)).mono ?_); rintro e wz ⟨B, hlB, rfl, uz⟩; have uy : Up W2 wz := (by first | exact ux.trans uz | exact (Up.drew _).trans uz); clear uz; have ux : Up W2 wz := uy; clear uy; have s0 := (HBs.out.up ux).k0; have s1 := (HBs.out.up ux).k1)))
    all_goals
      go_wp2_with fail
      go_meet
      exact ⟨A, B, hlA, hlB, rfl, rfl, ux⟩
  case rest =>
    obtain ⟨A, B, hlA, hlB, rfl, rfl, hu⟩ := hcut
    obtain ⟨W3, hW⟩ : ∃ W, W = wc := ⟨_, rfl⟩
    subst hW
    clear ks0 ks1
    replace HBs := Lib.hid (HBs.out.up hu)
    replace HU := Lib.hid (HU.out.trans hu)
    clear hu HPA HPB
    obtain ⟨⟨TSx, TEx⟩, hR⟩ : ∃ R, write FP ST A a3 S = R := ⟨_, rfl⟩
    have HRx := Lib.hid hR
    clear hR
    have HGx := Lib.hid (write_goodA (F := FP) ST A S a3)
    rw [HRx.out] at HGx
    simp only at HGx
    obtain ⟨⟨TSy, TEy⟩, hR⟩ : ∃ R, write FP ST B a4 T = R := ⟨_, rfl⟩
    have HRy := Lib.hid hR
    clear hR
    have HGy := Lib.hid (write_goodA (F := FP) ST B T a4)
    rw [HRy.out] at HGy
    simp only at HGy
    have HC := Lib.hid (StO.ow (write_any _ ST A S a3 W3 HBs.out.st (good_wf HG.out)))
    rw [HRx.out] at HC
    have ks0 := HBs.out.k0
    have ks1 := HBs.out.k1
    go_wp2_with fail
    refine HC.out.mono ?_
    clear HC
    rintro e w4 ⟨oxa, cxa, oxb, cxb, rfl, hs, hu⟩
    simp only at hs ⊢
    clear ks0 ks1
    obtain ⟨nxa, hna⟩ : ∃ m, TSx.b.length = m := ⟨_, rfl⟩
    obtain ⟨nxb, hnb⟩ : ∃ m, TSx.v.length = m := ⟨_, rfl⟩
    rw [hna, hnb] at hs ⊢
    have HNXs_Xx : Hid (Xs ≠ w4.heap.size) := Nat.ne_of_lt (Nat.lt_of_lt_of_le HBs.out.lt hu.size)
    have HNXx_Xs : Hid (w4.heap.size ≠ Xs) := fun h9 => HNXs_Xx.out h9.symm
    have HXWXx : Hid (w.heap.size ≤ w4.heap.size) := Nat.le_trans HU.out.size hu.size
    have hb := BoxS.new hs hna hnb
    have hv := hu.trans (Up.alloc w4 (.cells #[.slice oxa nxa cxa, .slice oxb nxb cxb] 27))
    clear hu hs hna hnb
    go_upto_region 6 with (fail)
    replace HBs := Lib.hid (HBs.out.up hv)
    replace HU := Lib.hid (HU.out.trans hv)
    clear hv
    have HBx := Lib.hid hb
    clear hb
    generalize w4.alloc (.cells #[.slice oxa nxa cxa, .slice oxb nxb cxb] 27) = W5 at HBs HBx   HU ⊢
    generalize w4.heap.size = Xx at HBx HNXs_Xx HNXx_Xs HXWXx ⊢
    have HC := Lib.hid (StO.ow (write_any _ ST B T a4 W5 HBs.out.st (good_wf HG.out)))
    rw [HRy.out] at HC
    have ks0 := HBs.out.k0
    have ks1 := HBs.out.k1
    go_wp2_with fail
    refine HC.out.mono ?_
    clear HC
    rintro e w6 ⟨oya, cya, oyb, cyb, rfl, hs, hu⟩
    simp only at hs ⊢
    clear ks0 ks1
    obtain ⟨nya, hna⟩ : ∃ m, TSy.b.length = m := ⟨_, rfl⟩
    obtain ⟨nyb, hnb⟩ : ∃ m, TSy.v.length = m := ⟨_, rfl⟩
    rw [hna, hnb] at hs ⊢
    have HNXs_Xy : Hid (Xs ≠ w6.heap.size) := Nat.ne_of_lt (Nat.lt_of_lt_of_le HBs.out.lt hu.size)
    have HNXy_Xs : Hid (w6.heap.size ≠ Xs) := fun h9 => HNXs_Xy.out h9.symm
    have HNXx_Xy : Hid (Xx ≠ w6.heap.size) := Nat.ne_of_lt (Nat.lt_of_lt_of_le HBx.out.lt hu.size)
    have HNXy_Xx : Hid (w6.heap.size ≠ Xx) := fun h9 => HNXx_Xy.out h9.symm
    have HXWXy : Hid (w.heap.size ≤ w6.heap.size) := Nat.le_trans HU.out.size hu.size
    have hb := BoxS.new hs hna hnb
    have hv := hu.trans (Up.alloc w6 (.cells #[.slice oya nya cya, .slice oyb nyb cyb] 27))
    clear hu hs hna hnb
    go_upto_region 7 with (fail)
    replace HBs := Lib.hid (HBs.out.up hv)
    replace HBx := Lib.hid (HBx.out.up hv)
    replace HU := Lib.hid (HU.out.trans hv)
    clear hv
    have HBy := Lib.hid hb
    clear hb
    generalize w6.alloc (.cells #[.slice oya nya cya, .slice oyb nyb cyb] 27) = W7 at HBs HBx HBy   HU ⊢
    generalize w6.heap.size = Xy at HBy HNXs_Xy HNXy_Xs HNXx_Xy HNXy_Xx HXWXy ⊢
    by_cases hx : TEx = 0
    · subst hx
      by_cases hy : TEy = 0
      · subst hy
        by_cases hs : A = B ∧ a3 = a4
        · skip
          obtain ⟨hs1, hs2⟩ := hs
          subst hs1
          subst hs2
          have hsa := txt_same A
          have hpp : (a3 == a3) = true := by simp
          go_wp2_with fail
          go_ret
          exact ⟨rfl, HU.out⟩
        · skip
          have hlaw := law_apart (F := FP) (st := ST) (a := A) (b := B) (s := S) (t := T) (p := a3) (q := a4) (by rw [HRx.out]) (by rw [HRy.out]) hs
          rw [HRx.out, HRy.out] at hlaw
          simp only at hlaw
          obtain ⟨⟨TSu, TEu⟩, hR⟩ : ∃ R, write FP TSx B a4 T = R := ⟨_, rfl⟩
          have HRu := Lib.hid hR
          clear hR
          have HGu := Lib.hid (write_goodA (F := FP) TSx B T a4)
          rw [HRu.out] at HGu
          simp only at HGu
          obtain ⟨⟨TSv, TEv⟩, hR⟩ : ∃ R, write FP TSy A a3 S = R := ⟨_, rfl⟩
          have HRv := Lib.hid hR
          clear hR
          have HGv := Lib.hid (write_goodA (F := FP) TSy A S a3)
          rw [HRv.out] at HGv
          simp only at HGv
          rw [HRu.out, HRv.out] at hlaw
          simp only at hlaw
          obtain ⟨hl1, hl2, hl3⟩ := hlaw
          have HL1 := Lib.hid hl1
          have HL2 := Lib.hid hl2
          have HL3 := Lib.hid hl3
          clear hl1 hl2 hl3
          have hab : ((bs A).toList == (bs B).toList) = false ∨ (((bs A).toList == (bs B).toList) = true ∧ (a3 == a4) = false) := by
            by_cases h : A = B
            · subst h
              exact .inr ⟨by simp, by rw [beq_eq_false_iff_ne]; exact fun e => hs ⟨rfl, e⟩⟩
            · exact .inl (txt_other h)
          clear hs
          go_upto_region 7 with (fail)
          go_cut [63] (fun p wx => p = .bool false ∧ Up W7 wx)
          case first =>
            rcases hab with hab | ⟨hab, hpq⟩
            · go_wp2_with fail
              go_meet
              exact ⟨rfl, Up.refl _⟩
            · go_wp2_with fail
              go_meet
              exact ⟨rfl, Up.refl _⟩
          case rest =>
            obtain ⟨rfl, hu⟩ := hcut
            obtain ⟨W8, hW⟩ : ∃ W, W = wc := ⟨_, rfl⟩
            subst hW
            clear hab
            replace HBs := Lib.hid (HBs.out.up hu)
            replace HBx := Lib.hid (HBx.out.up hu)
            replace HBy := Lib.hid (HBy.out.up hu)
            replace HU := Lib.hid (HU.out.trans hu)
            clear hu
            go_upto_region 9 with (fail)
            have HC := Lib.hid (StO.ow (write_any _ TSx B T a4 W8 HBx.out.st (good_wf HGx.out)))
            rw [HRu.out] at HC
            have kx0 := HBx.out.k0
            have kx1 := HBx.out.k1
            go_wp2_with fail
            refine HC.out.mono ?_
            clear HC
            rintro e w9 ⟨oua, cua, oub, cub, rfl, hs, hu⟩
            simp only at hs ⊢
            clear kx0 kx1
            obtain ⟨nua, hna⟩ : ∃ m, TSu.b.length = m := ⟨_, rfl⟩
            obtain ⟨nub, hnb⟩ : ∃ m, TSu.v.length = m := ⟨_, rfl⟩
            rw [hna, hnb] at hs ⊢
            replace HBs := Lib.hid (HBs.out.up hu)
            replace HBx := Lib.hid (HBx.out.up hu)
            replace HBy := Lib.hid (HBy.out.up hu)
            replace HU := Lib.hid (HU.out.trans hu)
            clear hu
            have HSu := Lib.hid hs
            have HNua := Lib.hid hna
            have HNub := Lib.hid hnb
            clear hs hna hnb
            have r0 := HBx.out.f0
            have r1 := HBx.out.f1
            have r2 := HBx.out.k0
            have r3 := HBx.out.k1
            go_upto_region 10 with (fail)
            clear r0 r1 r2 r3
            have HBu := Lib.hid (HBx.out.put HSu.out HNua.out HNub.out)
            replace HBs := Lib.hid (HBs.out.beside (x := .slice oua nua cua) (y := .slice oub nub cub) HBx.out HNXs_Xx.out rfl)
            replace HBy := Lib.hid (HBy.out.beside (x := .slice oua nua cua) (y := .slice oub nub cub) HBx.out HNXy_Xx.out rfl)
            replace HU := Lib.hid (up2 (x := .slice oua nua cua) (y := .slice oub nub cub) HU.out HXWXx.out)
            clear HBx HSu HNua HNub
            generalize (w9.setCell ⟨Xx, 0, none⟩ (.slice oua nua cua)).setCell ⟨Xx, 1, none⟩ (.slice oub nub cub) = W10 at HBu HBs HBy HU ⊢
            have HC := Lib.hid (StO.ow (write_any _ TSy A S a3 W10 HBy.out.st (good_wf HGy.out)))
            rw [HRv.out] at HC
            have ky0 := HBy.out.k0
            have ky1 := HBy.out.k1
            go_wp2_with fail
            refine HC.out.mono ?_
            clear HC
            rintro e w11 ⟨ova, cva, ovb, cvb, rfl, hs, hu⟩
            simp only at hs ⊢
            clear ky0 ky1
            obtain ⟨nva, hna⟩ : ∃ m, TSv.b.length = m := ⟨_, rfl⟩
            obtain ⟨nvb, hnb⟩ : ∃ m, TSv.v.length = m := ⟨_, rfl⟩
            rw [hna, hnb] at hs ⊢
            replace HBs := Lib.hid (HBs.out.up hu)
            replace HBy := Lib.hid (HBy.out.up hu)
            replace HBu := Lib.hid (HBu.out.up hu)
            replace HU := Lib.hid (HU.out.trans hu)
            clear hu
            have HSv := Lib.hid hs
            have HNva := Lib.hid hna
            have HNvb := Lib.hid hnb
            clear hs hna hnb
            have r0 := HBy.out.f0
            have r1 := HBy.out.f1
            have r2 := HBy.out.k0
            have r3 := HBy.out.k1
            go_upto_region 11 with (fail)
            clear r0 r1 r2 r3
            have HBv := Lib.hid (HBy.out.put HSv.out HNva.out HNvb.out)
            replace HBs := Lib.hid (HBs.out.beside (x := .slice ova nva cva) (y := .slice ovb nvb cvb) HBy.out HNXs_Xy.out rfl)
            replace HBu := Lib.hid (HBu.out.beside (x := .slice ova nva cva) (y := .slice ovb nvb cvb) HBy.out HNXx_Xy.out rfl)
            replace HU := Lib.hid (up2 (x := .slice ova nva cva) (y := .slice ovb nvb cvb) HU.out HXWXy.out)
            clear HBy HSv HNva HNvb
            generalize (w11.setCell ⟨Xy, 0, none⟩ (.slice ova nva cva)).setCell ⟨Xy, 1, none⟩ (.slice ovb nvb cvb) = W12 at HBv HBs HBu HU ⊢
            by_cases hboth : TEu = 0 ∧ TEv = 0
            · skip
              obtain ⟨hb1, hb2⟩ := hboth
              subst hb1
              subst hb2
              obtain ⟨hm1, hm2, hm3⟩ := HL3.out rfl rfl
              clear HL1 HL2 HL3
              obtain ⟨L, hL⟩ : ∃ L, textsG FP TSu A = L := ⟨_, rfl⟩
              obtain ⟨M, hM⟩ : ∃ M, textsG FP TSu B = M := ⟨_, rfl⟩
              rw [hL] at hm1
              rw [hM] at hm2
              have HL := Lib.hid hL
              have HM := Lib.hid hM
              have HL2 := Lib.hid hm1.symm
              have HM2 := Lib.hid hm2.symm
              clear hL hM hm1 hm2
              have HLN : Hid (L.length ≤ 32) := by rw [← HL.out]; exact textsG_len HGu.out A
              have HMN : Hid (M.length ≤ 32) := by rw [← HM.out]; exact textsG_len HGu.out B
              have q1 : nua = nva := by rw [← HBu.out.e1, ← HBv.out.e1]; exact hm3
              have hqq : ((nua : Int) == (nva : Int)) = true := by rw [q1]; simp
              have HQ1 := Lib.hid q1
              clear hm3 q1
              go_upto_region 13 with (fail)
              have HQf : Hid (∀ W, Up W12 W → Calls Try.prog 24 #[.agg #[.slice oua nua cua, .slice oub nub cub], .string (bs A)] W (TxO L W)) := fun W hW => by have h9 := TxO.of (texts_any _ TSu A W (HBu.out.up hW).st HGu.out); rwa [HL.out] at h9
              unfold TxO at HQf
              have HQh : Hid (∀ W, Up W12 W → Calls Try.prog 24 #[.agg #[.slice ova nva cva, .slice ovb nvb cvb], .string (bs A)] W (TxO L W)) := fun W hW => by have h9 := TxO.of (texts_any _ TSv A W (HBv.out.up hW).st HGv.out); rwa [HL2.out] at h9
              unfold TxO at HQh
              have HQi : Hid (∀ W, Up W12 W → Calls Try.prog 24 #[.agg #[.slice oua nua cua, .slice oub nub cub], .string (bs B)] W (TxO M W)) := fun W hW => by have h9 := TxO.of (texts_any _ TSu B W (HBu.out.up hW).st HGu.out); rwa [HM.out] at h9
              unfold TxO at HQi
              have HQj : Hid (∀ W, Up W12 W → Calls Try.prog 24 #[.agg #[.slice ova nva cva, .slice ovb nvb cvb], .string (bs B)] W (TxO M W)) := fun W hW => by have h9 := TxO.of (texts_any _ TSv B W (HBv.out.up hW).st HGv.out); rwa [HM2.out] at h9
              unfold TxO at HQj
              have HE0 : Hid (∀ v1 v2 W, Txs W v1 L → Txs W v2 L → Calls Try.prog 25 #[v1, v2] W fun e w' => e = .returned (.bool true) ∧ Up W w') := fun v1 v2 W h1 h2 => equalT_same v1 v2 L L W (HLN.out) h1 h2 rfl
              have HE1 : Hid (∀ v1 v2 W, Txs W v1 M → Txs W v2 M → Calls Try.prog 25 #[v1, v2] W fun e w' => e = .returned (.bool true) ∧ Up W w') := fun v1 v2 W h1 h2 => equalT_same v1 v2 M M W (HMN.out) h1 h2 rfl
              have ku0 := HBu.out.k0
              have ku1 := HBu.out.k1
              have kv0 := HBv.out.k0
              have kv1 := HBv.out.k1
              go_cut [14] (fun p wx => p = .bool true ∧ Up W12 wx)
              case first =>
                go_region_held3 (fun U => U.cell? ⟨Xx, 0, none⟩ = some (.slice oua nua cua) ∧ U.cell? ⟨Xx, 1, none⟩ = some (.slice oub nub cub) ∧ U.cell? ⟨Xy, 0, none⟩ = some (.slice ova nva cva) ∧ U.cell? ⟨Xy, 1, none⟩ = some (.slice ovb nvb cvb)) (go_keep) (first
                  | (go_at_call 24; ((with_reducible refine (HQf.out _ (by first | exact ux | exact Up.drew _ | exact Up.refl _)).mono ?_); rintro e wz ⟨of, cf, rfl, tf, uz⟩; have uy : Up W12 wz := (by first | exact ux.trans uz | exact (Up.drew _).trans uz | exact uz); (first | (have tf := Txs.up tf uz) | skip); (first | (have th := Txs.up th uz) | skip); (first | (have ti := Txs.up ti uz) | skip); (first | (have tj := Txs.up tj uz) | skip); clear uz; have ux : Up W12 wz := uy; clear uy; have su0 := (HBu.out.up ux).k0; have su1 := (HBu.out.up ux).k1; have sv0 := (HBv.out.up ux).k0; have sv1 := (HBv.out.up ux).k1))
                  | (go_at_call 24; ((with_reducible refine (HQh.out _ (by first | exact ux | exact Up.drew _ | exact Up.refl _)).mono ?_); rintro e wz ⟨oh, ch, rfl, th, uz⟩; have uy : Up W12 wz := (by first | exact ux.trans uz | exact (Up.drew _).trans uz | exact uz); (first | (have tf := Txs.up tf uz) | skip); (first | (have th := Txs.up th uz) | skip); (first | (have ti := Txs.up ti uz) | skip); (first | (have tj := Txs.up tj uz) | skip); clear uz; have ux : Up W12 wz := uy; clear uy; have su0 := (HBu.out.up ux).k0; have su1 := (HBu.out.up ux).k1; have sv0 := (HBv.out.up ux).k0; have sv1 := (HBv.out.up ux).k1))
                  | (go_at_call 24; ((with_reducible refine (HQi.out _ (by first | exact ux | exact Up.drew _ | exact Up.refl _)).mono ?_); rintro e wz ⟨oi, ci, rfl, ti, uz⟩; have uy : Up W12 wz := (by first | exact ux.trans uz | exact (Up.drew _).trans uz | exact uz); (first | (have tf := Txs.up tf uz) | skip); (first | (have th := Txs.up th uz) | skip); (first | (have ti := Txs.up ti uz) | skip); (first | (have tj := Txs.up tj uz) | skip); clear uz; have ux : Up W12 wz := uy; clear uy; have su0 := (HBu.out.up ux).k0; have su1 := (HBu.out.up ux).k1; have sv0 := (HBv.out.up ux).k0; have sv1 := (HBv.out.up ux).k1))
                  | (go_at_call 24; ((with_reducible refine (HQj.out _ (by first | exact ux | exact Up.drew _ | exact Up.refl _)).mono ?_); rintro e wz ⟨oj, cj, rfl, tj, uz⟩; have uy : Up W12 wz := (by first | exact ux.trans uz | exact (Up.drew _).trans uz | exact uz); (first | (have tf := Txs.up tf uz) | skip); (first | (have th := Txs.up th uz) | skip); (first | (have ti := Txs.up ti uz) | skip); (first | (have tj := Txs.up tj uz) | skip); clear uz; have ux : Up W12 wz := uy; clear uy; have su0 := (HBu.out.up ux).k0; have su1 := (HBu.out.up ux).k1; have sv0 := (HBv.out.up ux).k0; have sv1 := (HBv.out.up ux).k1))
                  | (go_at_call 25; ((with_reducible refine (HE0.out _ _ _ tf th).mono ?_); rintro e wz ⟨rfl, uz⟩; have uy : Up W12 wz := (by first | exact ux.trans uz | exact (Up.drew _).trans uz | exact uz); (first | (have tf := Txs.up tf uz) | skip); (first | (have th := Txs.up th uz) | skip); (first | (have ti := Txs.up ti uz) | skip); (first | (have tj := Txs.up tj uz) | skip); clear uz; have ux : Up W12 wz := uy; clear uy; have su0 := (HBu.out.up ux).k0; have su1 := (HBu.out.up ux).k1; have sv0 := (HBv.out.up ux).k0; have sv1 := (HBv.out.up ux).k1))
                  | (go_at_call 25; ((with_reducible refine (HE1.out _ _ _ ti tj).mono ?_); rintro e wz ⟨rfl, uz⟩; have uy : Up W12 wz := (by first | exact ux.trans uz | exact (Up.drew _).trans uz | exact uz); (first | (have tf := Txs.up tf uz) | skip); (first | (have th := Txs.up th uz) | skip); (first | (have ti := Txs.up ti uz) | skip); (first | (have tj := Txs.up tj uz) | skip); clear uz; have ux : Up W12 wz := uy; clear uy; have su0 := (HBu.out.up ux).k0; have su1 := (HBu.out.up ux).k1; have sv0 := (HBv.out.up ux).k0; have sv1 := (HBv.out.up ux).k1)))
                all_goals
                  go_wp2_with fail
                  go_meet
                  exact ⟨rfl, ux⟩
              case rest =>
                clear ku0 ku1 kv0 kv1
                obtain ⟨rfl, hu⟩ := hcut
                obtain ⟨W13, hW⟩ : ∃ W, W = wc := ⟨_, rfl⟩
                subst hW
                clear HQf HQh HQi HQj HE0 HE1
                replace HBs := Lib.hid (HBs.out.up hu)
                replace HBu := Lib.hid (HBu.out.up hu)
                replace HBv := Lib.hid (HBv.out.up hu)
                replace HU := Lib.hid (HU.out.trans hu)
                clear hu
                go_wp2_with fail
                go_ret
                exact ⟨rfl, HU.out⟩
            · skip
              have hq : (TEu = 0 ∨ TEu = 8) ∧ (TEv = 0 ∨ TEv = 8) := ⟨HL1.out, HL2.out⟩
              clear HL1 HL2 HL3
              obtain ⟨hq1, hq2⟩ := hq
              rcases hq1 with rfl | rfl <;> rcases hq2 with rfl | rfl
              · skip
                exact absurd ⟨rfl, rfl⟩ hboth
              · skip
                clear hboth
                go_wp2_with fail
                go_ret
                exact ⟨rfl, HU.out⟩
              · skip
                clear hboth
                go_wp2_with fail
                go_ret
                exact ⟨rfl, HU.out⟩
              · skip
                clear hboth
                go_wp2_with fail
                go_ret
                exact ⟨rfl, HU.out⟩
      · skip
        have hq : (TEy == 0) = false := by rw [beq_eq_false_iff_ne]; exact hy
        go_wp2_with fail
        go_ret
        exact ⟨rfl, HU.out⟩
    · skip
      have hq : (TEx == 0) = false := by rw [beq_eq_false_iff_ne]; exact hx
      go_wp2_with fail
      go_ret
      exact ⟨rfl, HU.out⟩

end Go.Proofs.Ytkobngbjffbjiaa
