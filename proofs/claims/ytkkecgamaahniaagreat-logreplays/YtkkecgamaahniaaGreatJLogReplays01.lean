/-
  The law LogReplays: what was written of deeds that were done makes the same state again, and is right. Conditions: slices of deeds that read as deeds.
-/
import Derived.Test.YtkkecgamaahniaaGreatJB46
import Derived.Test.YtkkecgamaahniaaGreatJB16
import Derived.Deep.DeepCutAuto
import Derived.Deep.RegionHeld3
namespace Go.Proofs.YtkkecgamaahniaaGreat
open Go.RowKit
open Go.Proofs
open WoolBag
open WoolVol

set_option maxRecDepth 100000 in
set_option maxHeartbeats 8000000 in
theorem logReplays_walk (a0 : Option Addr) (len0 cap0 : Nat) (z0 : List Opn) (w : World) (w0 : Ops w (.slice a0 len0 cap0) z0) :
    Calls Tryz.prog 3 #[.slice a0 len0 cap0] w fun e w' => e = .returned (.bool true) ∧ Up w w' := by
  have HOL := Lib.hid (fun W => ops_oneL W mk1 (chk_wf mk1_chk))
  have HLG := Lib.hid (fun v W (h : Ops W v [mk1]) => log_ok v _ W h (by intro o ho; simp at ho; rw [ho]; exact mk1_chk) (by simp))
  have HOZ := Lib.hid w0
  have HU := Lib.hid (Up.refl w)
  clear w0
  go_enter Tryz.func3, Tryz.ntmps3
  go_wp2_with fail
  refine (HLG.out _ _ (HOL.out _)).mono ?_
  rintro e w1 ⟨rfl, hu0⟩
  have hu := (Up.alloc _ _).trans hu0
  clear hu0 HLG HOL
  replace HOZ := Lib.hid (HOZ.out.up hu)
  replace HU := Lib.hid (HU.out.trans hu)
  clear hu
  have HR1 := Lib.hid (replay_log frames1 mk1_runs (by simp))
  have HL1 : Hid ((logG (frm 1) [mk1]).length ≤ 1000) := by show _ ≤ _; rw [logG_cons, logG_nil, List.append_nil, frm_length]; have := encO_len mk1_chk; omega
  generalize logG (frm 1) [mk1] = F1 at HR1 HL1 ⊢
  have HC := Lib.hid (replay_is w1 (by have := HL1.out; omega) HR1.out)
  unfold RpO at HC
  go_wp2_with fail
  refine HC.out.mono ?_
  clear HC
  rintro e w2 ⟨ora, cra, orb, crb, rfl, hs, hu⟩
  obtain ⟨nra, hna⟩ : ∃ m, st1.b.length = m := ⟨_, rfl⟩
  obtain ⟨nrb, hnb⟩ : ∃ m, st1.v.length = m := ⟨_, rfl⟩
  rw [hna, hnb] at hs ⊢
  have HXWXr : Hid (w.heap.size ≤ w2.heap.size) := Nat.le_trans HU.out.size hu.size
  have hb := BoxS.new hs hna hnb
  have hv := hu.trans (Up.alloc w2 (.cells #[.slice ora nra cra, .slice orb nrb crb] 31))
  clear hu hs hna hnb
  go_upto_region 3 with (fail)
  replace HOZ := Lib.hid (HOZ.out.up hv)
  replace HU := Lib.hid (HU.out.trans hv)
  clear hv
  have HBr := Lib.hid hb
  clear hb
  generalize w2.alloc (.cells #[.slice ora nra cra, .slice orb nrb crb] 31) = W3 at HBr HOZ HU ⊢
  generalize w2.heap.size = Xr at HBr HXWXr ⊢
  have hn1 : nrb = 1 := HBr.out.e2.symm
  subst hn1
  have kr0 := HBr.out.k0
  have kr1 := HBr.out.k1
  go_upto_region 5 with (fail)
  clear kr0 kr1
  have HC := Lib.hid (kept_is _ z0 W3 HOZ.out)
  unfold KpO at HC
  have HK := Lib.hid (kept_l z0)
  obtain ⟨⟨K, S⟩, hKS⟩ : ∃ r, keptFrom FP zeroS (z0.take 60) = r := ⟨_, rfl⟩
  rw [hKS] at HC HK
  simp only at HC HK
  clear hKS
  obtain ⟨LK, hLK⟩ : ∃ n, K.length = n := ⟨_, rfl⟩
  have HLK := Lib.hid hLK
  rw [hLK] at HC
  clear hLK
  go_wp2_with fail
  refine HC.out.mono ?_
  clear HC
  rintro e w4 ⟨ok, ck, oka, cka, okb, ckb, rfl, hk, hck, hs, hu⟩
  unfold maxLen at hck
  replace HBr := Lib.hid (HBr.out.up hu)
  replace HOZ := Lib.hid (HOZ.out.up hu)
  replace HU := Lib.hid (HU.out.trans hu)
  -- kept deeds
  have HOK := Lib.hid hk
  have hu := Up.refl w4
  clear hk
  obtain ⟨nka, hna⟩ : ∃ m, S.b.length = m := ⟨_, rfl⟩
  obtain ⟨nkb, hnb⟩ : ∃ m, S.v.length = m := ⟨_, rfl⟩
  rw [hna, hnb] at hs ⊢
  have HNXr_Xk : Hid (Xr ≠ w4.heap.size) := Nat.ne_of_lt (Nat.lt_of_lt_of_le HBr.out.lt hu.size)
  have HNXk_Xr : Hid (w4.heap.size ≠ Xr) := fun h9 => HNXr_Xk.out h9.symm
  have HXWXk : Hid (w.heap.size ≤ w4.heap.size) := Nat.le_trans HU.out.size hu.size
  have hb := BoxS.new hs hna hnb
  have hv := hu.trans (Up.alloc w4 (.cells #[.slice oka nka cka, .slice okb nkb ckb] 31))
  clear hu hs hna hnb
  go_upto_region 6 with (fail)
  replace HBr := Lib.hid (HBr.out.up hv)
  replace HOZ := Lib.hid (HOZ.out.up hv)
  replace HOK := Lib.hid (HOK.out.up hv)
  replace HU := Lib.hid (HU.out.trans hv)
  clear hv
  have HBk := Lib.hid hb
  clear hb
  generalize w4.alloc (.cells #[.slice oka nka cka, .slice okb nkb ckb] 31) = W5 at HBr HBk HOZ HOK HU ⊢
  generalize w4.heap.size = Xk at HBk HNXr_Xk HNXk_Xr HXWXk ⊢
  have HLG := Lib.hid (log_ok _ K W5 HOK.out HK.out.chk (by have := HK.out.len; omega))
  have HRP := Lib.hid (replay_log frames1 HK.out.runs (by have := HK.out.len; omega))
  have HL2 := Lib.hid HK.out.log
  generalize logG (frm 1) K = F2 at HLG HRP HL2
  rw [HLK.out] at HRP
  go_wp2_with fail
  refine HLG.out.mono ?_
  clear HLG
  rintro e w6 ⟨rfl, hu⟩
  replace HBr := Lib.hid (HBr.out.up hu)
  replace HBk := Lib.hid (HBk.out.up hu)
  replace HOZ := Lib.hid (HOZ.out.up hu)
  replace HOK := Lib.hid (HOK.out.up hu)
  replace HU := Lib.hid (HU.out.trans hu)
  clear hu
  have HC := Lib.hid (replay_is w6 (by have := HL2.out; omega) HRP.out)
  unfold RpO at HC
  go_wp2_with fail
  refine HC.out.mono ?_
  clear HC
  rintro e w7 ⟨oqa, cqa, oqb, cqb, rfl, hs, hu⟩
  obtain ⟨nqa, hna⟩ : ∃ m, S.b.length = m := ⟨_, rfl⟩
  obtain ⟨nqb, hnb⟩ : ∃ m, S.v.length = m := ⟨_, rfl⟩
  rw [hna, hnb] at hs ⊢
  replace HBr := Lib.hid (HBr.out.up hu)
  replace HBk := Lib.hid (HBk.out.up hu)
  replace HOZ := Lib.hid (HOZ.out.up hu)
  replace HOK := Lib.hid (HOK.out.up hu)
  replace HU := Lib.hid (HU.out.trans hu)
  clear hu
  have HSq := Lib.hid hs
  have HNqa := Lib.hid hna
  have HNqb := Lib.hid hnb
  clear hs hna hnb
  have r0 := HBr.out.f0
  have r1 := HBr.out.f1
  have r2 := HBr.out.k0
  have r3 := HBr.out.k1
  go_upto_region 8 with (fail)
  clear r0 r1 r2 r3
  have HBq := Lib.hid (HBr.out.put HSq.out HNqa.out HNqb.out)
  replace HBk := Lib.hid (HBk.out.beside (x := .slice oqa nqa cqa) (y := .slice oqb nqb cqb) HBr.out HNXk_Xr.out rfl)
  replace HU := Lib.hid (up2 (x := .slice oqa nqa cqa) (y := .slice oqb nqb cqb) HU.out HXWXr.out)
  clear HBr HSq HNqa HNqb
  generalize (w7.setCell ⟨Xr, 0, none⟩ (.slice oqa nqa cqa)).setCell ⟨Xr, 1, none⟩ (.slice oqb nqb cqb) = W8 at HBq HBk HU ⊢
  have HSM := Lib.hid (fun W (hW : Up W8 W) => same_yes _ _ S W (HBq.out.up hW).st (HBk.out.up hW).st)
  have HCK : Hid (∀ W, Up W8 W → Calls Tryz.prog 11 #[.agg #[.slice oqa nqa cqa, .slice oqb nqb cqb]] W fun e w' => e = .returned (.int .i64 0) ∧ Up W w') := fun W hW => by have h9 := vcheck_any _ S W (HBq.out.up hW).st (good_wf HK.out.good); rwa [chkS_zero.2 HK.out.good] at h9
  have hkk : ((LK : Int) == (LK : Int)) = true := by simp
  have kq0 := HBq.out.k0
  have kq1 := HBq.out.k1
  have kk0 := HBk.out.k0
  have kk1 := HBk.out.k1
  go_wp2_with fail
  refine (HSM.out _ (Up.refl _)).mono ?_
  rintro e wy ⟨rfl, hu⟩
  have HUY := Lib.hid hu
  clear hu
  clear kq0 kq1 kk0 kk1
  have k0 := (HBq.out.up HUY.out).k0
  have k1 := (HBq.out.up HUY.out).k1
  go_wp2_with fail
  refine (HCK.out _ HUY.out).mono ?_
  rintro e wz ⟨rfl, hu⟩
  have HUZ := Lib.hid ((HU.out.trans HUY.out).trans hu)
  clear hu k0 k1
  go_wp2_with fail
  go_ret
  exact ⟨rfl, HUZ.out⟩

end Go.Proofs.YtkkecgamaahniaaGreat
