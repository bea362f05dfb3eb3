/-
  The law LogTorn: of a log that is cut off the whole frames are done, and nothing else. Conditions: slices of deeds that read as deeds.
-/
import Derived.Test.YtkkecgamaahniaaGreatJB46
import Derived.Test.YtkkecgamaahniaaGreatJB16
import Derived.Deep.DeepCutAuto
import Derived.Deep.RegionHeld3
namespace Go.Proofs.YtkkecgamaahniaaGreat
open Go.RowKit
open Go.Proofs
open WoolBag
open WoolVol

set_option maxRecDepth 100000 in
set_option maxHeartbeats 8000000 in
theorem logTorn_walk (a0 : Option Addr) (len0 cap0 : Nat) (z0 : List Opn) (a1 : Int) (w : World) (w0 : Ops w (.slice a0 len0 cap0) z0) (_ : (Lit.int .i64 a1).wf = true) :
    Calls Tryz.prog 4 #[.slice a0 len0 cap0, .int .i64 a1] w fun e w' => e = .returned (.bool true) ∧ Up w w' := by
  have HOL := Lib.hid (fun W => ops_oneL W mk1 (chk_wf mk1_chk))
  have HLG := Lib.hid (fun v W (h : Ops W v [mk1]) => log_ok v _ W h (by intro o ho; simp at ho; rw [ho]; exact mk1_chk) (by simp))
  have HOZ := Lib.hid w0
  have HU := Lib.hid (Up.refl w)
  clear w0
  go_enter Tryz.func4, Tryz.ntmps4
  go_wp2_with fail
  refine (HLG.out _ _ (HOL.out _)).mono ?_
  rintro e w1 ⟨rfl, hu0⟩
  have hu := (Up.alloc _ _).trans hu0
  clear hu0 HLG HOL
  replace HOZ := Lib.hid (HOZ.out.up hu)
  replace HU := Lib.hid (HU.out.trans hu)
  clear hu
  have HF13 : Hid ((logG (frm 1) [mk1]).length = 13) := by show _ = _; rw [logG_cons, logG_nil, List.append_nil, frm_length]; rfl
  have HR1 : Hid (replayG FP getV ((logG (frm 1) [mk1]).take 12) = (zeroS, 0, 0)) := by
    have e1 : logG (frm 1) [mk1] = frm 1 (encO mk1) := by rw [logG_cons, logG_nil, List.append_nil]
    have h9 := frames1.cut (encO mk1) 12 (by have := encO_len mk1_chk; omega) (by have h8 : (encO mk1).length = 6 := rfl; omega)
    show _ = _
    rw [e1]
    unfold replayG playG
    rw [if_pos (.inr h9)]
  have HT12 := Lib.hid (to_bs (logG (frm 1) [mk1]) 12 12 rfl (by have := HF13.out; omega))
  have hsz := bs_size (logG (frm 1) [mk1])
  rw [HF13.out] at hsz
  have ht12 := HT12.out
  have HLT : Hid (((logG (frm 1) [mk1]).take 12).length ≤ 1000) := by show _ ≤ _; rw [List.length_take]; omega
  generalize logG (frm 1) [mk1] = F1 at HR1 HF13 HT12 ht12 hsz HLT ⊢
  have hmx : max (0 : Int) 12 = 12 := by decide
  have HC := Lib.hid (replay_is w1 (by have := HLT.out; omega) HR1.out)
  unfold RpO at HC
  go_wp2_with fail
  refine HC.out.mono ?_
  clear HC
  rintro e w2 ⟨ora, cra, orb, crb, rfl, hs, hu⟩
  obtain ⟨nra, hna⟩ : ∃ m, zeroS.b.length = m := ⟨_, rfl⟩
  obtain ⟨nrb, hnb⟩ : ∃ m, zeroS.v.length = m := ⟨_, rfl⟩
  rw [hna, hnb] at hs ⊢
  have HXWXr : Hid (w.heap.size ≤ w2.heap.size) := Nat.le_trans HU.out.size hu.size
  have hb := BoxS.new hs hna hnb
  have hv := hu.trans (Up.alloc w2 (.cells #[.slice ora nra cra, .slice orb nrb crb] 31))
  clear hu hs hna hnb
  go_upto_region 3 with (fail)
  replace HOZ := Lib.hid (HOZ.out.up hv)
  replace HU := Lib.hid (HU.out.trans hv)
  clear hv
  have HBr := Lib.hid hb
  clear hb
  generalize w2.alloc (.cells #[.slice ora nra cra, .slice orb nrb crb] 31) = W3 at HBr HOZ HU ⊢
  generalize w2.heap.size = Xr at HBr HXWXr ⊢
  go_upto_region 5 with (fail)
  clear ht12 hsz
  have HC := Lib.hid (kept_is _ z0 W3 HOZ.out)
  unfold KpO at HC
  have HK := Lib.hid (kept_l z0)
  obtain ⟨⟨K, S⟩, hKS⟩ : ∃ r, keptFrom FP zeroS (z0.take 60) = r := ⟨_, rfl⟩
  rw [hKS] at HC HK
  simp only at HC HK
  clear hKS
  obtain ⟨LK, hLK⟩ : ∃ n, K.length = n := ⟨_, rfl⟩
  have HLK := Lib.hid hLK
  rw [hLK] at HC
  clear hLK
  go_wp2_with fail
  refine HC.out.mono ?_
  clear HC
  rintro e w4 ⟨ok, ck, oka, cka, okb, ckb, rfl, hk, hck, hs, hu⟩
  unfold maxLen at hck
  replace HBr := Lib.hid (HBr.out.up hu)
  replace HOZ := Lib.hid (HOZ.out.up hu)
  replace HU := Lib.hid (HU.out.trans hu)
  -- kept deeds
  have HOK := Lib.hid hk
  have hu := Up.refl w4
  clear hk
  obtain ⟨nka, hna⟩ : ∃ m, S.b.length = m := ⟨_, rfl⟩
  obtain ⟨nkb, hnb⟩ : ∃ m, S.v.length = m := ⟨_, rfl⟩
  rw [hna, hnb] at hs ⊢
  have HNXr_Xk : Hid (Xr ≠ w4.heap.size) := Nat.ne_of_lt (Nat.lt_of_lt_of_le HBr.out.lt hu.size)
  have HNXk_Xr : Hid (w4.heap.size ≠ Xr) := fun h9 => HNXr_Xk.out h9.symm
  have HXWXk : Hid (w.heap.size ≤ w4.heap.size) := Nat.le_trans HU.out.size hu.size
  have hb := BoxS.new hs hna hnb
  have hv := hu.trans (Up.alloc w4 (.cells #[.slice oka nka cka, .slice okb nkb ckb] 31))
  clear hu hs hna hnb
  go_upto_region 6 with (fail)
  replace HBr := Lib.hid (HBr.out.up hv)
  replace HOZ := Lib.hid (HOZ.out.up hv)
  replace HOK := Lib.hid (HOK.out.up hv)
  replace HU := Lib.hid (HU.out.trans hv)
  clear hv
  have HBk := Lib.hid hb
  clear hb
  generalize w4.alloc (.cells #[.slice oka nka cka, .slice okb nkb ckb] 31) = W5 at HBr HBk HOZ HOK HU ⊢
  generalize w4.heap.size = Xk at HBk HNXr_Xk HNXk_Xr HXWXk ⊢
  have HLG := Lib.hid (log_ok _ K W5 HOK.out HK.out.chk (by have := HK.out.len; omega))
  have HL2 := Lib.hid HK.out.log
  obtain ⟨LS, hLS⟩ : ∃ n, (logG (frm 1) K).length = n := ⟨_, rfl⟩
  have hsz := bs_size (logG (frm 1) K)
  rw [hLS] at hsz
  have HLS := Lib.hid hLS
  have hL6 : LS ≤ 6000 := by rw [← hLS]; exact HL2.out
  obtain ⟨q, hq⟩ : ∃ q, within a1 (LS + 1) = q := ⟨_, rfl⟩
  have hqlt : q < LS + 1 := by rw [← hq]; exact within_lt _ _ (by omega)
  have HWI : Hid (∀ W, Calls Tryz.prog 12 #[.int .i64 a1, .int .i64 ((LS : Int) + 1)] W fun e w' => e = .returned (.int .i64 (q : Int)) ∧ W = w') := by
    intro W
    have h9 := within_any a1 ((LS : Int) + 1) W (by omega) (by omega)
    rw [show ((LS : Int) + 1).toNat = LS + 1 by omega, hq] at h9
    exact h9
  have HWR : Hid (wrap64 ((LS : Int) + 1) = (LS : Int) + 1) := by show _ = _; unfold wrap64; omega
  obtain ⟨m, mid, hm1, hm2, hm3, hm4⟩ := replay_torn frames1 HK.out.runs (by have := HK.out.len; omega) q
  have HM1 := Lib.hid hm1
  have HM2 := Lib.hid hm2
  have HM3 := Lib.hid hm3
  have HM4 := Lib.hid hm4
  have HTQ := Lib.hid (to_bs (logG (frm 1) K) (q : Int) q rfl (by omega))
  have HLQ : Hid (((logG (frm 1) K).take q).length ≤ 6000) := by show _ ≤ _; rw [List.length_take]; omega
  have HGM := Lib.hid (runs_good _ zero_good HM2.out)
  have HMK : Hid (madeO FP (K.take m) = mid) := by
    show _ = _
    unfold madeO
    rw [List.take_of_length_le (by rw [List.length_take]; have := HK.out.len; omega)]
    exact runs_deeds _ HM2.out
  have HCM : Hid (∀ o ∈ K.take m, chkO o = 0) := fun o ho => HK.out.chk o (List.mem_of_mem_take ho)
  have HLM : Hid ((K.take m).length = m) := by show _ = _; rw [List.length_take]; omega
  have HMLK : Hid (m ≤ LK) := by show m ≤ LK; rw [← HLK.out]; exact HM1.out
  generalize logG (frm 1) K = F2 at HLG HL2 hsz HLS HM3 HTQ HLQ ⊢
  clear hLS hm1 hm2 hm3 hm4 hq
  go_wp2_with fail
  refine HLG.out.mono ?_
  clear HLG
  rintro e w6 ⟨rfl, hu⟩
  replace HBr := Lib.hid (HBr.out.up hu)
  replace HBk := Lib.hid (HBk.out.up hu)
  replace HOZ := Lib.hid (HOZ.out.up hu)
  replace HOK := Lib.hid (HOK.out.up hu)
  replace HU := Lib.hid (HU.out.trans hu)
  clear hu
  go_upto_region 9 with (fail)
  have hwr := HWR.out
  go_wp2_with fail
  refine (HWI.out _).mono ?_
  rintro e wv ⟨rfl, rfl⟩
  have htq := HTQ.out
  have HC := Lib.hid (replay_is w6 (by have := HLQ.out; omega) HM3.out)
  unfold RpO at HC
  go_wp2_with fail
  refine HC.out.mono ?_
  clear HC
  rintro e w7 ⟨oqa, cqa, oqb, cqb, rfl, hs, hu⟩
  obtain ⟨nqa, hna⟩ : ∃ m, mid.b.length = m := ⟨_, rfl⟩
  obtain ⟨nqb, hnb⟩ : ∃ m, mid.v.length = m := ⟨_, rfl⟩
  rw [hna, hnb] at hs ⊢
  have HNXr_Xq : Hid (Xr ≠ w7.heap.size) := Nat.ne_of_lt (Nat.lt_of_lt_of_le HBr.out.lt hu.size)
  have HNXq_Xr : Hid (w7.heap.size ≠ Xr) := fun h9 => HNXr_Xq.out h9.symm
  have HNXk_Xq : Hid (Xk ≠ w7.heap.size) := Nat.ne_of_lt (Nat.lt_of_lt_of_le HBk.out.lt hu.size)
  have HNXq_Xk : Hid (w7.heap.size ≠ Xk) := fun h9 => HNXk_Xq.out h9.symm
  have HXWXq : Hid (w.heap.size ≤ w7.heap.size) := Nat.le_trans HU.out.size hu.size
  have hb := BoxS.new hs hna hnb
  have hv := hu.trans (Up.alloc w7 (.cells #[.slice oqa nqa cqa, .slice oqb nqb cqb] 31))
  clear hu hs hna hnb
  go_upto_region 10 with (fail)
  replace HBr := Lib.hid (HBr.out.up hv)
  replace HBk := Lib.hid (HBk.out.up hv)
  replace HOZ := Lib.hid (HOZ.out.up hv)
  replace HOK := Lib.hid (HOK.out.up hv)
  replace HU := Lib.hid (HU.out.trans hv)
  clear hv
  have HBq := Lib.hid hb
  clear hb
  generalize w7.alloc (.cells #[.slice oqa nqa cqa, .slice oqb nqb cqb] 31) = W8 at HBr HBk HBq HOZ HOK HU ⊢
  generalize w7.heap.size = Xq at HBq HNXr_Xq HNXq_Xr HNXk_Xq HNXq_Xk HXWXq ⊢
  clear htq
  have hmk := HMLK.out
  have d1 : decide ((m : Int) < 0) = false := decide_eq_false (by omega)
  have d2 : decide (m > LK) = false := decide_eq_false (by omega)
  have d3 : decide ((LK : Int) < (m : Int)) = false := decide_eq_false (by omega)
  have d4 : decide (LK < m) = false := decide_eq_false (by omega)
  go_upto_region 12 with (fail)
  have HOM : Hid (Ops W8 (.slice ok m ck) (K.take m)) := HOK.out.front m HM1.out
  have HLG := Lib.hid (log_ok _ (K.take m) W8 HOM.out HCM.out (by have := HK.out.len; have := HM1.out; rw [HLM.out]; omega))
  obtain ⟨LT, hLT⟩ : ∃ n, (logG (frm 1) (K.take m)).length = n := ⟨_, rfl⟩
  have hszt := bs_size (logG (frm 1) (K.take m))
  rw [hLT] at HM4 hszt
  generalize logG (frm 1) (K.take m) = F3 at HLG hszt
  clear hLT
  have hmc : m ≤ ck := by have h9 := HOK.out.1; obtain ⟨_, _, h1, h2, _⟩ := h9.slice; simp only [Value.slice.injEq] at h1; have := HLK.out; omega
  go_wp2_with fail
  refine HLG.out.mono ?_
  clear HLG
  rintro e w9 ⟨rfl, hu⟩
  replace HBr := Lib.hid (HBr.out.up hu)
  replace HBk := Lib.hid (HBk.out.up hu)
  replace HBq := Lib.hid (HBq.out.up hu)
  replace HOZ := Lib.hid (HOZ.out.up hu)
  replace HOK := Lib.hid (HOK.out.up hu)
  replace HOM := Lib.hid (HOM.out.up hu)
  replace HU := Lib.hid (HU.out.trans hu)
  clear hu
  have HC := Lib.hid (MdO.of (made_any _ (K.take m) w9 HOM.out))
  unfold MdO at HC
  rw [HMK.out] at HC
  go_wp2_with fail
  refine HC.out.mono ?_
  clear HC
  rintro e w10 ⟨oma, cma, omb, cmb, rfl, hs, hu⟩
  obtain ⟨nma, hna⟩ : ∃ m, mid.b.length = m := ⟨_, rfl⟩
  obtain ⟨nmb, hnb⟩ : ∃ m, mid.v.length = m := ⟨_, rfl⟩
  rw [hna, hnb] at hs ⊢
  have HNXr_Xm : Hid (Xr ≠ w10.heap.size) := Nat.ne_of_lt (Nat.lt_of_lt_of_le HBr.out.lt hu.size)
  have HNXm_Xr : Hid (w10.heap.size ≠ Xr) := fun h9 => HNXr_Xm.out h9.symm
  have HNXk_Xm : Hid (Xk ≠ w10.heap.size) := Nat.ne_of_lt (Nat.lt_of_lt_of_le HBk.out.lt hu.size)
  have HNXm_Xk : Hid (w10.heap.size ≠ Xk) := fun h9 => HNXk_Xm.out h9.symm
  have HNXq_Xm : Hid (Xq ≠ w10.heap.size) := Nat.ne_of_lt (Nat.lt_of_lt_of_le HBq.out.lt hu.size)
  have HNXm_Xq : Hid (w10.heap.size ≠ Xq) := fun h9 => HNXq_Xm.out h9.symm
  have HXWXm : Hid (w.heap.size ≤ w10.heap.size) := Nat.le_trans HU.out.size hu.size
  have hb := BoxS.new hs hna hnb
  have hv := hu.trans (Up.alloc w10 (.cells #[.slice oma nma cma, .slice omb nmb cmb] 31))
  clear hu hs hna hnb
  go_upto_region 14 with (fail)
  replace HBr := Lib.hid (HBr.out.up hv)
  replace HBk := Lib.hid (HBk.out.up hv)
  replace HBq := Lib.hid (HBq.out.up hv)
  replace HOZ := Lib.hid (HOZ.out.up hv)
  replace HOK := Lib.hid (HOK.out.up hv)
  replace HOM := Lib.hid (HOM.out.up hv)
  replace HU := Lib.hid (HU.out.trans hv)
  clear hv
  have HBm := Lib.hid hb
  clear hb
  generalize w10.alloc (.cells #[.slice oma nma cma, .slice omb nmb cmb] 31) = W11 at HBr HBk HBq HBm HOZ HOK HOM HU ⊢
  generalize w10.heap.size = Xm at HBm HNXr_Xm HNXm_Xr HNXk_Xm HNXm_Xk HNXq_Xm HNXm_Xq HXWXm ⊢
  have HSM := Lib.hid (fun W (hW : Up W11 W) => same_yes _ _ mid W (HBq.out.up hW).st (HBm.out.up hW).st)
  have hle : decide ((LT : Int) ≤ (q : Int)) = true := decide_eq_true (by have := HM4.out; omega)
  have hle2 : decide (LT ≤ q) = true := decide_eq_true HM4.out
  have kq0 := HBq.out.k0
  have kq1 := HBq.out.k1
  have km0 := HBm.out.k0
  have km1 := HBm.out.k1
  go_wp2_with fail
  refine (HWI.out _).mono ?_
  rintro e wy ⟨rfl, rfl⟩
  go_wp2_with fail
  refine (HSM.out _ (Up.refl _)).mono ?_
  rintro e wz ⟨rfl, hu⟩
  have HUZ := Lib.hid (HU.out.trans hu)
  clear hu
  clear kq0 kq1 km0 km1
  go_wp2_with fail
  go_ret
  exact ⟨rfl, HUZ.out⟩

end Go.Proofs.YtkkecgamaahniaaGreat
