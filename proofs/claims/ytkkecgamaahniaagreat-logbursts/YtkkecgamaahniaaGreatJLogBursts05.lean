/-
  The law LogBursts: a log with sixteen bits, or fewer, turned side by side in the body of a frame is told to be wrong. Conditions: slices of deeds that read as deeds.
-/
import Derived.Test.YtkkecgamaahniaaGreatJB46
import Derived.Test.YtkkecgamaahniaaGreatJB16
import Derived.Test.YtkkecgamaahniaaGreatJLogBursts02
import Derived.Test.YtkkecgamaahniaaGreatJLogBursts04
import Derived.Deep.DeepCutAuto
import Derived.Deep.RegionHeld3
namespace Go.Proofs.YtkkecgamaahniaaGreat
open Go.RowKit
open Go.Proofs
open WoolBag
open WoolVol

theorem min_runB (a b m : Nat) (h : min a b = m) : ∀ (ts : Array TypeId) (t : TypeId) (W : World), (Builtin.min_ ts t #[.int .i64 (a : Int), .int .i64 (b : Int)]).run Tryz.prog W = .ok (.int .i64 (m : Int)) W := by
  intro ts t W
  subst h
  simp [Builtin.min_, Builtin.min2]
  split <;> omega

theorem wrap_sumB (a b c : Nat) (h : a + b = c) (hc : c ≤ 1000000) : IntKind.i64.wrap ((a : Int) + (b : Int)) = (c : Int) := by
  rw [IntKind.wrap_i64]
  omega

set_option maxRecDepth 100000 in
set_option maxHeartbeats 8000000 in
theorem logBursts_walk (a0 : Option Addr) (len0 cap0 : Nat) (z0 : List Opn) (a1 a2 a3 : Int) (w : World) (w0 : Ops w (.slice a0 len0 cap0) z0) (_ : (Lit.int .i64 a1).wf = true) (_ : (Lit.int .i64 a2).wf = true) (w3 : (Lit.int .u16 a3).wf = true) :
    Calls Tryz.prog 5 #[.slice a0 len0 cap0, .int .i64 a1, .int .i64 a2, .int .u16 a3] w fun e w' => e = .returned (.bool true) ∧ Up w w' := by
  obtain ⟨T, rfl, hT⟩ := u16_natL a3 w3
  have HT := Lib.hid hT
  clear hT w3
  have HOL := Lib.hid (fun W => ops_oneL W dr1 (chk_wf dr1_chk))
  have HLG := Lib.hid (fun v W (h : Ops W v [dr1]) => log_ok v _ W h (by intro o ho; simp at ho; rw [ho]; exact dr1_chk) (by simp))
  have HOZ := Lib.hid w0
  have HU := Lib.hid (Up.refl w)
  clear w0
  go_enter Tryz.func5, Tryz.ntmps5
  go_wp2_with fail
  refine (HLG.out _ _ (HOL.out _)).mono ?_
  rintro e w1 ⟨rfl, hu0⟩
  have hu := (Up.alloc _ _).trans hu0
  clear hu0 HLG HOL
  replace HOZ := Lib.hid (HOZ.out.up hu)
  replace HU := Lib.hid (HU.out.trans hu)
  clear hu
  have hsz := bs_size (logG (frm 1) [dr1])
  rw [show (logG (frm 1) [dr1]).length = 13 by rw [logG_cons, logG_nil, List.append_nil, frm_length]; rfl] at hsz
  generalize logG (frm 1) [dr1] = F0 at hsz ⊢
  have HC := Lib.hid (kept_is _ z0 w1 HOZ.out)
  unfold KpO at HC
  have HK := Lib.hid (kept_l z0)
  obtain ⟨⟨K, S⟩, hKS⟩ : ∃ r, keptFrom FP zeroS (z0.take 60) = r := ⟨_, rfl⟩
  rw [hKS] at HC HK
  simp only at HC HK
  clear hKS
  obtain ⟨LK, hLK⟩ : ∃ n, K.length = n := ⟨_, rfl⟩
  have HLK := Lib.hid hLK
  rw [hLK] at HC
  clear hLK
  go_wp2_with fail
  refine HC.out.mono ?_
  clear HC
  rintro e w2 ⟨ok, ck, oka, cka, okb, ckb, rfl, hk, hck, hs, hu⟩
  unfold maxLen at hck
  replace HOZ := Lib.hid (HOZ.out.up hu)
  replace HU := Lib.hid (HU.out.trans hu)
  -- kept deeds
  have HOK := Lib.hid hk
  have hu := Up.refl w2
  clear hk
  obtain ⟨nka, hna⟩ : ∃ m, S.b.length = m := ⟨_, rfl⟩
  obtain ⟨nkb, hnb⟩ : ∃ m, S.v.length = m := ⟨_, rfl⟩
  rw [hna, hnb] at hs ⊢
  have HXWXk : Hid (w.heap.size ≤ w2.heap.size) := Nat.le_trans HU.out.size hu.size
  have hb := BoxS.new hs hna hnb
  have hv := hu.trans (Up.alloc w2 (.cells #[.slice oka nka cka, .slice okb nkb ckb] 31))
  clear hu hs hna hnb
  go_upto_region 5 with (fail)
  replace HOZ := Lib.hid (HOZ.out.up hv)
  replace HOK := Lib.hid (HOK.out.up hv)
  replace HU := Lib.hid (HU.out.trans hv)
  clear hv
  have HBk := Lib.hid hb
  clear hb
  generalize w2.alloc (.cells #[.slice oka nka cka, .slice okb nkb ckb] 31) = W3 at HBk HOZ HOK HU ⊢
  generalize w2.heap.size = Xk at HBk HXWXk ⊢
  clear hsz
  have HLG := Lib.hid (log_ok _ K W3 HOK.out HK.out.chk (by have := HK.out.len; omega))
  obtain ⟨LS, hLS⟩ : ∃ n, (logG (frm 1) K).length = n := ⟨_, rfl⟩
  have hL6 : LS ≤ 6000 := by rw [← hLS]; exact HK.out.log
  have HLS := Lib.hid hLS
  have HL6 := Lib.hid hL6
  generalize logG (frm 1) K = FK at HLG HLS
  clear hLS hL6
  go_wp2_with fail
  refine HLG.out.mono ?_
  clear HLG
  rintro e w4 ⟨rfl, hu⟩
  replace HBk := Lib.hid (HBk.out.up hu)
  replace HOZ := Lib.hid (HOZ.out.up hu)
  replace HOK := Lib.hid (HOK.out.up hu)
  replace HU := Lib.hid (HU.out.trans hu)
  clear hu
  by_cases hz : LK = 0
  · have d0 : ((LK : Int) == 0) = true := by simp; omega
    clear hz
    go_wp2_with fail
    go_ret
    exact ⟨rfl, HU.out⟩
  by_cases hT0 : T = 0
  · have d0 : ((LK : Int) == 0) = false := by simp; omega
    have d1 : ((T : Int) == 0) = true := by simp; omega
    clear hz hT0
    go_wp2_with fail
    go_ret
    exact ⟨rfl, HU.out⟩
  have d0 : ((LK : Int) == 0) = false := by simp; omega
  have d1 : ((T : Int) == 0) = false := by simp; omega
  obtain ⟨q, hq⟩ : ∃ q, within a1 LK = q := ⟨_, rfl⟩
  have hqlt : q < LK := by rw [← hq]; exact within_lt _ _ (by omega)
  have h60 : LK ≤ 60 := by have h9 := HK.out.len; rw [HLK.out] at h9; exact h9
  have HWI : Hid (∀ W, Calls Tryz.prog 12 #[.int .i64 a1, .int .i64 (LK : Int)] W fun e w' => e = .returned (.int .i64 (q : Int)) ∧ W = w') := by
    intro W
    have h9 := within_any a1 (LK : Int) W (by omega) (by omega)
    rw [show (LK : Int).toNat = LK by omega, hq] at h9
    exact h9
  have hqK : q < K.length := by rw [HLK.out]; exact hqlt
  have HCM : Hid (∀ o ∈ K.take q, chkO o = 0) := fun o ho => HK.out.chk o (List.mem_of_mem_take ho)
  have HLM : Hid ((K.take q).length = q) := by show _ = _; rw [List.length_take]; omega
  have HC1 : Hid (chkO K[q] = 0) := HK.out.chk _ (List.getElem_mem hqK)
  have HOM : Hid (Ops w4 (.slice ok q ck) (K.take q)) := HOK.out.front q (by omega)
  have hmc : q ≤ ck := by have h9 := HOK.out.1; obtain ⟨_, _, h1, h2, _⟩ := h9.slice; simp only [Value.slice.injEq] at h1; have := HLK.out; omega
  have hmk : q + 1 ≤ ck := by have h9 := HOK.out.1; obtain ⟨_, _, h1, h2, _⟩ := h9.slice; simp only [Value.slice.injEq] at h1; have := HLK.out; omega
  have rdS := HOK.out.sub q (q + 1) (by omega) (by omega)
  rw [take_drop_one hqK, if_neg (show ¬ ck = q by omega), show q + 1 - q = 1 by omega] at rdS
  have HOS : Hid (Ops w4 (.slice (Option.map (fun x => x.add (q * 5)) ok) 1 (ck - q)) [K[q]]) := rdS
  have HMK := Lib.hid hmk
  clear hq hz rdS hmk
  go_wp2_with fail
  refine (HWI.out _).mono ?_
  rintro e wv ⟨rfl, rfl⟩
  have d2 : decide ((q : Int) < 0) = false := decide_eq_false (by omega)
  have d3 : decide (q > LK) = false := decide_eq_false (by omega)
  have d4 : decide ((LK : Int) < (q : Int)) = false := decide_eq_false (by omega)
  have d5 : decide (LK < q) = false := decide_eq_false (by omega)
  have HLG := Lib.hid (log_ok _ (K.take q) w4 HOM.out HCM.out (by rw [HLM.out]; omega))
  obtain ⟨LT, hLT⟩ : ∃ n, (logG (frm 1) (K.take q)).length = n := ⟨_, rfl⟩
  have hLT6 : LT ≤ 6000 := by have h9 := logG_len (K.take q) HCM.out; rw [HLM.out] at h9; omega
  obtain ⟨FT, hFT⟩ : ∃ F, logG (frm 1) (K.take q) = F := ⟨_, rfl⟩
  rw [hFT] at HLG hLT
  have HFT := Lib.hid hFT
  have HLT := Lib.hid hLT
  have HLT6 := Lib.hid hLT6
  clear hFT hLT hLT6
  go_wp2_with fail
  refine HLG.out.mono ?_
  clear HLG d2 d3 d4 d5
  rintro e w5 ⟨rfl, hu⟩
  replace HBk := Lib.hid (HBk.out.up hu)
  replace HOZ := Lib.hid (HOZ.out.up hu)
  replace HOK := Lib.hid (HOK.out.up hu)
  replace HOM := Lib.hid (HOM.out.up hu)
  replace HOS := Lib.hid (HOS.out.up hu)
  replace HU := Lib.hid (HU.out.trans hu)
  clear hu
  have HLG := Lib.hid (log_ok _ [K[q]] w5 HOS.out (by intro o ho; simp at ho; rw [ho]; exact HC1.out) (by simp))
  have e1 : logG (frm 1) [K[q]] = frm 1 (encO K[q]) := by rw [logG_cons, logG_nil, List.append_nil]
  rw [e1] at HLG
  have hel := encO_len HC1.out
  obtain ⟨LO, hLO⟩ : ∃ n, (frm 1 (encO K[q])).length = n := ⟨_, rfl⟩
  have hlo := frm_length 1 (encO K[q])
  rw [hLO] at hlo
  have hlo1 : 13 ≤ LO := by omega
  have hlo2 : LO ≤ 100 := by omega
  have HBR := Lib.hid (fun (Y rest : List UInt8) (E : Nat) (h1 : Y.length = ((frm 1 (encO K[q])).drop 3).length) (h2 : sp Y = sp ((frm 1 (encO K[q])).drop 3) ^^^ T * 2 ^ E) => burst_replay HK.out hqK (rest := rest) h1 hT0 HT.out h2)
  rw [HFT.out] at HBR
  have hdl : ((frm 1 (encO K[q])).drop 3).length = LO - 3 := by rw [List.length_drop, hLO]
  have htl : ((frm 1 (encO K[q])).take 3).length = 3 := by rw [List.length_take, hLO]; omega
  have hto := to_bs (frm 1 (encO K[q])) 3 3 rfl (by omega)
  have hfr := from_bs (frm 1 (encO K[q])) 3 3 rfl (by omega)
  have hsO := bs_size (frm 1 (encO K[q]))
  rw [hLO] at hsO
  have HTO := Lib.hid hto
  have HFR := Lib.hid hfr
  clear e1 hel hlo hLO hto hfr
  generalize frm 1 (encO K[q]) = FO at HLG HBR hdl htl HTO HFR hsO
  obtain ⟨P3, hP3⟩ : ∃ P, FO.take 3 = P := ⟨_, rfl⟩
  obtain ⟨D3, hD3⟩ : ∃ P, FO.drop 3 = P := ⟨_, rfl⟩
  rw [hP3] at HTO htl HBR
  rw [hD3] at HFR hdl HBR
  obtain ⟨M, hM⟩ : ∃ M, LO - 3 = M := ⟨_, rfl⟩
  rw [hM] at hdl
  rw [hdl] at HBR
  have HDS : Hid ((bs D3).size = M) := by show _ = _; rw [bs_size, hdl]
  have HDD : Hid ((bs D3).data.toList = D3) := bs_list _
  have HTL := Lib.hid htl
  have HSO := Lib.hid hsO
  obtain ⟨P, hP⟩ : ∃ n, 8 * M - 15 = n := ⟨_, rfl⟩
  have HPE : Hid (8 * ((LO : Int) - 3) - 15 = (P : Int)) := by show _ = _; omega
  obtain ⟨A, hA⟩ : ∃ n, within a2 P = n := ⟨_, rfl⟩
  have hAl : A < P := by rw [← hA]; exact within_lt _ _ (by omega)
  have HWI2 : Hid (∀ W, Calls Tryz.prog 12 #[.int .i64 a2, .int .i64 (P : Int)] W fun e w' => e = .returned (.int .i64 (A : Int)) ∧ W = w') := by
    intro W
    have h9 := within_any a2 (P : Int) W (by omega) (by omega)
    rw [show (P : Int).toNat = P by omega, hA] at h9
    exact h9
  have HM1 : Hid (M ≤ 97) := by show M ≤ 97; omega
  have HA16 : Hid (A + 16 ≤ 8 * M) := by show _ ≤ _; omega
  clear hA hP hP3 hD3 hdl htl hsO
  clear hmc
  have hmk := HMK.out
  have hne : ¬ ck = q := by omega
  go_wp2_with fail
  refine HLG.out.mono ?_
  clear HLG hmk hne
  rintro e w6 ⟨rfl, hu⟩
  replace HBk := Lib.hid (HBk.out.up hu)
  replace HOZ := Lib.hid (HOZ.out.up hu)
  replace HOK := Lib.hid (HOK.out.up hu)
  replace HOM := Lib.hid (HOM.out.up hu)
  replace HOS := Lib.hid (HOS.out.up hu)
  replace HU := Lib.hid (HU.out.trans hu)
  clear hu
  have d9 : decide ((LO : Int) < 9) = false := decide_eq_false (by omega)
  have hsO := HSO.out
  go_wp2_with fail
  rw [HPE.out]
  refine (HWI2.out _).mono ?_
  rintro e wv ⟨rfl, rfl⟩
  clear d9
  go_upto_region 16 with (fail)
  have hl6 := HL6.out
  have hlt6 := HLT6.out
  have hsT : (bs FT).size = LT := by rw [bs_size, HLT.out]
  have hsK : (bs FK).size = LS := by rw [bs_size, HLS.out]
  obtain ⟨SO, hSO⟩ : ∃ n, LT + LO = n := ⟨_, rfl⟩
  have HWS := Lib.hid (wrap_sumB LT LO SO hSO (by omega))
  obtain ⟨MN, hMN⟩ : ∃ n, min LS SO = n := ⟨_, rfl⟩
  have hmin := min_runB LS SO MN hMN
  have hfK := from_bs FK (MN : Int) MN rfl (by rw [HLS.out]; omega)
  have hRl : (FK.drop MN).length ≤ 6000 := by rw [List.length_drop, HLS.out]; omega
  generalize FK.drop MN = R at hfK hRl
  have HRL := Lib.hid hRl
  have hto := HTO.out
  have hfr := HFR.out
  have hadd := add_bs FT P3 (by rw [HLT.out, HTL.out]; omega)
  have HRY : Hid (∀ (Y : List UInt8) (E : Nat) (W : World) (Z : List UInt8), Y.length = M → sp Y = sp D3 ^^^ T * 2 ^ E → FT ++ P3 ++ Y ++ R = Z → Calls Tryz.prog 8 #[.string (bs Z)] W fun e w' => ∃ (o1 : Option Addr) (c1 : Nat) (o2 : Option Addr) (c2 : Nat), e = .returned (.tuple #[.agg #[.slice o1 0 c1, .slice o2 0 c2], .int .i64 0, .int .i64 6]) ∧ Up W w') := by
    intro Y E W Z h1 h2 h3
    subst h3
    refine (replay_is W (by rw [List.length_append, List.length_append, List.length_append, HLT.out, HTL.out, h1]; omega) (HBR.out Y R E h1 h2)).mono ?_
    rintro e w' ⟨o1, c1, o2, c2, he, _, hu⟩
    exact ⟨o1, c1, o2, c2, he, hu⟩
  clear hSO hMN hRl hM
  have HB1 : Hid ((bs D3).size ≤ 1000) := by show _ ≤ _; rw [HDS.out]; have := HM1.out; omega
  have HB2 : Hid (A + 16 ≤ 8 * (bs D3).size) := by show _ ≤ _; rw [HDS.out]; exact HA16.out
  have HB3 : Hid (∀ l : List UInt8, l.length = M → (FT ++ P3).length + l.length ≤ 9223372036854775807) := by intro l hl; rw [List.length_append, HLT.out, HTL.out, hl]; have := HM1.out; omega
  have HB4 : Hid (∀ l : List UInt8, l.length = M → (FT ++ P3 ++ l).length + R.length ≤ 9223372036854775807) := by intro l hl; rw [List.length_append, List.length_append, HLT.out, HTL.out, hl]; have := HM1.out; have := HRL.out; omega
  obtain ⟨X1, hX1⟩ : ∃ X, FT ++ P3 = X := ⟨_, rfl⟩
  rw [hX1] at hadd HB3 HB4 HRY
  clear hX1
  have hws := HWS.out
  go_region_held3 (fun _ => True) (trivial) (first
    | (go_at_call 14; (refine (burst_any (bs D3) A T _ HB1.out HB2.out HT.out).mono ?_); rintro e w4 ⟨l, hll, hsp, rfl, u4⟩; rw [HDS.out] at hll; rw [HDD.out] at hsp; have HSP := Lib.hid hsp; clear hsp; have hadd2 := add_bs X1 l (HB3.out l hll); have hadd3 := add_bs (X1 ++ l) R (HB4.out l hll); obtain ⟨X2, hX2⟩ : ∃ X, X1 ++ l = X := ⟨_, rfl⟩; have HX3 : Hid (X1 ++ l ++ R = X2 ++ R) := (by rw [hX2]; rfl); rw [hX2] at hadd2 hadd3; clear hX2; obtain ⟨X3, hX3⟩ : ∃ X, X2 ++ R = X := ⟨_, rfl⟩; rw [hX3] at hadd3 HX3; clear hX3; have HLL := Lib.hid hll; clear hll; rw [show (⟨l.toArray⟩ : ByteArray) = bs l from rfl])
    | (go_at_call 8; ((with_reducible refine (HRY.out l _ _ _ HLL.out HSP.out HX3.out).mono ?_); rintro e w5 ⟨o1, c1, o2, c2, rfl, u5⟩; (first
      | (have hx2 := RowC.up (heap_alloc_new _ _) u5; have p0 := hx2.cell (j := 0) rfl; have p1 := hx2.cell (j := 1) rfl; have p2 := hx2.frozen 0; have p3 := hx2.frozen 1)
      | (have hx2 := RowC.up (heap_alloc_new _ _) ((Up.drew _).trans (u4.trans u5)); have p0 := hx2.cell (j := 0) rfl; have p1 := hx2.cell (j := 1) rfl; have p2 := hx2.frozen 0; have p3 := hx2.frozen 1)
      | skip))))
  all_goals
    go_wp2_with fail
    go_ret
    exact ⟨rfl, HU.out.trans (by first | exact (Up.drew _).trans (u4.trans (u5.trans (Up.alloc _ _))) | exact up2 ((Up.drew _).trans (u4.trans ((Up.alloc _ _).trans u5))) (Nat.le_trans u4.size (Nat.le_refl _)) | exact up2 ((Up.alloc _ _).trans ((Up.drew _).trans (u4.trans u5))) (Nat.le_refl _))⟩

end Go.Proofs.YtkkecgamaahniaaGreat
