/-
  The texts RefRep, LogF, ShelfB, BldM, one behind the other; each says below what it holds and on what conditions.
-/
import Derived.Test.YtbeigaanlhaolaaGreatDoorJB26
import Derived.Test.YtbeigaanlhaolaaGreatDoorJB27
import Derived.Test.YtbeigaanlhaolaaGreatDoorJB29
import Derived.Test.YtbeigaanlhaolaaGreatDoorJB42
import Derived.Deep.RegionWith
import Derived.Shelf.Strings.Builder1
import Derived.Test.YtbeigaanlhaolaaGreatDoorProg
import Derived.Test.YtbeigaanlhaolaaGreatDoorJB01

/-
  What the reference's Replay returns. Conditions: a right state that can be read, a text that fits in memory, at most 200 deeds done.
-/
namespace Go.Proofs.YtbeigaanlhaolaaGreatDoor
open Go.RowKit
open Go.Proofs
open WoolBag
open WoolVol

/-- a round of the play, by what is read and what is done -/
theorem play_step2 {cur : Sta} {s B : List UInt8} {n K Z E : Nat} {RS : Sta × Nat × Int} (hG : getV s = ((K, B), Z, E)) (h : playG FP getV (s.length + 1) cur s n = RS) :
    (s = [] → E = 7) ∧ (E = 7 → RS = (cur, n, 0)) ∧ (E ≠ 7 → E ≠ 0 → RS = (zeroS, 0, (E : Int))) ∧ (E = 0 → Z ≤ s.length ∧ 0 < Z ∧ B.length ≤ 700 ∧ (n = 200 → RS = (zeroS, 0, 2)) ∧
      (n ≠ 200 → (decO B = none → RS = (zeroS, 0, 3)) ∧ ∀ o, decO B = some o → chkO o = 0 ∧ OpWf o ∧ (K ≠ 1 → RS = (zeroS, 0, 3)) ∧ (K = 1 → ((doO FP cur o).2 ≠ 0 → RS = (zeroS, 0, 3)) ∧
        ((doO FP cur o).2 = 0 → WoolVol.Good FP (doO FP cur o).1 ∧ playG FP getV ((s.drop Z).length + 1) (doO FP cur o).1 (s.drop Z) (n + 1) = RS)))) := by
  have hs0 : s = [] → E = 7 := by
    rintro rfl
    have h9 : getV [] = ((0, []), 0, 7) := by rfl
    rw [h9] at hG
    simp only [Prod.mk.injEq] at hG
    omega
  have hu : playG FP getV (s.length + 1) cur s n = if s = [] ∨ (getV s).2.2 = 7 then (cur, n, 0)
    else if (getV s).2.2 ≠ 0 then (zeroS, 0, ((getV s).2.2 : Int))
    else if n = 200 then (zeroS, 0, 2)
    else match decO (getV s).1.2 with
      | none => (zeroS, 0, 3)
      | some o => if (getV s).1.1 ≠ 1 ∨ (doO FP cur o).2 ≠ 0 then (zeroS, 0, 3) else playG FP getV s.length (doO FP cur o).1 (s.drop (getV s).2.1) (n + 1) := rfl
  rw [hu, hG] at h
  simp only at h
  refine ⟨hs0, fun e => ?_, fun e7 e0 => ?_, fun e0 => ?_⟩
  · rw [if_pos (.inr e)] at h; exact h.symm
  · rw [if_neg (by rintro (h9 | h9); exact e7 (hs0 h9); exact e7 h9), if_pos e0] at h; exact h.symm
  · subst e0
    have hsn : ¬ (s = [] ∨ (0 : Nat) = 7) := by
      rintro (h9 | h9)
      · have := hs0 h9; omega
      · omega
    rw [if_neg hsn, if_neg (by simp)] at h
    obtain ⟨K', B', _, _, h3, h4, h5, _⟩ := get_ok s (by rw [hG])
    rw [hG] at h5
    simp only [Prod.mk.injEq] at h5
    obtain ⟨⟨rfl, rfl⟩, rfl, _⟩ := h5
    refine ⟨h4, by omega, h3, fun hn => ?_, fun hn => ?_⟩
    · rw [if_pos hn] at h; exact h.symm
    · rw [if_neg hn] at h
      refine ⟨fun hd => ?_, fun o hd => ?_⟩
      · rw [hd] at h; exact h.symm
      · rw [hd] at h
        simp only at h
        refine ⟨(enc_dec hd).2, decO_wf hd, fun hK => ?_, fun hK => ⟨fun hz => ?_, fun hz => ?_⟩⟩
        · rw [if_pos (.inl hK)] at h; exact h.symm
        · rw [if_pos (.inr hz)] at h; exact h.symm
        · rw [if_neg (by rintro (h9 | h9); exact h9 hK; exact h9 hz)] at h
          refine ⟨?_, ?_⟩
          · have hc := (enc_dec hd).2
            unfold doO at hz ⊢
            rw [if_neg (by simp [hc])] at hz ⊢
            exact (doK_good hz).2
          · rw [← h]
            refine play_fuel frames1 _ _ _ _ _ (by omega) ?_
            rw [List.length_drop]
            omega

set_option maxRecDepth 100000 in
set_option maxHeartbeats 4000000 in
theorem refReplay_step (s : List UInt8) (n : Nat) (cur : Sta) (v : Value) (w : World) (hl : s.length ≤ 140737488351232) (hn : n ≤ 200) (hst : Stat w v cur) (hg : WoolVol.Good FP cur)
    (IH : ∀ (s' : List UInt8) (n' : Nat) (cur' : Sta) (v' : Value) (w' : World), s'.length < s.length → s'.length ≤ 140737488351232 → n' ≤ 200 → Stat w' v' cur' → WoolVol.Good FP cur' → Calls Tryz.prog 9 #[v', .string (bs s'), .int .i64 (n' : Int)] w' (RepPost w' (playG FP getV (s'.length + 1) cur' s' n'))) :
    Calls Tryz.prog 9 #[v, .string (bs s), .int .i64 (n : Int)] w (RepPost w (playG FP getV (s.length + 1) cur s n)) := by
  obtain ⟨RS, hRS⟩ : ∃ RS, playG FP getV (s.length + 1) cur s n = RS := ⟨_, rfl⟩
  rw [hRS]
  obtain ⟨⟨⟨K, B⟩, Z, E⟩, hGV⟩ : ∃ r, getV s = r := ⟨_, rfl⟩
  obtain ⟨hs0, hs1, hs2, hs3⟩ := play_step2 hGV hRS
  have HS0 := Lib.hid hs0
  have HS1 := Lib.hid hs1
  have HS2 := Lib.hid hs2
  have HS3 := Lib.hid hs3
  have HG := Lib.hid (fun W => unframe_any s W hl)
  unfold getR at HG
  rw [hGV] at HG
  unfold frmR at HG
  simp only at HG
  have HST := Lib.hid hst
  have HGD := Lib.hid hg
  have HIH := Lib.hid IH
  have HLN := Lib.hid hl
  have hsz := bs_size s
  obtain ⟨vb, vv, rfl, hb, hv⟩ := hst
  obtain ⟨oB, cB, rfl, _⟩ := hb.slice
  obtain ⟨oV, cV, rfl, _, _⟩ := hv.slice
  obtain ⟨M, hM⟩ : ∃ M, cur.b.length = M := ⟨_, rfl⟩
  obtain ⟨N, hN⟩ : ∃ N, cur.v.length = N := ⟨_, rfl⟩
  rw [hM, hN] at HST
  rw [hM, hN]
  have HM := Lib.hid hM
  have HN := Lib.hid hN
  clear hb hv hM hN hs0 hs1 hs2 hs3 hGV hRS IH hg hl
  have HX : Hid (RowC ((w.alloc (.cells #[.slice oB M cB, .slice oV N cV] 36)).alloc (.cells #[.slice none 0 0, .slice none 0 0] 36)) w.heap.size 36 [.slice oB M cB, .slice oV N cV]) := RowC.up (rowN_at [.slice oB M cB, .slice oV N cV] 36 rfl) (Up.alloc _ _)
  have HR : Hid (RowC ((w.alloc (.cells #[.slice oB M cB, .slice oV N cV] 36)).alloc (.cells #[.slice none 0 0, .slice none 0 0] 36)) (w.heap.size + 1) 36 [.slice none 0 0, .slice none 0 0]) := box_new w _ _ _ _
  have HU : Hid (Up w ((w.alloc (.cells #[.slice oB M cB, .slice oV N cV] 36)).alloc (.cells #[.slice none 0 0, .slice none 0 0] 36))) := (Up.alloc _ _).trans (Up.alloc _ _)
  go_enter Tryz.func9, Tryz.ntmps9
  go_upto_region 1 with (fail)
  generalize ((w.alloc (.cells #[.slice oB M cB, .slice oV N cV] 36)).alloc (.cells #[.slice none 0 0, .slice none 0 0] 36)) = W0 at HX HR HU ⊢
  obtain ⟨X, hX⟩ : ∃ X, w.heap.size = X := ⟨_, rfl⟩
  obtain ⟨R, hR⟩ : ∃ R, w.heap.size + 1 = R := ⟨_, rfl⟩
  have HXG : Hid (w.heap.size ≤ X) := by show _ ≤ _; omega
  have HRG : Hid (w.heap.size ≤ R) := by show _ ≤ _; omega
  have HRX : Hid (R ≠ X) := by show _ ≠ _; omega
  have HXR : Hid (X ≠ R) := by show _ ≠ _; omega
  rw [hR] at HR ⊢
  rw [hX] at HX ⊢
  clear hX hR
  go_wp2_with fail
  refine (HG.out _).mono ?_
  rintro e w3 ⟨rfl, u3⟩
  have hv := u3.trans (Up.alloc w3 (.cells #[.int .i64 (K : Int), .string (bs B)] 32))
  have HF : Hid (RowC (w3.alloc (.cells #[.int .i64 (K : Int), .string (bs B)] 32)) w3.heap.size 32 [.int .i64 (K : Int), .string (bs B)]) := heap_alloc_new w3 _
  replace HX := Lib.hid (HX.out.up hv)
  replace HR := Lib.hid (HR.out.up hv)
  replace HU := Lib.hid (HU.out.trans hv)
  clear u3 hv HG
  go_upto_region 2 with (fail)
  generalize w3.alloc (.cells #[.int .i64 (K : Int), .string (bs B)] 32) = W4 at HF HX HR HU ⊢
  generalize w3.heap.size = Q at HF ⊢
  by_cases hs : s = []
  · have hE := HS0.out hs
    subst hs
    subst hE
    have HQ := Lib.hid (HS1.out rfl)
    have hem := empty_txt
    generalize bs [] = S at *
    clear HS0 HS1 HS2 HS3 HIH
    have r0 := HR.out.frozen 0
    have r1 := HR.out.frozen 1
    have r2 := HR.out.cell (j := 0) rfl
    have r3 := HR.out.cell (j := 1) rfl
    have x0 := HX.out.cell (j := 0) rfl
    have x1 := HX.out.cell (j := 1) rfl
    go_wp2_with fail
    have hz := (HR.out.set 0 (.slice oB M cB)).set 1 (.slice oV N cV)
    have z0 := hz.cell (j := 0) rfl
    have z1 := hz.cell (j := 1) rfl
    have HUZ := Lib.hid (up2 (x := .slice oB M cB) (y := .slice oV N cV) HU.out HRG.out)
    generalize (W4.setCell ⟨R, 0, none⟩ (.slice oB M cB)).setCell ⟨R, 1, none⟩ (.slice oV N cV) = WZ at z0 z1 HUZ ⊢
    exact bodyPost_ret (v := .tuple #[.agg #[.slice oB M cB, .slice oV N cV], .int .i64 (n : Int), .int .i64 0]) (by simp [results, Tryz.results9, go_sem, z0, z1]) rfl ⟨oB, cB, oV, cV, by rw [HQ.out]; simp only; rw [HM.out, HN.out], by rw [HQ.out]; simp only; rw [HM.out, HN.out]; exact HST.out.up HUZ.out, HUZ.out⟩
  have hne := not_empty s (List.length_pos_iff.2 hs)
  by_cases h7 : E = 7
  · subst h7
    have HQ := Lib.hid (HS1.out rfl)
    generalize bs s = S at *
    clear HS0 HS1 HS2 HS3 HIH
    have r0 := HR.out.frozen 0
    have r1 := HR.out.frozen 1
    have r2 := HR.out.cell (j := 0) rfl
    have r3 := HR.out.cell (j := 1) rfl
    have x0 := HX.out.cell (j := 0) rfl
    have x1 := HX.out.cell (j := 1) rfl
    go_wp2_with fail
    have hz := (HR.out.set 0 (.slice oB M cB)).set 1 (.slice oV N cV)
    have z0 := hz.cell (j := 0) rfl
    have z1 := hz.cell (j := 1) rfl
    have HUZ := Lib.hid (up2 (x := .slice oB M cB) (y := .slice oV N cV) HU.out HRG.out)
    generalize (W4.setCell ⟨R, 0, none⟩ (.slice oB M cB)).setCell ⟨R, 1, none⟩ (.slice oV N cV) = WZ at z0 z1 HUZ ⊢
    exact bodyPost_ret (v := .tuple #[.agg #[.slice oB M cB, .slice oV N cV], .int .i64 (n : Int), .int .i64 0]) (by simp [results, Tryz.results9, go_sem, z0, z1]) rfl ⟨oB, cB, oV, cV, by rw [HQ.out]; simp only; rw [HM.out, HN.out], by rw [HQ.out]; simp only; rw [HM.out, HN.out]; exact HST.out.up HUZ.out, HUZ.out⟩
  have he7 : ((E : Int) == 7) = false := by rw [beq_eq_false_iff_ne]; omega
  by_cases h0 : E = 0
  · subst h0
    obtain ⟨hz1, hz2, hb7, hn2, hap⟩ := HS3.out rfl
    by_cases hn200 : n = 200
    · have HQ := Lib.hid (hn2 hn200)
      subst hn200
      clear HS0 HS1 HS2 HS3 hap hn2 HIH
      have r0 := HR.out.frozen 0
      have r1 := HR.out.frozen 1
      have r2 := HR.out.cell (j := 0) rfl
      have r3 := HR.out.cell (j := 1) rfl
      go_wp2_with fail
      have hz := (HR.out.set 0 (.slice none 0 0)).set 1 (.slice none 0 0)
      have z0 := hz.cell (j := 0) rfl
      have z1 := hz.cell (j := 1) rfl
      have HUZ := Lib.hid (up2 (x := .slice none 0 0) (y := .slice none 0 0) HU.out HRG.out)
      generalize (W4.setCell ⟨R, 0, none⟩ (.slice none 0 0)).setCell ⟨R, 1, none⟩ (.slice none 0 0) = WZ at z0 z1 HUZ ⊢
      exact bodyPost_ret (v := .tuple #[.agg #[.slice none 0 0, .slice none 0 0], .int .i64 0, .int .i64 2]) (by simp [results, Tryz.results9, go_sem, z0, z1]) rfl ⟨none, 0, none, 0, by rw [HQ.out]; rfl, by rw [HQ.out]; exact Stat.zero _, HUZ.out⟩
    · have hnz : ((n : Int) == 200) = false := by rw [beq_eq_false_iff_ne]; omega
      obtain ⟨ha1, ha2⟩ := hap hn200
      have HUN := Lib.hid (fun W => refUnb_any B W (by omega))
      unfold decR at HUN
      have HFB := Lib.hid (from_bs s (Z : Int) Z rfl hz1)
      have HDL : Hid ((s.drop Z).length = s.length - Z) := List.length_drop
      have HZ12 : Hid (Z ≤ s.length ∧ 0 < Z) := ⟨hz1, hz2⟩
      clear HS0 HS1 HS2 HS3 hap hn2 hz1 hz2 hb7
      cases hd : decO B with
      | none =>
        have HQ := Lib.hid (ha1 hd)
        rw [hd] at HUN
        have HUN2 : Hid (∀ W, Calls Tryz.prog 22 #[.string (bs B)] W fun e w' => e = .returned (.tuple #[.agg #[.int .i64 0, .string ⟨#[]⟩, .string ⟨#[]⟩, .int .i64 0, .string ⟨#[]⟩], .int .i64 3]) ∧ Up W w') := HUN.out
        clear ha1 ha2 hd HIH HUN
        have f0 := HF.out.cell (j := 0) rfl
        have f1 := HF.out.cell (j := 1) rfl
        go_wp2_with fail
        refine (HUN2.out _).mono ?_
        rintro e w5 ⟨rfl, u5⟩
        have hv := u5.trans (Up.alloc w5 (.cells #[.int .i64 0, .string ⟨#[]⟩, .string ⟨#[]⟩, .int .i64 0, .string ⟨#[]⟩] 27))
        replace HX := Lib.hid (HX.out.up hv)
        replace HR := Lib.hid (HR.out.up hv)
        replace HU := Lib.hid (HU.out.trans hv)
        clear u5 hv f0 f1
        go_upto_region 9 with (fail)
        generalize w5.alloc (.cells #[.int .i64 0, .string ⟨#[]⟩, .string ⟨#[]⟩, .int .i64 0, .string ⟨#[]⟩] 27) = W6 at HX HR HU ⊢
        have r0 := HR.out.frozen 0
        have r1 := HR.out.frozen 1
        have r2 := HR.out.cell (j := 0) rfl
        have r3 := HR.out.cell (j := 1) rfl
        go_wp2_with fail
        have hz := (HR.out.set 0 (.slice none 0 0)).set 1 (.slice none 0 0)
        have z0 := hz.cell (j := 0) rfl
        have z1 := hz.cell (j := 1) rfl
        have HUZ := Lib.hid (up2 (x := .slice none 0 0) (y := .slice none 0 0) HU.out HRG.out)
        generalize (W6.setCell ⟨R, 0, none⟩ (.slice none 0 0)).setCell ⟨R, 1, none⟩ (.slice none 0 0) = WZ at z0 z1 HUZ ⊢
        exact bodyPost_ret (v := .tuple #[.agg #[.slice none 0 0, .slice none 0 0], .int .i64 0, .int .i64 3]) (by simp [results, Tryz.results9, go_sem, z0, z1]) rfl ⟨none, 0, none, 0, by rw [HQ.out]; rfl, by rw [HQ.out]; exact Stat.zero _, HUZ.out⟩
      | some op =>
        obtain ⟨hc, hwf, hk1, hk2⟩ := ha2 op hd
        rw [hd] at HUN
        clear ha1 ha2 hd
        have HDO := Lib.hid (fun W v h => refDo_any v cur op W h (good_wf HGD.out) hwf hc)
        unfold ShpPost at HDO
        obtain ⟨⟨TS, TE⟩, hT⟩ : ∃ T, doO FP cur op = T := ⟨_, rfl⟩
        rw [hT] at HDO hk2
        simp only [Option.getD_some, Option.isSome_some, if_true] at HUN
        simp only at HDO hk2
        have HK1 := Lib.hid hk1
        have HK2 := Lib.hid hk2
        clear hT hc hwf hk1 hk2
        obtain ⟨kd, nm, ot, pl, tx⟩ := op
        unfold opA at *
        simp only at *
        generalize bs nm = NM at *
        generalize bs ot = OT at *
        generalize bs tx = TX at *
        have f0 := HF.out.cell (j := 0) rfl
        have f1 := HF.out.cell (j := 1) rfl
        go_wp2_with fail
        refine (HUN.out _).mono ?_
        rintro e w5 ⟨rfl, u5⟩
        have hv := u5.trans (Up.alloc w5 (.cells #[.int .i64 kd, .string NM, .string OT, .int .i64 pl, .string TX] 27))
        have HO : Hid (RowC (w5.alloc (.cells #[.int .i64 kd, .string NM, .string OT, .int .i64 pl, .string TX] 27)) w5.heap.size 27 [.int .i64 kd, .string NM, .string OT, .int .i64 pl, .string TX]) := heap_alloc_new w5 _
        replace HX := Lib.hid (HX.out.up hv)
        replace HR := Lib.hid (HR.out.up hv)
        replace HU := Lib.hid (HU.out.trans hv)
        replace HF := Lib.hid (HF.out.up hv)
        clear u5 hv f0 f1
        go_upto_region 9 with (fail)
        generalize w5.alloc (.cells #[.int .i64 kd, .string NM, .string OT, .int .i64 pl, .string TX] 27) = W6 at HX HR HU HO HF ⊢
        generalize w5.heap.size = P at HO ⊢
        have f0 := HF.out.cell (j := 0) rfl
        by_cases hK : K = 1
        · subst hK
          obtain ⟨hk3, hk4⟩ := HK2.out rfl
          have HK3 := Lib.hid hk3
          have HK4 := Lib.hid hk4
          have HST6 := Lib.hid (HST.out.up HU.out)
          clear HK1 HK2 hk3 hk4
          have x0 := HX.out.cell (j := 0) rfl
          have x1 := HX.out.cell (j := 1) rfl
          have p0 := HO.out.cell (j := 0) rfl
          have p1 := HO.out.cell (j := 1) rfl
          have p2 := HO.out.cell (j := 2) rfl
          have p3 := HO.out.cell (j := 3) rfl
          have p4 := HO.out.cell (j := 4) rfl
          go_wp2_with fail
          refine (HDO.out _ _ HST6.out).mono ?_
          rintro e w7 ⟨o7, c7, o8, c8, rfl, hs7, u7⟩
          obtain ⟨n7, hn7⟩ : ∃ n7, TS.b.length = n7 := ⟨_, rfl⟩
          obtain ⟨n8, hn8⟩ : ∃ n8, TS.v.length = n8 := ⟨_, rfl⟩
          rw [hn7, hn8] at hs7 ⊢
          replace HX := Lib.hid (HX.out.up u7)
          replace HR := Lib.hid (HR.out.up u7)
          replace HU := Lib.hid (HU.out.trans u7)
          have HS7 := Lib.hid hs7
          clear u7 hs7 x0 x1 p0 p1 p2 p3 p4 f0 hn7 hn8
          have x0 := HX.out.frozen 0
          have x1 := HX.out.frozen 1
          have x2 := HX.out.cell (j := 0) rfl
          have x3 := HX.out.cell (j := 1) rfl
          go_upto_region 12 with (fail)
          clear x0 x1 x2 x3
          have HS8 := Lib.hid (Stat.boxed (x := .slice o7 n7 c7) (y := .slice o8 n8 c8) HS7.out HX.out rfl rfl rfl)
          have HU8 := Lib.hid (up2 (x := .slice o7 n7 c7) (y := .slice o8 n8 c8) HU.out HXG.out)
          replace HR := Lib.hid ((HR.out.other HRX.out 0 (.slice o7 n7 c7)).other HRX.out 1 (.slice o8 n8 c8))
          replace HX := Lib.hid ((HX.out.set 0 (.slice o7 n7 c7)).set 1 (.slice o8 n8 c8))
          replace HU := HU8
          clear HU8 HS7
          generalize (w7.setCell ⟨X, 0, none⟩ (.slice o7 n7 c7)).setCell ⟨X, 1, none⟩ (.slice o8 n8 c8) = W8 at HX HR HU HS8 ⊢
          by_cases hT : TE = 0
          · subst hT
            obtain ⟨hg2, hp2⟩ := HK4.out (by first | rfl | trivial)
            have hw1 : IntKind.i64.wrap ((n : Int) + 1) = (n : Int) + 1 := IntWalk.i64_in _ (by omega)
            have HIR := Lib.hid (HIH.out (s.drop Z) (n + 1) TS _ (W8.drew) (by have h1 := HDL.out; have h2 := HZ12.out; omega) (by have h1 := HDL.out; have h2 := HLN.out; omega) (by omega) (HS8.out.up (Up.drew _)) hg2)
            rw [hp2, show ((n + 1 : Nat) : Int) = (n : Int) + 1 by omega] at HIR
            have HW1 := Lib.hid hw1
            unfold RepPost at HIR
            clear HK3 HK4 hg2 hp2 hw1
            go_upto_region 14 with (fail)
            have hfb := HFB.out
            have hw1 := HW1.out
            have x2 := HX.out.cell (j := 0) rfl
            have x3 := HX.out.cell (j := 1) rfl
            have rr := HR.out
            go_region_with ((go_at_call 9; ((with_reducible refine HIR.out.mono ?_); rintro e w9 ⟨o9, c9, oA, cA, rfl, hs9, u9⟩; have h9 : Up W8 w9 := (Up.drew _).trans u9; have hR9 := HR.out.up h9; have y0 := hR9.cell (j := 0) rfl; have y1 := hR9.cell (j := 1) rfl; have y2 := hR9.frozen 0; have y3 := hR9.frozen 1)))
            all_goals
              have hz := (hR9.set 0 (.slice o9 RS.1.b.length c9)).set 1 (.slice oA RS.1.v.length cA)
              have z0 := hz.cell (j := 0) rfl
              have z1 := hz.cell (j := 1) rfl
              have HSZ := Lib.hid (Stat.boxed (x := .slice o9 RS.1.b.length c9) (y := .slice oA RS.1.v.length cA) hs9 hR9 rfl rfl rfl)
              have HUZ := Lib.hid (up2 (x := .slice o9 RS.1.b.length c9) (y := .slice oA RS.1.v.length cA) (HU.out.trans h9) HRG.out)
              clear y0 y1 y2 y3 hR9 h9 u9 hs9 hz rr x2 x3 hw1 hfb
              generalize (w9.setCell ⟨R, 0, none⟩ (.slice o9 RS.1.b.length c9)).setCell ⟨R, 1, none⟩ (.slice oA RS.1.v.length cA) = WZ at z0 z1 HSZ HUZ ⊢
              go_wp2_with fail
              exact bodyPost_ret (v := .tuple #[.agg #[.slice o9 RS.1.b.length c9, .slice oA RS.1.v.length cA], .int .i64 ((RS.2.1 : Nat) : Int), .int .i64 RS.2.2]) (by simp [results, Tryz.results9, go_sem, z0, z1]) rfl ⟨o9, c9, oA, cA, rfl, HSZ.out, HUZ.out⟩
          · have hTn : (TE == 0) = false := by rw [beq_eq_false_iff_ne]; exact hT
            have HQ := Lib.hid (HK3.out hT)
            clear HK3 HK4 HIH
            have r0 := HR.out.frozen 0
            have r1 := HR.out.frozen 1
            have r2 := HR.out.cell (j := 0) rfl
            have r3 := HR.out.cell (j := 1) rfl
            go_wp2_with fail
            have hz := (HR.out.set 0 (.slice none 0 0)).set 1 (.slice none 0 0)
            have z0 := hz.cell (j := 0) rfl
            have z1 := hz.cell (j := 1) rfl
            have HUZ := Lib.hid (up2 (x := .slice none 0 0) (y := .slice none 0 0) HU.out HRG.out)
            generalize (W8.setCell ⟨R, 0, none⟩ (.slice none 0 0)).setCell ⟨R, 1, none⟩ (.slice none 0 0) = WZ at z0 z1 HUZ ⊢
            exact bodyPost_ret (v := .tuple #[.agg #[.slice none 0 0, .slice none 0 0], .int .i64 0, .int .i64 3]) (by simp [results, Tryz.results9, go_sem, z0, z1]) rfl ⟨none, 0, none, 0, by rw [HQ.out]; rfl, by rw [HQ.out]; exact Stat.zero _, HUZ.out⟩
        · have hKn : ((K : Int) == 1) = false := by rw [beq_eq_false_iff_ne]; omega
          have HQ := Lib.hid (HK1.out hK)
          clear HK1 HK2 HIH HDO
          have r0 := HR.out.frozen 0
          have r1 := HR.out.frozen 1
          have r2 := HR.out.cell (j := 0) rfl
          have r3 := HR.out.cell (j := 1) rfl
          go_wp2_with fail
          have hz := (HR.out.set 0 (.slice none 0 0)).set 1 (.slice none 0 0)
          have z0 := hz.cell (j := 0) rfl
          have z1 := hz.cell (j := 1) rfl
          have HUZ := Lib.hid (up2 (x := .slice none 0 0) (y := .slice none 0 0) HU.out HRG.out)
          generalize (W6.setCell ⟨R, 0, none⟩ (.slice none 0 0)).setCell ⟨R, 1, none⟩ (.slice none 0 0) = WZ at z0 z1 HUZ ⊢
          exact bodyPost_ret (v := .tuple #[.agg #[.slice none 0 0, .slice none 0 0], .int .i64 0, .int .i64 3]) (by simp [results, Tryz.results9, go_sem, z0, z1]) rfl ⟨none, 0, none, 0, by rw [HQ.out]; rfl, by rw [HQ.out]; exact Stat.zero _, HUZ.out⟩
  · have he0 : ((E : Int) == 0) = false := by rw [beq_eq_false_iff_ne]; omega
    have HQ := Lib.hid (HS2.out h7 h0)
    generalize bs s = S at *
    clear HS0 HS1 HS2 HS3 HIH
    have r0 := HR.out.frozen 0
    have r1 := HR.out.frozen 1
    have r2 := HR.out.cell (j := 0) rfl
    have r3 := HR.out.cell (j := 1) rfl
    go_wp2_with fail
    have hz := (HR.out.set 0 (.slice none 0 0)).set 1 (.slice none 0 0)
    have z0 := hz.cell (j := 0) rfl
    have z1 := hz.cell (j := 1) rfl
    have HUZ := Lib.hid (up2 (x := .slice none 0 0) (y := .slice none 0 0) HU.out HRG.out)
    generalize (W4.setCell ⟨R, 0, none⟩ (.slice none 0 0)).setCell ⟨R, 1, none⟩ (.slice none 0 0) = WZ at z0 z1 HUZ ⊢
    exact bodyPost_ret (v := .tuple #[.agg #[.slice none 0 0, .slice none 0 0], .int .i64 0, .int .i64 (E : Int)]) (by simp [results, Tryz.results9, go_sem, z0, z1]) rfl ⟨none, 0, none, 0, by rw [HQ.out]; rfl, by rw [HQ.out]; exact Stat.zero _, HUZ.out⟩

theorem refReplay_all : ∀ (L : Nat) (s : List UInt8) (n : Nat) (cur : Sta) (v : Value) (w : World), s.length < L → s.length ≤ 140737488351232 → n ≤ 200 → Stat w v cur → WoolVol.Good FP cur → Calls Tryz.prog 9 #[v, .string (bs s), .int .i64 (n : Int)] w (RepPost w (playG FP getV (s.length + 1) cur s n))
  | 0, _, _, _, _, _, h, _, _, _, _ => absurd h (Nat.not_lt_zero _)
  | L + 1, s, n, cur, v, w, h, h1, h2, h3, h4 => refReplay_step s n cur v w h1 h2 h3 h4 (fun s' n' cur' v' w' g g1 g2 g3 g4 => refReplay_all L s' n' cur' v' w' (by omega) g1 g2 g3 g4)

theorem refReplay_any (s : List UInt8) (w : World) (hl : s.length ≤ 140737488351232) : Calls Tryz.prog 9 #[.agg #[.slice none 0 0, .slice none 0 0], .string (bs s), .int .i64 0] w (RepPost w (replayG FP getV s)) :=
  refReplay_all (s.length + 1) s 0 zeroS zeroV w (by omega) hl (by omega) (Stat.zero w) zero_good

end Go.Proofs.YtbeigaanlhaolaaGreatDoor

/-
  What package log's Replay returns, walked. Conditions: a log of at most 2^48 bytes.
-/
namespace Go.Proofs.YtbeigaanlhaolaaGreatDoor
open Go.RowKit
open Go.Proofs
open WoolBag
open WoolVol

set_option maxRecDepth 100000 in
set_option maxHeartbeats 4000000 in
theorem replay_any (s : List UInt8) (w : World) (hl : s.length ≤ 281474976710656) : Calls Tryz.prog 8 #[.string (bs s)] w (RepPost w (replayG FP getV s)) := by
  obtain ⟨RS, hRS⟩ : ∃ RS, replayG FP getV s = RS := ⟨_, rfl⟩
  rw [hRS]
  have HX : Hid (RowC ((w.alloc (.cells #[.slice none 0 0, .slice none 0 0] 36)).alloc (.cells #[.slice none 0 0, .slice none 0 0] 36)) (w.heap.size + 1) 36 [.slice none 0 0, .slice none 0 0]) := box_new w _ _ _ _
  have HR : Hid (RowC ((w.alloc (.cells #[.slice none 0 0, .slice none 0 0] 36)).alloc (.cells #[.slice none 0 0, .slice none 0 0] 36)) w.heap.size 36 [.slice none 0 0, .slice none 0 0]) := RowC.up (rowN_at [.slice none 0 0, .slice none 0 0] _ rfl) (Up.alloc _ _)
  have HW0 : Hid (Up w ((w.alloc (.cells #[.slice none 0 0, .slice none 0 0] 36)).alloc (.cells #[.slice none 0 0, .slice none 0 0] 36))) := (Up.alloc _ _).trans (Up.alloc _ _)
  go_enter Tryz.func8, Tryz.ntmps8
  go_upto_region 2 with (fail)
  generalize (w.alloc (.cells #[.slice none 0 0, .slice none 0 0] 36)).alloc (.cells #[.slice none 0 0, .slice none 0 0] 36) = W0 at HX HR HW0 ⊢
  obtain ⟨X, hX⟩ : ∃ X, w.heap.size + 1 = X := ⟨_, rfl⟩
  have HXW : Hid (X = w.heap.size + 1) := hX.symm
  rw [hX] at HX ⊢
  obtain ⟨R, hR⟩ : ∃ R, w.heap.size = R := ⟨_, rfl⟩
  have HRW : Hid (R = w.heap.size) := hR.symm
  rw [hR] at HR ⊢
  clear hX hR
  have HRX : Hid (R ≠ X) := by have h1 := HXW.out; have h2 := HRW.out; show R ≠ X; omega
  have HXG : Hid (w.heap.size ≤ X) := by have h1 := HXW.out; show w.heap.size ≤ X; omega
  have HRG : Hid (w.heap.size ≤ R) := by have h1 := HRW.out; show w.heap.size ≤ R; omega
  have HST5 : Hid (ReLoop R X w RS (.string (bs s)) (.int .i64 0) W0) := ⟨s, 0, zeroS, _, _, rfl, rfl, ⟨HX.out, HR.out, Stat.zero _, zero_good, hRS, by omega, hl, HW0.out⟩⟩
  clear HX HR HW0 hRS hl
  go_wp2_with fail
  go_loopw [0, 6] (fun vs vn wr => ReLoop R X w RS vs vn wr) (fun vs _ _ => strSz vs)
  case atStart => exact HST5.out
  case round =>
    obtain ⟨s, n, cur, x, y, rfl, rfl, hI⟩ := hrel
    have HI := Lib.hid hI
    obtain ⟨vbx, vvx, hag, hbx, hvx⟩ := hI.st
    simp at hag
    obtain ⟨rfl, rfl⟩ := hag
    obtain ⟨p5, d5, rfl, _⟩ := hbx.slice
    obtain ⟨p6, d6, rfl, _, _⟩ := hvx.slice
    obtain ⟨L5, hL5⟩ : ∃ L5, cur.b.length = L5 := ⟨_, rfl⟩
    obtain ⟨L6, hL6⟩ : ∃ L6, cur.v.length = L6 := ⟨_, rfl⟩
    rw [hL5, hL6] at HI
    have HL5 := Lib.hid hL5
    have HL6 := Lib.hid hL6
    have hsz := bs_size s
    have HG := Lib.hid (fun W => frmGet_any s W hI.len)
    have hn200 := hI.le
    obtain ⟨⟨⟨K, B⟩, Z, E⟩, hGV⟩ : ∃ r, getV s = r := ⟨_, rfl⟩
    obtain ⟨hs1, hs2, hs3⟩ := play_step hGV hI.eq
    have HS1 := Lib.hid hs1
    have HS2 := Lib.hid hs2
    have HS3 := Lib.hid hs3
    unfold getR at HG
    rw [hGV] at HG
    unfold frmR at HG
    simp only at HG
    clear hs1 hs2 hs3 hGV hbx hvx hI hL5 hL6
    go_wp2_with fail
    refine (HG.out _).mono ?_
    rintro e w3 ⟨rfl, u3⟩
    have hv := u3.trans (Up.alloc w3 (.cells #[.int .i64 (K : Int), .string (bs B)] 32))
    have HF : Hid (RowC (w3.alloc (.cells #[.int .i64 (K : Int), .string (bs B)] 32)) w3.heap.size 32 [.int .i64 (K : Int), .string (bs B)]) := heap_alloc_new w3 _
    have HXA := Lib.hid (HI.out.row.up hv)
    have HRA := Lib.hid (HI.out.box.up hv)
    have HSA := Lib.hid (HI.out.st.up hv)
    have HUA := Lib.hid (HI.out.up.trans hv)
    clear u3 hv
    go_upto_region 5 with (fail)
    generalize w3.alloc (.cells #[.int .i64 (K : Int), .string (bs B)] 32) = W4 at HF HXA HRA HSA HUA ⊢
    generalize w3.heap.size = Q at HF ⊢
    have r0 := HRA.out.frozen 0
    have r1 := HRA.out.frozen 1
    have r2 := HRA.out.cell (j := 0) rfl
    have r3 := HRA.out.cell (j := 1) rfl
    by_cases h7 : E = 7
    · subst h7
      have HZ := Lib.hid (HS1.out rfl)
      have x0 := HXA.out.cell (j := 0) rfl
      have x1 := HXA.out.cell (j := 1) rfl
      clear HS1 HS2 HS3
      go_wp2_with fail
      have hz := (HRA.out.set 0 (.slice p5 L5 d5)).set 1 (.slice p6 L6 d6)
      have z0 := hz.cell (j := 0) rfl
      have z1 := hz.cell (j := 1) rfl
      have HSZ := Lib.hid (Stat.boxed (x := .slice p5 L5 d5) (y := .slice p6 L6 d6) HSA.out HRA.out rfl rfl rfl)
      have HUZ := Lib.hid (up2 (x := .slice p5 L5 d5) (y := .slice p6 L6 d6) HUA.out HRG.out)
      generalize (W4.setCell ⟨R, 0, none⟩ (.slice p5 L5 d5)).setCell ⟨R, 1, none⟩ (.slice p6 L6 d6) = WZ at z0 z1 HSZ HUZ ⊢
      exact bodyPost_ret (v := .tuple #[.agg #[.slice p5 L5 d5, .slice p6 L6 d6], .int .i64 (n : Int), .int .i64 0]) (by simp [results, Tryz.results8, go_sem, z0, z1]) rfl ⟨p5, d5, p6, d6, by rw [HZ.out]; simp only; rw [HL5.out, HL6.out], by rw [HZ.out]; simp only; rw [HL5.out, HL6.out]; exact HSZ.out, HUZ.out⟩
    have he7 : ((E : Int) == 7) = false := by rw [beq_eq_false_iff_ne]; omega
    by_cases h0 : E = 0
    · subst h0
      obtain ⟨hz1, hz2, hb7, hn2, hap⟩ := HS3.out rfl
      by_cases hn : n = 200
      · have HZ := Lib.hid (hn2 hn)
        subst hn
        clear HS1 HS2 HS3 hap hn2
        go_wp2_with fail
        have hz := (HRA.out.set 0 (.slice none 0 0)).set 1 (.slice none 0 0)
        have z0 := hz.cell (j := 0) rfl
        have z1 := hz.cell (j := 1) rfl
        have HUZ := Lib.hid (up2 (x := .slice none 0 0) (y := .slice none 0 0) HUA.out HRG.out)
        generalize (W4.setCell ⟨R, 0, none⟩ (.slice none 0 0)).setCell ⟨R, 1, none⟩ (.slice none 0 0) = WZ at z0 z1 HUZ ⊢
        exact bodyPost_ret (v := .tuple #[.agg #[.slice none 0 0, .slice none 0 0], .int .i64 0, .int .i64 2]) (by simp [results, Tryz.results8, go_sem, z0, z1]) rfl ⟨none, 0, none, 0, by rw [HZ.out]; rfl, by rw [HZ.out]; exact Stat.zero _, HUZ.out⟩
      · have hnz : ((n : Int) == 200) = false := by rw [beq_eq_false_iff_ne]; omega
        obtain ⟨ha1, ha2⟩ := hap hn
        have HAP := Lib.hid (apply_any _ cur (K : Int) B W4 HSA.out HI.out.good (by omega))
        obtain ⟨⟨TS, ok⟩, hA⟩ : ∃ r, appR cur (K : Int) B = r := ⟨_, rfl⟩
        rw [hA] at HAP ha1 ha2
        unfold AppPost at HAP
        simp only at HAP ha1 ha2
        have HA1 := Lib.hid ha1
        have HA2 := Lib.hid ha2
        have HXL := Lib.hid HXA.out.lt
        have x0 := HXA.out.cell (j := 0) rfl
        have x1 := HXA.out.cell (j := 1) rfl
        have y0 := HF.out.cell (j := 0) rfl
        have y1 := HF.out.cell (j := 1) rfl
        have HFB := Lib.hid (from_bs s (Z : Int) Z rfl hz1)
        have HDL : Hid ((s.drop Z).length = s.length - Z) := List.length_drop
        have HZ12 : Hid (Z ≤ s.length ∧ 0 < Z) := ⟨hz1, hz2⟩
        clear ha1 ha2 hA hap hn2 HS1 HS2 HS3 hz1 hz2 hb7
        go_wp2_with fail
        refine HAP.out.mono ?_
        rintro e w5 ⟨o7, c7, o8, c8, rfl, hs5, u5⟩
        obtain ⟨n7, hn7⟩ : ∃ n7, TS.b.length = n7 := ⟨_, rfl⟩
        obtain ⟨n8, hn8⟩ : ∃ n8, TS.v.length = n8 := ⟨_, rfl⟩
        rw [hn7, hn8] at hs5 ⊢
        have hv := u5.trans (Up.alloc w5 (.cells #[.slice o7 n7 c7, .slice o8 n8 c8] 36))
        have HY : Hid (RowC (w5.alloc (.cells #[.slice o7 n7 c7, .slice o8 n8 c8] 36)) w5.heap.size 36 [.slice o7 n7 c7, .slice o8 n8 c8]) := heap_alloc_new w5 _
        have HS6 := Lib.hid (hs5.up (Up.alloc w5 (.cells #[.slice o7 n7 c7, .slice o8 n8 c8] 36)))
        replace HXA := Lib.hid (HXA.out.up hv)
        replace HRA := Lib.hid (HRA.out.up hv)
        replace HUA := Lib.hid (HUA.out.trans hv)
        have HYX : Hid (X ≠ w5.heap.size) := Nat.ne_of_lt (Nat.lt_of_lt_of_le HXL.out u5.size)
        clear u5 hv hs5 x0 x1 y0 y1 r0 r1 r2 r3 hn7 hn8
        go_upto_region 12 with (fail)
        generalize w5.alloc (.cells #[.slice o7 n7 c7, .slice o8 n8 c8] 36) = W6 at HY HS6 HXA HRA HUA ⊢
        generalize w5.heap.size = Y at HY HYX ⊢
        cases ok with
        | false =>
          have HZ := Lib.hid (HA1.out rfl)
          have r0 := HRA.out.frozen 0
          have r1 := HRA.out.frozen 1
          have r2 := HRA.out.cell (j := 0) rfl
          have r3 := HRA.out.cell (j := 1) rfl
          go_wp2_with fail
          have hz := (HRA.out.set 0 (.slice none 0 0)).set 1 (.slice none 0 0)
          have z0 := hz.cell (j := 0) rfl
          have z1 := hz.cell (j := 1) rfl
          have HUZ := Lib.hid (up2 (x := .slice none 0 0) (y := .slice none 0 0) HUA.out HRG.out)
          generalize (W6.setCell ⟨R, 0, none⟩ (.slice none 0 0)).setCell ⟨R, 1, none⟩ (.slice none 0 0) = WZ at z0 z1 HUZ ⊢
          exact bodyPost_ret (v := .tuple #[.agg #[.slice none 0 0, .slice none 0 0], .int .i64 0, .int .i64 3]) (by simp [results, Tryz.results8, go_sem, z0, z1]) rfl ⟨none, 0, none, 0, by rw [HZ.out]; rfl, by rw [HZ.out]; exact Stat.zero _, HUZ.out⟩
        | true =>
          obtain ⟨hg2, hp2⟩ := HA2.out rfl
          have HG2 := Lib.hid hg2
          have HP2 := Lib.hid hp2
          have hfb := HFB.out
          have x0 := HXA.out.frozen 0
          have x1 := HXA.out.frozen 1
          have x2 := HXA.out.cell (j := 0) rfl
          have x3 := HXA.out.cell (j := 1) rfl
          have y0 := HY.out.cell (j := 0) rfl
          have y1 := HY.out.cell (j := 1) rfl
          clear hg2 hp2
          go_upto_region 14 with (fail)
          go_region
          have HX7 := Lib.hid (((HXA.out.set 0 (.slice o7 n7 c7)).set 1 (.slice o8 n8 c8)).up (Up.drew _))
          have HR7 := Lib.hid (((HRA.out.other HRX.out 0 (.slice o7 n7 c7)).other HRX.out 1 (.slice o8 n8 c8)).up (Up.drew _))
          have HS7 := Lib.hid ((Stat.boxed (x := .slice o7 n7 c7) (y := .slice o8 n8 c8) HS6.out HXA.out rfl rfl rfl).up (Up.drew _))
          have HU7 := Lib.hid ((up2 (x := .slice o7 n7 c7) (y := .slice o8 n8 c8) HUA.out HXG.out).trans (Up.drew _))
          generalize ((W6.setCell ⟨X, 0, none⟩ (.slice o7 n7 c7)).setCell ⟨X, 1, none⟩ (.slice o8 n8 c8)).drew = W7 at HX7 HR7 HS7 HU7 ⊢
          have hw9 : wrap64 ((n : Int) + 1) = (n : Int) + 1 := by unfold wrap64; omega
          clear x0 x1 x2 x3 y0 y1 hfb HAP HA1 HA2
          go_wp2_with fail
          go_roundw
          case rel => exact ⟨s.drop Z, n + 1, TS, _, _, rfl, by go_num, ⟨HX7.out, HR7.out, HS7.out, HG2.out, HP2.out, by omega, by have h9 := HDL.out; have h8 := HI.out.len; omega, HU7.out⟩⟩
          case measure =>
            have h9 := HDL.out
            have h8 := HZ12.out
            simp only [strSz, bs_size]
            omega
    · have HZ := Lib.hid (HS2.out h7 h0)
      have he0 : ((E : Int) == 0) = false := by rw [beq_eq_false_iff_ne]; omega
      clear HS1 HS2 HS3
      go_wp2_with fail
      have hz := (HRA.out.set 0 (.slice none 0 0)).set 1 (.slice none 0 0)
      have z0 := hz.cell (j := 0) rfl
      have z1 := hz.cell (j := 1) rfl
      have HUZ := Lib.hid (up2 (x := .slice none 0 0) (y := .slice none 0 0) HUA.out HRG.out)
      generalize (W4.setCell ⟨R, 0, none⟩ (.slice none 0 0)).setCell ⟨R, 1, none⟩ (.slice none 0 0) = WZ at z0 z1 HUZ ⊢
      exact bodyPost_ret (v := .tuple #[.agg #[.slice none 0 0, .slice none 0 0], .int .i64 0, .int .i64 (E : Int)]) (by simp [results, Tryz.results8, go_sem, z0, z1]) rfl ⟨none, 0, none, 0, by rw [HZ.out]; rfl, by rw [HZ.out]; exact Stat.zero _, HUZ.out⟩

end Go.Proofs.YtbeigaanlhaolaaGreatDoor

/-
  Contracts of library functions at this program, each one application of a theorem of the library: what is proved is what each says. Conditions: as each says.
-/
namespace Go.Proofs
open Go.Shelf
def Tryz.lays169_ren : Go.Shelf.Ren := ⟨fun | 169 => 14 | n => n, fun | 70 => 42 | 9 => 9 | 0 => 0 | 72 => 45 | 37 => 43 | 127 => 69 | 3 => 3 | 5 => 5 | n => n, fun | n => n⟩
theorem Tryz.lays169 : Go.Proofs.Lays.n169 Tryz.prog Tryz.lays169_ren := {
  mixed := by kernel_rfl
  f169 := Tryz.func14.trans (congrArg some (by kernel_rfl))
  t0 := Tryz.underlying0
  a0 := Tryz.isAgg0
  z0 := Tryz.sizeOf0
  v0 := Tryz.zeroValue0
  t3 := Tryz.underlying3
  a3 := Tryz.isAgg3
  z3 := Tryz.sizeOf3
  v3 := Tryz.zeroValue3
  t9 := Tryz.underlying9
  a9 := Tryz.isAgg9
  z9 := Tryz.sizeOf9
  v9 := Tryz.zeroValue9
  t37 := Tryz.underlying43
  a37 := Tryz.isAgg43
  z37 := Tryz.sizeOf43
  v37 := Tryz.zeroValue43
  t70 := Tryz.underlying42
  a70 := Tryz.isAgg42
  z70 := Tryz.sizeOf42
  v70 := Tryz.zeroValue42
  t72 := Tryz.underlying45
  a72 := Tryz.isAgg45
  z72 := Tryz.sizeOf45
  v72 := Tryz.zeroValue45
  t127 := Tryz.underlying69
  a127 := Tryz.isAgg69
  z127 := Tryz.sizeOf69
  v127 := Tryz.zeroValue69 }
theorem Tryz.Builder_Extra_169 : Builder.Extra Tryz.prog Tryz.lays169_ren := {
  sizeBuilder := by kernel_rfl
  liesBuilder := by kernel_rfl
  t5 := Tryz.underlying5
  a5 := Tryz.isAgg5
  z5 := Tryz.sizeOf5
  v5 := Tryz.zeroValue5
  infoByte := by kernel_rfl
  cellsByte := by kernel_rfl
  sizeByte := by kernel_rfl
  neB5 := by decide }
open Go.RowKit in
theorem Tryz.Builder_String_any (B b : Nat) (l : List UInt8) (w : World) (h : Lib.IsBuilder 45 5 B b (Lib.byteCells l) w) (hBw : B ≤ w.heap.size) :
    Calls Tryz.prog 14 #[.pointer (some ⟨b, 0, none⟩)] w fun e w' => e = .returned (.string ⟨l.toArray⟩) ∧ Below B w w' := Any.Builder_String_any Tryz.lays169 Tryz.Builder_Extra_169 B b l w h hBw
end Go.Proofs

/-
  A Builder that holds a list of bytes. Conditions: as each says.
-/
namespace Go.Proofs.YtbeigaanlhaolaaGreatDoor
open Go.RowKit
open Go.Proofs

/-- a Builder that holds a list of bytes -/
def Bld (w : World) (B b : Nat) (l : List UInt8) : Prop := Lib.IsBuilder 45 5 B b (Lib.byteCells l) w

theorem BuilderAt.up {T e : TypeId} {B b : Nat} {p : Value} {bs : List Value} {w w' : World} (h : Lib.BuilderAt T e B b p bs w) (hu : Up w w') : Lib.BuilderAt T e B b p bs w' := by
  have hlt := h.lt
  obtain ⟨h1, v, h2, h3, h4⟩ := h
  refine ⟨h1, v, (hu.block b hlt).trans h2, ⟨h3.1, ?_⟩, h4⟩
  rcases h3.2 with h | ⟨g, cap, cur, k1, k2, k3, k4⟩
  · exact .inl h
  · refine .inr ⟨g, cap, cur, k1, k2, ?_, k4⟩
    have hg : g < w.heap.size := by
      rcases Nat.lt_or_ge g w.heap.size with hlt | hge
      · exact hlt
      · rw [Array.getElem?_eq_none hge] at k3; cases k3
    rw [← k3]; exact hu.block g hg

theorem Bld.up {w w' : World} {B b : Nat} {l : List UInt8} (h : Bld w B b l) (hu : Up w w') : Bld w' B b l := by
  rcases h with h | h
  · exact .inl (BuilderAt.up h hu)
  · exact .inr (BuilderAt.up h hu)

theorem Bld.start (w : World) : Bld (w.alloc (.cells #[.pointer none, .slice none 0 0] 45)) w.heap.size w.heap.size [] := Lib.fresh_isBuilder _ _ w

theorem bstring (l : List UInt8) (B b : Nat) (w : World) (h : Bld w B b l) (hBw : B ≤ w.heap.size) :
    Calls Tryz.prog 14 #[.pointer (some ⟨b, 0, none⟩)] w fun e w' => e = .returned (.string (bs l)) ∧ Below B w w' :=
  Tryz.Builder_String_any B b l w h hBw

end Go.Proofs.YtbeigaanlhaolaaGreatDoor
