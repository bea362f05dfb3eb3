/-
  What wooltop's begun, stored and loaded return. Conditions: a valid state.
-/
import Derived.Test.YtcbppfndlagodaaGreatJTopBackup31
import Derived.Test.YtcbppfndlagodaaGreatJTopBackup34
import Derived.Test.YtcbppfndlagodaaGreatJTopBackup37
namespace Go.Proofs.YtcbppfndlagodaaGreat
open Go.RowKit
open Go.Proofs
open WoolBag
open WoolVol

theorem lp_pieces (S : List UInt8) : ∀ (es : List Nat) (b : Nat), pieces (bs S) b (es.map fun x : Nat => (x : Int)) = (lp S b es).map bs
  | [], _ => rfl
  | e :: r, b => by
    rw [List.map_cons, pieces_cons, Int.toNat_natCast, lp_pieces S r e]
    show _ = bs ((S.drop b).take (e - b)) :: _
    congr 1
    rw [← bs_of ((bs S).extract b e), ext_wnd, bs_list]
    rfl

theorem good_zero : WoolVol.Good FP zeroS :=
  ⟨(chk_zero FP).1 (by rfl), by simp [zeroS], fun v hv => by simp [zeroS] at hv, by simp [zeroS], fun x hx => by simp [zeroS] at hx⟩

def StoPost (st : Sta) (nm S : List UInt8) (m : Nat) (w : World) (e : Ending) (w' : World) : Prop :=
  ∃ (o1 : Option Addr) (n1 c1 : Nat) (o2 : Option Addr) (n2 c2 : Nat) (q : Nat) (ok : Bool), e = .returned (.tuple #[.agg #[.slice o1 n1 c1, .slice o2 n2 c2], .int .i64 (q : Int), .bool ok]) ∧ Up w w' ∧
    (ok = true → ∃ st', Stat w' (.agg #[.slice o1 n1 c1, .slice o2 n2 c2]) st' ∧ q = (pcs S).length ∧ q ≠ 0 ∧ q ≤ 32 ∧ newE st nm = 0 ∧ SI ⟨st.b, vins ⟨nm, List.replicate q noId⟩ st.v⟩ (vplace nm st.v) (pcs S) m q st')

structure StI (st1 : Sta) (k : Nat) (P : List (List UInt8)) (m : Nat) (w : World) (bx : List Value) (vP : Value) (B X j : Nat) (cur : Sta) (x y : Value) (wr : World) : Prop where
  le : j ≤ P.length
  rowX : RowC wr X 27 [x, y]
  rowA : RowC wr w.heap.size 27 bx
  rowZ : RowC wr (w.heap.size + 1) 27 [.slice none 0 0, .slice none 0 0]
  st : Stat wr (.agg #[x, y]) cur
  si : SI st1 k P m j cur
  txs : Strs wr B vP (P.map bs)
  up : Up w wr

def StLoop (st1 : Sta) (k : Nat) (P : List (List UInt8)) (m : Nat) (w : World) (bx : List Value) (vP : Value) (B X : Nat) (i : Value) (wr : World) : Prop :=
  ∃ j cur x y, i = .int .i64 ((j : Nat) : Int) ∧ StI st1 k P m w bx vP B X j cur x y wr

theorem strState : (9 : Nat) ≠ 27 := by decide

set_option maxRecDepth 100000 in
set_option maxHeartbeats 2000000 in
theorem stored_any (v : Value) (st : Sta) (nm S : List UInt8) (m : Nat) (w : World) (h : Stat w v st) (hg : WoolVol.Good FP st) (hnm : nm.length ≤ 12) (hm : ∀ i (_ : i < (pcs S).length), i < m → Has st.b (pcs S)[i]) :
    Calls Tryz.prog 5 #[v, .string (bs nm), .string (bs S)] w (StoPost st nm S m w) := by
  have HMK := Lib.hid (fun n W (hW : Up w W) => make_any v st nm n W (h.up hW) (good_wf hg) (by omega))
  unfold RdEPost at HMK
  obtain ⟨vb, vv, rfl, hb, hv⟩ := h
  obtain ⟨oB, cB, rfl, _⟩ := hb.slice
  obtain ⟨oV, cV, rfl, _, _⟩ := hv.slice
  clear hb hv
  have HGD := Lib.hid hg
  have HHM := Lib.hid hm
  obtain ⟨M, hM⟩ : ∃ M, st.b.length = M := ⟨_, rfl⟩
  obtain ⟨N, hN⟩ : ∃ N, st.v.length = N := ⟨_, rfl⟩
  rw [hM, hN] at HMK ⊢
  clear hM hN hg hm
  have HR : Hid (RowC ((w.alloc (.cells #[.slice oB M cB, .slice oV N cV] 27)).alloc (.cells #[.slice none 0 0, .slice none 0 0] 27)) (w.heap.size + 1) 27 [.slice none 0 0, .slice none 0 0]) := box_new w _ _ _ _
  have HA : Hid (RowC ((w.alloc (.cells #[.slice oB M cB, .slice oV N cV] 27)).alloc (.cells #[.slice none 0 0, .slice none 0 0] 27)) w.heap.size 27 [.slice oB M cB, .slice oV N cV]) := RowC.up (rowN_at [.slice oB M cB, .slice oV N cV] _ rfl) (Up.alloc _ _)
  have HW0 : Hid (Up w ((w.alloc (.cells #[.slice oB M cB, .slice oV N cV] 27)).alloc (.cells #[.slice none 0 0, .slice none 0 0] 27))) := (Up.alloc _ _).trans (Up.alloc _ _)
  go_enter Tryz.func5, Tryz.ntmps5
  go_upto_region 1 with (fail)
  generalize (w.alloc (.cells #[.slice oB M cB, .slice oV N cV] 27)).alloc (.cells #[.slice none 0 0, .slice none 0 0] 27) = W0 at HA HR HW0 ⊢
  by_cases hbig : 600 < (bs S).size
  · have HEL := Lib.hid (fun W => ends_long (bs S) 4 64 7 W hbig)
    clear hbig
    go_wp2_with fail
    refine (HEL.out _).mono ?_
    rintro e w1 ⟨rfl, rfl⟩
    have HAW0 := Lib.hid HA.out
    have HRW0 := Lib.hid HR.out
    have HUW0 := Lib.hid HW0.out
    have a0 := HAW0.out.cell (j := 0) rfl
    have a1 := HAW0.out.cell (j := 1) rfl
    have r0 := HRW0.out.frozen 0
    have r1 := HRW0.out.frozen 1
    have r2 := HRW0.out.cell (j := 0) rfl
    have r3 := HRW0.out.cell (j := 1) rfl
    go_wp2_with fail
    have hz := (HRW0.out.set 0 (.slice oB M cB)).set 1 (.slice oV N cV)
    have z0 := hz.cell (j := 0) rfl
    have z1 := hz.cell (j := 1) rfl
    have HUZ := Lib.hid (up2 (x := .slice oB M cB) (y := .slice oV N cV) HUW0.out (Nat.le_succ w.heap.size))
    generalize (W0.setCell ⟨w.heap.size + 1, 0, none⟩ (.slice oB M cB)).setCell ⟨w.heap.size + 1, 1, none⟩ (.slice oV N cV) = WZ at z0 z1 HUZ ⊢
    exact bodyPost_ret (v := .tuple #[.agg #[.slice oB M cB, .slice oV N cV], .int .i64 ((0 : Nat) : Int), .bool false]) (by simp [results, Tryz.results5, go_sem, z0, z1]) rfl ⟨oB, M, cB, oV, N, cV, 0, false, rfl, HUZ.out, fun h => by cases h⟩
  · have HEO := Lib.hid (fun W => ends_ok (bs S) 4 64 7 W (by omega) (by omega) (by omega) (by omega) (by omega))
    unfold EndsPost at HEO
    rw [bs_list] at HEO
    have hsz : (bs S).size ≤ 600 := by omega
    clear hbig
    go_wp2_with fail
    refine (HEO.out _).mono ?_
    rintro e w1 ⟨v1, rfl, hi1, u1⟩
    obtain ⟨o1, c1, hv1⟩ : ∃ o1 c1, v1 = .slice o1 (ends 4 64 7 S).length c1 := own_slice hi1
    subst hv1
    have HSE := Lib.hid hi1.seen
    have HAw1 := Lib.hid (HA.out.up u1)
    have HRw1 := Lib.hid (HR.out.up u1)
    have HUw1 := Lib.hid (HW0.out.trans u1)
    have HPL := Lib.hid (pcs_len S)
    obtain ⟨Q, hQ⟩ : ∃ Q, (ends 4 64 7 S).length = Q := ⟨_, rfl⟩
    rw [hQ] at HPL HSE ⊢
    clear hi1 u1 hQ
    by_cases hq32 : 32 < Q
    · have d1 : decide ((Q : Int) > 32) = true := decide_eq_true (by omega)
      have d2 : decide (32 < (Q : Int)) = true := decide_eq_true (by omega)
      clear hq32
      have a0 := HAw1.out.cell (j := 0) rfl
      have a1 := HAw1.out.cell (j := 1) rfl
      have r0 := HRw1.out.frozen 0
      have r1 := HRw1.out.frozen 1
      have r2 := HRw1.out.cell (j := 0) rfl
      have r3 := HRw1.out.cell (j := 1) rfl
      go_wp2_with fail
      have hz := (HRw1.out.set 0 (.slice oB M cB)).set 1 (.slice oV N cV)
      have z0 := hz.cell (j := 0) rfl
      have z1 := hz.cell (j := 1) rfl
      have HUZ := Lib.hid (up2 (x := .slice oB M cB) (y := .slice oV N cV) HUw1.out (Nat.le_succ w.heap.size))
      generalize (w1.setCell ⟨w.heap.size + 1, 0, none⟩ (.slice oB M cB)).setCell ⟨w.heap.size + 1, 1, none⟩ (.slice oV N cV) = WZ at z0 z1 HUZ ⊢
      exact bodyPost_ret (v := .tuple #[.agg #[.slice oB M cB, .slice oV N cV], .int .i64 ((0 : Nat) : Int), .bool false]) (by simp [results, Tryz.results5, go_sem, z0, z1]) rfl ⟨oB, M, cB, oV, N, cV, 0, false, rfl, HUZ.out, fun h => by cases h⟩
    · have d1 : decide (32 < (Q : Int)) = false := decide_eq_false (by omega)
      by_cases hq0 : Q = 0
      · subst hq0
        clear hq32
        have a0 := HAw1.out.cell (j := 0) rfl
        have a1 := HAw1.out.cell (j := 1) rfl
        have r0 := HRw1.out.frozen 0
        have r1 := HRw1.out.frozen 1
        have r2 := HRw1.out.cell (j := 0) rfl
        have r3 := HRw1.out.cell (j := 1) rfl
        go_wp2_with fail
        have hz := (HRw1.out.set 0 (.slice oB M cB)).set 1 (.slice oV N cV)
        have z0 := hz.cell (j := 0) rfl
        have z1 := hz.cell (j := 1) rfl
        have HUZ := Lib.hid (up2 (x := .slice oB M cB) (y := .slice oV N cV) HUw1.out (Nat.le_succ w.heap.size))
        generalize (w1.setCell ⟨w.heap.size + 1, 0, none⟩ (.slice oB M cB)).setCell ⟨w.heap.size + 1, 1, none⟩ (.slice oV N cV) = WZ at z0 z1 HUZ ⊢
        exact bodyPost_ret (v := .tuple #[.agg #[.slice oB M cB, .slice oV N cV], .int .i64 ((0 : Nat) : Int), .bool false]) (by simp [results, Tryz.results5, go_sem, z0, z1]) rfl ⟨oB, M, cB, oV, N, cV, 0, false, rfl, HUZ.out, fun h => by cases h⟩
      · have d2 : ((Q : Int) == 0) = false := by simp; omega
        cases hd : divs 0 ((ends 4 64 7 S).map fun x : Nat => (x : Int)) ((bs S).size : Int) with
        | false =>
          have HSB := Lib.hid (fun W (hW : Up w1 W) => split_bad (bs S) _ _ W hsz (HSE.out.up hW) hd)
          clear hd
          go_wp2_with fail
          refine (HSB.out _ (Up.refl _)).mono ?_
          rintro e w2 ⟨rfl, rfl⟩
          have a0 := HAw1.out.cell (j := 0) rfl
          have a1 := HAw1.out.cell (j := 1) rfl
          have r0 := HRw1.out.frozen 0
          have r1 := HRw1.out.frozen 1
          have r2 := HRw1.out.cell (j := 0) rfl
          have r3 := HRw1.out.cell (j := 1) rfl
          go_wp2_with fail
          have hz := (HRw1.out.set 0 (.slice oB M cB)).set 1 (.slice oV N cV)
          have z0 := hz.cell (j := 0) rfl
          have z1 := hz.cell (j := 1) rfl
          have HUZ := Lib.hid (up2 (x := .slice oB M cB) (y := .slice oV N cV) HUw1.out (Nat.le_succ w.heap.size))
          generalize (w1.setCell ⟨w.heap.size + 1, 0, none⟩ (.slice oB M cB)).setCell ⟨w.heap.size + 1, 1, none⟩ (.slice oV N cV) = WZ at z0 z1 HUZ ⊢
          exact bodyPost_ret (v := .tuple #[.agg #[.slice oB M cB, .slice oV N cV], .int .i64 ((0 : Nat) : Int), .bool false]) (by simp [results, Tryz.results5, go_sem, z0, z1]) rfl ⟨oB, M, cB, oV, N, cV, 0, false, rfl, HUZ.out, fun h => by cases h⟩
        | true =>
          have HSO := Lib.hid (fun W (hW : Up w1 W) => split_ok (bs S) _ _ W hsz (HSE.out.up hW) hd)
          unfold SplitPost at HSO
          rw [lp_pieces] at HSO
          clear hd
          go_wp2_with fail
          refine (HSO.out _ (Up.refl _)).mono ?_
          rintro e w2 ⟨v2, rfl, hst2, u2⟩
          change Strs w2 w1.heap.size v2 ((pcs S).map bs) at hst2
          obtain ⟨o2, c2, hv2⟩ := hst2.shape
          rw [List.length_map, HPL.out] at hv2
          subst hv2
          have HT2 := Lib.hid hst2
          have HAw2 := Lib.hid (HAw1.out.up u2)
          have HRw2 := Lib.hid (HRw1.out.up u2)
          have HUw2 := Lib.hid (HUw1.out.trans u2)
          clear hst2 u2
          have HMQ := Lib.hid (HMK.out (Q : Int))
          obtain ⟨RM, hRM⟩ : ∃ RM, make FP st nm (Q : Int) = RM := ⟨_, rfl⟩
          have HRM := Lib.hid hRM
          rw [hRM] at HMQ
          clear hRM HMK
          have a0 := HAw2.out.cell (j := 0) rfl
          have a1 := HAw2.out.cell (j := 1) rfl
          go_wp2_with fail
          refine (HMQ.out _ HUw2.out).mono ?_
          rintro e w3 ⟨v3, rfl, hs3, u3⟩
          obtain ⟨o3, c3, o4, c4, hv3⟩ := hs3.shape
          subst hv3
          obtain ⟨L3, hL3⟩ : ∃ L3, RM.1.b.length = L3 := ⟨_, rfl⟩
          obtain ⟨L4, hL4⟩ : ∃ L4, RM.1.v.length = L4 := ⟨_, rfl⟩
          rw [hL3, hL4] at hs3 ⊢
          clear a0 a1 hL3 hL4
          go_upto_region 8 with (fail)
          have hal := Up.alloc w3 (.cells #[.slice o3 L3 c3, .slice o4 L4 c4] 27)
          have HX3 : Hid (RowC (w3.alloc (.cells #[.slice o3 L3 c3, .slice o4 L4 c4] 27)) w3.heap.size 27 [.slice o3 L3 c3, .slice o4 L4 c4]) := heap_alloc_new w3 _
          have HS3 := Lib.hid (hs3.up hal)
          have HAW3 := Lib.hid (HAw2.out.up (u3.trans hal))
          have HRW3 := Lib.hid (HRw2.out.up (u3.trans hal))
          have HUW3 := Lib.hid (HUw2.out.trans (u3.trans hal))
          have HT3 := Lib.hid (HT2.out.up (u3.trans hal))
          have hXlt : w.heap.size + 1 < w3.heap.size := (HRw2.out.up u3).lt
          clear hal u3 hs3
          generalize w3.alloc (.cells #[.slice o3 L3 c3, .slice o4 L4 c4] 27) = W3 at HX3 HS3 HAW3 HRW3 HUW3 HT3 ⊢
          obtain ⟨X, hX⟩ : ∃ X, w3.heap.size = X := ⟨_, rfl⟩
          rw [hX] at HX3 hXlt ⊢
          clear hX
          by_cases hE : RM.2 = 0
          · rw [hE]
            have hmk : newE st nm = 0 ∧ RM.1 = ⟨st.b, vins ⟨nm, List.replicate Q noId⟩ st.v⟩ := by
              have h9 := HRM.out
              unfold make at h9
              rw [chkS_zero.2 HGD.out, if_neg (by simp), if_neg (by omega), Int.toNat_natCast] at h9
              by_cases hne : newE st nm = 0
              · rw [if_neg (by simpa using hne)] at h9
                exact ⟨hne, by rw [← h9]⟩
              · rw [if_pos hne] at h9
                rw [← h9] at hE
                exact absurd hE hne
            obtain ⟨hnew, hRM1⟩ := hmk
            rw [hRM1] at HS3
            have HNEW := Lib.hid hnew
            obtain ⟨_, hno, _⟩ := newE_zero hnew
            have HVX := Lib.hid (make_vix (st := st) (nm := nm) (bl := List.replicate Q noId) hno)
            obtain ⟨hkl, hk2, hk3⟩ := vix_some HVX.out
            clear hk2 hk3
            have HKL : Hid (∃ hk : vplace nm st.v < (vins ⟨nm, List.replicate Q noId⟩ st.v).length, ((vins ⟨nm, List.replicate Q noId⟩ st.v)[vplace nm st.v]'hk).bl.length = (pcs S).length) := ⟨hkl, by rw [make_bl, HPL.out]⟩
            have hsi := SI.start (P := pcs S) HGD.out hnew (by rw [HPL.out]; omega) m
            rw [HPL.out] at hsi
            have HSTT : Hid (StLoop ⟨st.b, vins ⟨nm, List.replicate Q noId⟩ st.v⟩ (vplace nm st.v) (pcs S) m w [.slice oB M cB, .slice oV N cV] (.slice o2 Q c2) w1.heap.size X (.int .i64 0) W3) := ⟨0, _, _, _, rfl, ⟨Nat.zero_le _, HX3.out, HAW3.out, HRW3.out, HS3.out, hsi, HT3.out, HUW3.out⟩⟩
            clear hE hsi hkl hno hnew hRM1
            go_wp2_with fail
            go_loopw [55] (fun i wr => StLoop ⟨st.b, vins ⟨nm, List.replicate Q noId⟩ st.v⟩ (vplace nm st.v) (pcs S) m w [.slice oB M cB, .slice oV N cV] (.slice o2 Q c2) w1.heap.size X i wr) (fun i _ => Q - (intOf i).toNat)
            case atStart => exact HSTT.out
            case round =>
              obtain ⟨j, cur, x, y, rfl, hI⟩ := hrel
              have hjQ : j ≤ Q := by rw [← HPL.out]; exact hI.le
              have HI := Lib.hid hI
              obtain ⟨vbx, vvx, hag, hbx, hvx⟩ := hI.st
              simp at hag
              obtain ⟨rfl, rfl⟩ := hag
              obtain ⟨p5, d5, rfl, _⟩ := hbx.slice
              obtain ⟨p6, d6, rfl, _, _⟩ := hvx.slice
              obtain ⟨L5, hL5⟩ : ∃ L5, cur.b.length = L5 := ⟨_, rfl⟩
              obtain ⟨L6, hL6⟩ : ∃ L6, cur.v.length = L6 := ⟨_, rfl⟩
              rw [hL5, hL6] at HI
              have x0 := HI.out.rowX.cell (j := 0) rfl
              have x1 := HI.out.rowX.cell (j := 1) rfl
              have hneA : w.heap.size ≠ X := by omega
              have hneZ : w.heap.size + 1 ≠ X := by omega
              clear hbx hvx hI hL5 hL6
              by_cases hlt : j < Q
              · have dz : decide (j < Q) = true := decide_eq_true hlt
                have hjP : j < (pcs S).length := by rw [HPL.out]; exact hlt
                obtain ⟨g, cg, hvg, _, _, hcg, hcg'⟩ := HI.out.txs.block (by rw [List.length_map, HPL.out]; omega)
                simp only [Value.slice.injEq] at hvg
                obtain ⟨rfl, hQ2, rfl⟩ := hvg
                clear hQ2
                have ht : Strs wr w1.heap.size (.slice (some ⟨g, 0, none⟩) ((pcs S).map bs).length c2) ((pcs S).map bs) := by
                  rw [List.length_map, HPL.out]
                  exact HI.out.txs
                have e1 := ht.cell j (by rw [List.length_map]; exact hjP)
                rw [List.getElem_map] at e1
                obtain ⟨hkl, hbl⟩ := HKL.out
                have hsp : (write FP cur nm (j : Int) (pcs S)[j]).2 = 0 → SI ⟨st.b, vins ⟨nm, List.replicate Q noId⟩ st.v⟩ (vplace nm st.v) (pcs S) m (j + 1) (write FP cur nm (j : Int) (pcs S)[j]).1 := fun h0 => HI.out.si.step HVX.out hkl hbl hjP HHM.out h0
                obtain ⟨P, hP⟩ : ∃ P, (pcs S)[j] = P := ⟨_, rfl⟩
                rw [hP] at e1 hsp
                have hwr := write_any _ cur nm P (j : Int) wr HI.out.st (good_wf HI.out.si.good)
                obtain ⟨⟨TS, TE⟩, hT⟩ : ∃ T, write FP cur nm (j : Int) P = T := ⟨_, rfl⟩
                rw [hT] at hsp hwr
                unfold StEPost at hwr
                simp only at hsp hwr
                have HSP := Lib.hid hsp
                have HWR := Lib.hid hwr
                rw [List.length_map, HPL.out] at hcg
                unfold maxLen at hcg'
                clear ht hsp hwr hP hT hkl hbl hjP
                go_wp2_with fail
                refine HWR.out.mono ?_
                rintro e w5 ⟨v5, rfl, ho5, u5⟩
                have hs5 := ho5.stat
                obtain ⟨o5, c5, o6, c6, hv5⟩ := hs5.shape
                subst hv5
                obtain ⟨B5, hB5⟩ : ∃ B5, TS.b.length = B5 := ⟨_, rfl⟩
                obtain ⟨V5, hV5⟩ : ∃ V5, TS.v.length = V5 := ⟨_, rfl⟩
                rw [hB5, hV5] at hs5 ⊢
                have hX5 := HI.out.rowX.up u5
                have k0 := hX5.frozen 0
                have k1 := hX5.frozen 1
                have k2 := hX5.cell (j := 0) rfl
                have k3 := hX5.cell (j := 1) rfl
                have HX6 := Lib.hid ((hX5.set 0 (.slice o5 B5 c5)).set 1 (.slice o6 V5 c6))
                have HS6 := Lib.hid (Stat.boxed (x := .slice o5 B5 c5) (y := .slice o6 V5 c6) hs5 hX5 rfl rfl rfl)
                have HAW6 := Lib.hid (((HI.out.rowA.up u5).other hneA 0 (.slice o5 B5 c5)).other hneA 1 (.slice o6 V5 c6))
                have HRW6 := Lib.hid (((HI.out.rowZ.up u5).other hneZ 0 (.slice o5 B5 c5)).other hneZ 1 (.slice o6 V5 c6))
                have HUW6 := Lib.hid (up2 (x := .slice o5 B5 c5) (y := .slice o6 V5 c6) (HI.out.up.trans u5) (show w.heap.size ≤ X by omega))
                have ht5 := HI.out.txs.up u5
                have hta := own_apart ht5 hX5 strState
                have HT6 : Hid (Strs ((w5.setCell ⟨X, 0, none⟩ (.slice o5 B5 c5)).setCell ⟨X, 1, none⟩ (.slice o6 V5 c6)) w1.heap.size (.slice (some ⟨g, 0, none⟩) Q c2) ((pcs S).map bs)) := own_set (own_set ht5 hta) hta
                clear ho5 hs5 u5 hX5 hB5 hV5 x0 x1 e1 ht5 hta
                go_upto_region 14 with (fail)
                clear k0 k1 k2 k3
                generalize (w5.setCell ⟨X, 0, none⟩ (.slice o5 B5 c5)).setCell ⟨X, 1, none⟩ (.slice o6 V5 c6) = W6 at HX6 HS6 HAW6 HRW6 HUW6 HT6 ⊢
                by_cases hE : TE = 0
                · subst hE
                  have HSI := Lib.hid (HSP.out rfl)
                  go_wp2_with fail
                  go_roundw
                  case rel => exact ⟨j + 1, TS, _, _, by go_num, ⟨by rw [HPL.out]; omega, HX6.out, HAW6.out, HRW6.out, HS6.out, HSI.out, HT6.out, HUW6.out⟩⟩
                  case measure => simp only [intOf]; omega
                · have hne : (TE != 0) = true := by rw [bne_iff_ne]; exact hE
                  clear hE
                  have a0 := HAW6.out.cell (j := 0) rfl
                  have a1 := HAW6.out.cell (j := 1) rfl
                  have r0 := HRW6.out.frozen 0
                  have r1 := HRW6.out.frozen 1
                  have r2 := HRW6.out.cell (j := 0) rfl
                  have r3 := HRW6.out.cell (j := 1) rfl
                  go_wp2_with fail
                  have hz := (HRW6.out.set 0 (.slice oB M cB)).set 1 (.slice oV N cV)
                  have z0 := hz.cell (j := 0) rfl
                  have z1 := hz.cell (j := 1) rfl
                  have HUZ := Lib.hid (up2 (x := .slice oB M cB) (y := .slice oV N cV) HUW6.out (Nat.le_succ w.heap.size))
                  generalize (W6.setCell ⟨w.heap.size + 1, 0, none⟩ (.slice oB M cB)).setCell ⟨w.heap.size + 1, 1, none⟩ (.slice oV N cV) = WZ at z0 z1 HUZ ⊢
                  exact bodyPost_ret (v := .tuple #[.agg #[.slice oB M cB, .slice oV N cV], .int .i64 ((0 : Nat) : Int), .bool false]) (by simp [results, Tryz.results5, go_sem, z0, z1]) rfl ⟨oB, M, cB, oV, N, cV, 0, false, rfl, HUZ.out, fun h => by cases h⟩
              · have dz : decide (j < Q) = false := decide_eq_false hlt
                have hjq : j = Q := by omega
                subst hjq
                have r0 := HI.out.rowZ.frozen 0
                have r1 := HI.out.rowZ.frozen 1
                have r2 := HI.out.rowZ.cell (j := 0) rfl
                have r3 := HI.out.rowZ.cell (j := 1) rfl
                clear hlt
                go_wp2_with fail
                have hz := (HI.out.rowZ.set 0 (.slice p5 L5 d5)).set 1 (.slice p6 L6 d6)
                have z0 := hz.cell (j := 0) rfl
                have z1 := hz.cell (j := 1) rfl
                have HOZ := Lib.hid (Stat.boxed (x := .slice p5 L5 d5) (y := .slice p6 L6 d6) HI.out.st HI.out.rowZ rfl rfl rfl)
                have HUZ := Lib.hid (up2 (x := .slice p5 L5 d5) (y := .slice p6 L6 d6) HI.out.up (Nat.le_succ w.heap.size))
                generalize (wr.setCell ⟨w.heap.size + 1, 0, none⟩ (.slice p5 L5 d5)).setCell ⟨w.heap.size + 1, 1, none⟩ (.slice p6 L6 d6) = WZ at z0 z1 HOZ HUZ ⊢
                exact bodyPost_ret (v := .tuple #[.agg #[.slice p5 L5 d5, .slice p6 L6 d6], .int .i64 (j : Int), .bool true]) (by simp [results, Tryz.results5, go_sem, z0, z1]) rfl ⟨p5, L5, d5, p6, L6, d6, j, true, rfl, HUZ.out, fun _ => ⟨cur, HOZ.out, HPL.out.symm, hq0, by omega, HNEW.out, HI.out.si⟩⟩
          · have hne : (RM.2 != 0) = true := by rw [bne_iff_ne]; exact hE
            clear hE
            have a0 := HAW3.out.cell (j := 0) rfl
            have a1 := HAW3.out.cell (j := 1) rfl
            have r0 := HRW3.out.frozen 0
            have r1 := HRW3.out.frozen 1
            have r2 := HRW3.out.cell (j := 0) rfl
            have r3 := HRW3.out.cell (j := 1) rfl
            go_wp2_with fail
            have hz := (HRW3.out.set 0 (.slice oB M cB)).set 1 (.slice oV N cV)
            have z0 := hz.cell (j := 0) rfl
            have z1 := hz.cell (j := 1) rfl
            have HUZ := Lib.hid (up2 (x := .slice oB M cB) (y := .slice oV N cV) HUW3.out (Nat.le_succ w.heap.size))
            generalize (W3.setCell ⟨w.heap.size + 1, 0, none⟩ (.slice oB M cB)).setCell ⟨w.heap.size + 1, 1, none⟩ (.slice oV N cV) = WZ at z0 z1 HUZ ⊢
            exact bodyPost_ret (v := .tuple #[.agg #[.slice oB M cB, .slice oV N cV], .int .i64 ((0 : Nat) : Int), .bool false]) (by simp [results, Tryz.results5, go_sem, z0, z1]) rfl ⟨oB, M, cB, oV, N, cV, 0, false, rfl, HUZ.out, fun h => by cases h⟩

set_option maxRecDepth 100000 in
theorem begunD_any (w : World) : Calls Tryz.prog 4 #[] w fun e w' => e = .returned (.bool true) ∧ Up w w' := by
  have hm : WoolMath.mul 3 3 = 5 := by decide +kernel
  have HM := Lib.hid hm
  clear hm
  go_enter Tryz.func4, Tryz.ntmps4
  go_wp2_with fail
  refine (mulN 3 3 _ (by omega) (by omega) (by rw [HM.out]; omega)).mono ?_
  rintro e w1 ⟨rfl, u1⟩
  rw [HM.out]
  go_wp2_with fail
  go_ret
  exact ⟨rfl, u1⟩

/-- the texts of a volume, one behind the other -/
def ldd (st : Sta) (k : Nat) : Nat → List UInt8
  | 0 => []
  | j + 1 => ldd st k j ++ (txAt st k j).getD []

theorem ldd_len {st : Sta} (g : WoolVol.Good FP st) (k : Nat) : ∀ j, (ldd st k j).length ≤ 64 * j
  | 0 => by simp [ldd]
  | j + 1 => by
    have ih := ldd_len g k j
    have ht : ((txAt st k j).getD []).length ≤ 64 := by
      cases e : txAt st k j with
      | none => simp
      | some t =>
        obtain ⟨x, hx, rfl⟩ := has_tx e
        exact (g.bag.ok x hx).1
    show (ldd st k j ++ (txAt st k j).getD []).length ≤ _
    rw [List.length_append]
    omega

theorem ldd_flat {st : Sta} {k : Nat} {P : List (List UInt8)} : ∀ j, j ≤ P.length → (∀ i, i < j → txAt st k i = P[i]?) → ldd st k j = (P.take j).flatten
  | 0, _, _ => rfl
  | j + 1, hj, h => by
    have hjl : j < P.length := by omega
    show ldd st k j ++ (txAt st k j).getD [] = _
    rw [ldd_flat j (by omega) (fun i hi => h i (by omega)), h j (by omega), List.getElem?_eq_getElem hjl, List.take_succ_eq_append_getElem hjl, List.flatten_append]
    simp

def LdRel (st : Sta) (k q : Nat) (w : World) (out i : Value) (wr : World) : Prop := ∃ j : Nat, j ≤ q ∧ i = .int .i64 ((j : Nat) : Int) ∧ out = .string (bs (ldd st k j)) ∧ Up w wr

set_option maxRecDepth 100000 in
set_option maxHeartbeats 1000000 in
theorem loaded_any (v : Value) (st : Sta) (nm : List UInt8) (k q : Nat) (w : World) (h : Stat w v st) (g : WoolVol.Good FP st) (hx : vix (nmB nm) st.v = some k) (hk : k < st.v.length) (hbl : st.v[k].bl.length = q) (h32 : q ≤ 32) :
    Calls Tryz.prog 14 #[v, .string (bs nm), .int .i64 (q : Int)] w fun e w' => e = .returned (.string (bs (ldd st k q))) ∧ Up w w' := by
  have HRD : Hid (∀ (j : Nat), j < q → ∀ W, Up w W → Calls Tryz.prog 10 #[v, .string (bs nm), .int .i64 (j : Int)] W fun e w' => e = .returned (.tuple #[.string (bs ((txAt st k j).getD [])), .int .i64 0]) ∧ Up W w') := by
    intro j hj W hW
    have h9 := read_any v st nm (j : Int) W (h.up hW) (good_wf g)
    unfold readVR at h9
    rw [read_tx g hk (by rw [hbl]; exact hj) (vloc_is g hk hx (by rw [hbl]; exact hj))] at h9
    exact h9
  have HLN := Lib.hid (fun j => ldd_len g k j)
  have HTL : Hid (∀ j, ((txAt st k j).getD []).length ≤ 64) := by
    intro j
    cases e : txAt st k j with
    | none => simp
    | some t =>
      obtain ⟨x, hx, rfl⟩ := has_tx e
      exact (g.bag.ok x hx).1
  obtain ⟨vb, vv, rfl, hb, hv⟩ := h
  obtain ⟨oB, cB, rfl, _⟩ := hb.slice
  obtain ⟨oV, cV, rfl, _, _⟩ := hv.slice
  clear hb hv hx hbl g hk
  generalize st.b.length = M at *
  generalize st.v.length = N at *
  have HA : Hid (RowC (w.alloc (.cells #[.slice oB M cB, .slice oV N cV] 27)) w.heap.size 27 [.slice oB M cB, .slice oV N cV]) := heap_alloc_new w _
  have HW0 : Hid (Up w (w.alloc (.cells #[.slice oB M cB, .slice oV N cV] 27))) := Up.alloc _ _
  go_enter Tryz.func14, Tryz.ntmps14
  go_upto_region 1 with (fail)
  generalize (w.alloc (.cells #[.slice oB M cB, .slice oV N cV] 27)) = W0 at HA HW0 ⊢
  go_wp2_with fail
  go_loopw [7, 12] (fun out i wr => LdRel st k q W0 out i wr) (fun _ i _ => q - (intOf i).toNat)
  case atStart => exact ⟨0, Nat.zero_le _, rfl, rfl, Up.refl _⟩
  case round =>
    obtain ⟨j, hj, rfl, rfl, hu⟩ := hrel
    have HU := Lib.hid hu
    have a0 := (HA.out.up hu).cell (j := 0) rfl
    have a1 := (HA.out.up hu).cell (j := 1) rfl
    clear hu
    by_cases hlt : j < q
    · have dz : decide (j < q) = true := decide_eq_true hlt
      have HRJ := Lib.hid (HRD.out j hlt)
      have HNX : Hid (ldd st k (j + 1) = ldd st k j ++ (txAt st k j).getD []) := rfl
      have hl1 := HLN.out j
      have hl2 := HTL.out j
      have hadd := add_bs (ldd st k j) ((txAt st k j).getD []) (by omega)
      clear hl1 hl2
      go_wp2_with fail
      refine (HRJ.out _ (HW0.out.trans HU.out)).mono ?_
      rintro e w1 ⟨rfl, u1⟩
      have HU1 := Lib.hid (HU.out.trans u1)
      clear u1 a0 a1
      go_wp2_with fail
      go_roundw
      case rel => exact ⟨j + 1, by omega, by go_num, by rw [HNX.out], HU1.out⟩
      case measure => simp only [intOf]; omega
    · have dz : decide (j < q) = false := decide_eq_false hlt
      have hjq : j = q := by omega
      subst hjq
      go_wp2_with fail
      go_ret
      exact ⟨rfl, HW0.out.trans HU.out⟩

end Go.Proofs.YtcbppfndlagodaaGreat
