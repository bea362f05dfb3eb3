/-
  The law VolChecks: whatever is handed in, Name, Check, Blocks and Read answer what the document says. Conditions: a state that can be read.
-/
import Derived.Test.YtldcaadbkcbdjaaDoorRefVol4
namespace Go.Proofs.YtldcaadbkcbdjaaDoor
open Go.RowKit
open Go.Proofs
open WoolBag
open WoolVol

theorem empty_bs : bs [] = ⟨#[]⟩ := rfl

/-- a state in a box -/
theorem Stat.boxed {w w' : World} {vb vv : Value} {st : Sta} (h : Stat w (.agg #[vb, vv]) st) (hu : Up w w') : Stat w' (.agg #[vb, vv]) st := h.up hu

theorem read_get {st : Sta} {s : List UInt8} {k j : Nat} (hg : WoolVol.Good FP st) (hk : k < st.v.length) (hf : vfind FP st s = (k, 0)) (hj : j < st.v[k].bl.length) :
    WoolVol.read FP st s (j : Int) = ((txt st.b st.v[k].bl[j]).drop 1, 0) := by
  have hl : vloc FP st s (j : Int) = (k, 0) := by
    unfold vloc
    rw [hf, if_neg (by simp)]
    simp only
    rw [getElem!_pos st.v k hk, if_neg (by omega)]
  unfold WoolVol.read
  rw [hl, if_neg (by simp)]
  unfold blk
  simp only [Int.toNat_natCast]
  rw [getElem!_pos st.v k hk, getElem!_pos st.v[k].bl j hj]
  have herr := (hg.vol _ (List.getElem_mem hk)).2.2 _ (List.getElem_mem hj)
  generalize st.v[k].bl[j] = i at herr
  cases hi : i.1 with
  | false => simp [txt, hi]
  | true =>
    obtain ⟨x, hx, hxe⟩ := errB_in herr hi
    obtain ⟨m, hm, rfl⟩ := List.getElem_of_mem hx
    rw [if_pos rfl, hxe, get_mem hg.bag (List.getElem_mem hm)]
    unfold txt
    rw [hg.bag.idx_id hm]
    show _ = ((if true = true then _ else _ : List UInt8).drop 1, (0 : Int))
    rw [if_pos rfl]
    show _ = ((st.b[m]!).t, (0 : Int))
    rw [getElem!_pos st.b m hm]

theorem read_out {st : Sta} {s : List UInt8} {k L : Nat} {a : Int} (hk : k < st.v.length) (hf : vfind FP st s = (k, 0)) (hL : st.v[k].bl.length = L) (h : a < 0 ∨ (L : Int) ≤ a) : WoolVol.read FP st s a = ([], 1) := by
  have hl : vloc FP st s a = (0, 1) := by
    unfold vloc
    rw [hf, if_neg (by simp)]
    simp only
    rw [getElem!_pos st.v k hk, hL, if_pos h]
  unfold WoolVol.read
  rw [hl]; rfl

set_option maxRecDepth 100000 in
set_option maxHeartbeats 4000000 in
theorem volChecks_walk (a0 : Value) (s0 : Sta) (a1 : ByteArray) (a2 : Int) (w : World) (w0 : Stat w a0 s0 ∧ WfS s0) (w1 : a1.size ≤ 140737488351232) (_w2 : (Lit.int .i64 a2).wf = true) :
    Calls Tryd.prog 3 #[a0, .string a1, .int .i64 a2] w fun e w' => e = .returned (.bool true) ∧ Up w w' := by
  obtain ⟨hst, hwf⟩ := w0
  obtain ⟨n, rfl⟩ : ∃ n, a1 = bs n := ⟨a1.data.toList, (bs_of a1).symm⟩
  rw [bs_size] at w1
  have HBL := Lib.hid (fun W (hW : Up w W) => blocks_any a0 s0 n W (hst.up hW) hwf)
  have HRD := Lib.hid (fun W (hW : Up w W) => read_any a0 s0 n a2 W (hst.up hW) hwf)
  have HRS := Lib.hid (fun W (hW : Up w W) => refState_any a0 s0 W (hst.up hW) hwf)
  have HCK := Lib.hid (fun W (hW : Up w W) => vcheck_any a0 s0 W (hst.up hW) hwf)
  have HNM := Lib.hid (fun W => name_any n W (by omega))
  have HRN := Lib.hid (fun W => refName_any n W (by omega))
  have HNA := Lib.hid (fun W => name_any [97] W (by simp))
  have HRV := Lib.hid (fun W (hW : Up w W) => refVol_any a0 s0 n W (hst.up hW))
  have HTX := Lib.hid (fun (hg : WoolVol.Good FP s0) W (hW : Up w W) => refTexts_any a0 s0 W (hst.up hW) hg)
  have hna : nameB [97] = true := by decide
  rw [hna] at HNA
  rw [show bs [97] = ⟨#[97]⟩ from rfl] at HNA
  obtain ⟨vb, vv, rfl, hb, hv⟩ := hst
  obtain ⟨oB, cB, rfl, _⟩ := hb.slice
  obtain ⟨oV, cV, rfl, hV1, hV2⟩ := hv.slice
  unfold maxLen at hV2
  have HVI := Lib.hid hv
  unfold BlPost at HBL
  unfold readVR at HRD
  clear hb hv hwf hna
  obtain ⟨M, hM⟩ : ∃ M, s0.b.length = M := ⟨_, rfl⟩
  obtain ⟨N, hN⟩ : ∃ N, s0.v.length = N := ⟨_, rfl⟩
  have HN := Lib.hid hN
  rw [hM, hN] at HBL HRD HRS HCK HRV HTX ⊢
  rw [hN] at HVI hV1
  clear hM hN
  obtain ⟨R, hR⟩ : ∃ R, chkS FP s0 = R := ⟨_, rfl⟩
  have HR := Lib.hid hR
  rw [hR] at HRS HCK
  obtain ⟨Q, hQ⟩ : ∃ Q, nameB n = Q := ⟨_, rfl⟩
  rw [hQ] at HNM HRN
  obtain ⟨IX, hIX⟩ : ∃ IX, ixV (fun t => t == n) s0.v = IX := ⟨_, rfl⟩
  have HIX := Lib.hid hIX
  rw [hIX] at HRV
  obtain ⟨BE, hBE⟩ : ∃ BE, (blocks FP s0 n).2 = BE := ⟨_, rfl⟩
  obtain ⟨BL, hBL⟩ : ∃ BL, (blocks FP s0 n).1 = BL := ⟨_, rfl⟩
  have HB2 : Hid ((blocks FP s0 n).2 = BE ∧ (blocks FP s0 n).1 = BL) := ⟨hBE, hBL⟩
  rw [hBE, hBL] at HBL
  obtain ⟨RE, hRE⟩ : ∃ RE, (WoolVol.read FP s0 n a2).2 = RE := ⟨_, rfl⟩
  obtain ⟨RT, hRT⟩ : ∃ RT, (WoolVol.read FP s0 n a2).1 = RT := ⟨_, rfl⟩
  have HR2 : Hid ((WoolVol.read FP s0 n a2).2 = RE ∧ (WoolVol.read FP s0 n a2).1 = RT) := ⟨hRE, hRT⟩
  rw [hRE, hRT] at HRD
  clear hR hQ hIX hBE hBL hRE hRT
  go_enter Tryd.func3, Tryd.ntmps3
  go_wp2_with fail
  refine (HBL.out _ (Up.alloc _ _)).mono ?_
  rintro e w1 ⟨vx, rfl, hids, u1⟩
  have HC : Hid ((w.alloc (.cells #[.slice oB M cB, .slice oV N cV] 25)).cell? ⟨w.heap.size, 0, none⟩ = some (.slice oB M cB) ∧ (w.alloc (.cells #[.slice oB M cB, .slice oV N cV] 25)).cell? ⟨w.heap.size, 1, none⟩ = some (.slice oV N cV)) := ⟨World.cell?_alloc_new w _ _ 0, World.cell?_alloc_new w _ _ 1⟩
  have HW0 : Hid (Up w (w.alloc (.cells #[.slice oB M cB, .slice oV N cV] 25))) := Up.alloc _ _
  have HSZ : Hid (w.heap.size < (w.alloc (.cells #[.slice oB M cB, .slice oV N cV] 25)).heap.size) := by show _ < _; simp
  have HU1 := Lib.hid u1
  have HID := Lib.hid hids
  clear u1 hids
  generalize w.alloc (.cells #[.slice oB M cB, .slice oV N cV] 25) = W0 at HC HW0 HSZ HU1
  have HCL : Hid (∀ W, Up W0 W → W.cell? ⟨w.heap.size, 0, none⟩ = some (.slice oB M cB) ∧ W.cell? ⟨w.heap.size, 1, none⟩ = some (.slice oV N cV)) := fun W hW => ⟨(hW.cell (p := ⟨w.heap.size, 0, none⟩) HSZ.out).trans HC.out.1, (hW.cell (p := ⟨w.heap.size, 1, none⟩) HSZ.out).trans HC.out.2⟩
  obtain ⟨b0, b1⟩ := HCL.out _ HU1.out
  go_wp2_with fail
  refine (HRD.out _ (HW0.out.trans HU1.out)).mono ?_
  rintro e w2 ⟨rfl, u2⟩
  have HU2 := Lib.hid (HU1.out.trans u2)
  have HID2 := Lib.hid (HID.out.up u2)
  obtain ⟨b0, b1⟩ := HCL.out _ HU2.out
  clear u2
  go_wp2_with fail
  refine (HRS.out _ (HW0.out.trans HU2.out)).mono ?_
  rintro e w3 ⟨rfl, u3⟩
  have HU3 := Lib.hid (HU2.out.trans u3)
  have HID3 := Lib.hid (HID2.out.up u3)
  obtain ⟨b0, b1⟩ := HCL.out _ HU3.out
  clear u3
  go_wp2_with fail
  refine (HNM.out _).mono ?_
  rintro e w4 ⟨rfl, rfl⟩
  go_wp2_with fail
  refine (HRN.out _).mono ?_
  rintro e w4 ⟨rfl, u4⟩
  have HU4 := Lib.hid (HU3.out.trans u4)
  have HID4 := Lib.hid (HID3.out.up u4)
  obtain ⟨b0, b1⟩ := HCL.out _ HU4.out
  clear u4
  have dQ : (Q != Q) = false := by simp
  have dR : (R != R) = false := by simp
  go_wp2_with fail
  refine (HCK.out _ (HW0.out.trans HU4.out)).mono ?_
  rintro e w5 ⟨rfl, u5⟩
  have HU5 := Lib.hid (HU4.out.trans u5)
  have HID5 := Lib.hid (HID4.out.up u5)
  obtain ⟨b0, b1⟩ := HCL.out _ HU5.out
  clear u5
  obtain ⟨ox, cx, hvx, _, _⟩ := HID5.out.slice
  subst hvx
  go_wp2_with fail
  refine (HNA.out _).mono ?_
  rintro e w6 ⟨rfl, rfl⟩
  go_wp2_with fail
  refine (HRV.out _ (HW0.out.trans HU5.out)).mono ?_
  rintro e w6 ⟨rfl, u6⟩
  have HU6 := Lib.hid (HU5.out.trans u6)
  have HID6 := Lib.hid (HID5.out.up u6)
  obtain ⟨b0, b1⟩ := HCL.out _ HU6.out
  clear u6
  by_cases hR0 : R = 0
  · subst hR0
    have hgood := chkS_zero.1 HR.out
    have HG := Lib.hid hgood
    cases hx : vix (nmB n) s0.v with
    | none =>
      have hix : IX = -1 := by rw [← HIX.out, ixV_name, hx]
      have hvf : vfind FP s0 n = (0, 4) := by unfold vfind; rw [HR.out, hx]; rfl
      have hBE : BE = 4 := by rw [← HB2.out.1]; unfold blocks; rw [hvf]; rfl
      have hBL : BL = [] := by rw [← HB2.out.2]; unfold blocks; rw [hvf]; rfl
      have hvl : vloc FP s0 n a2 = (0, 4) := by unfold vloc; rw [hvf]; rfl
      have hRE : RE = 4 := by rw [← HR2.out.1]; unfold WoolVol.read; rw [hvl]; rfl
      have hRT : RT = [] := by rw [← HR2.out.2]; unfold WoolVol.read; rw [hvl]; rfl
      subst hix hBE hBL hRE hRT
      rw [empty_bs]
      clear hx hvf hvl hgood
      go_wp2_with fail
      go_ret
      exact ⟨rfl, HW0.out.trans HU6.out⟩
    | some k =>
      obtain ⟨hk, hkn, _⟩ := vix_some hx
      have hix : IX = (k : Int) := by rw [← HIX.out, ixV_name, hx]
      have hvf : vfind FP s0 n = (k, 0) := by unfold vfind; rw [HR.out, hx]; rfl
      have hBE : BE = 0 := by rw [← HB2.out.1]; unfold blocks; rw [hvf]; rfl
      have hBL : BL = s0.v[k].bl := by rw [← HB2.out.2]; unfold blocks; rw [hvf, if_neg (by simp), getElem!_pos s0.v k hk]
      subst hix hBE
      obtain ⟨b, off, rfl, h5⟩ := HVI.out.at (by intro e; rw [e] at hk; simp at hk)
      obtain ⟨_, u, a4, hids⟩ := h5 k hk
      have HEQ := Lib.hid (fun W (hW : Up w6 W) => equalD_yes _ u BL W (HID6.out.up hW) (by rw [hBL]; exact hids.up ((HW0.out.trans HU6.out).trans hW)))
      have a4' := ((HW0.out.trans HU6.out).cell (World.block_lt_of_cell? w _ a4)).trans a4
      obtain ⟨o', c', rfl, _, _⟩ := hids.slice
      have HTX2 := Lib.hid (HTX.out hgood)
      have hnk : s0.v[k].nm = n := by unfold nmB at hkn; simpa using hkn
      have hn12 : s0.v[k].nm.length ≤ 12 := by have := (hgood.vol _ (List.getElem_mem hk)).1; unfold nameB at this; simp at this; omega
      have HLK := Lib.hid (fun W B (hW : TMap W B s0.v.length s0) => hW.look k hk hk hn12)
      rw [hnk] at HLK
      have HHK := Lib.hid hk
      have HVF := Lib.hid hvf
      have hkN : k < N := by rw [← HN.out]; exact hk
      obtain ⟨L, hL⟩ : ∃ L, s0.v[k].bl.length = L := ⟨_, rfl⟩
      have HL := Lib.hid hL
      have hBLL : BL.length = L := by rw [hBL]; exact hL
      have a5 : w6.cell? ⟨b, off + k * 2 + 1, none⟩ = some (.slice o' L c') := by rw [a4']; exact congrArg (fun z => some (Value.slice o' z c')) hL
      have HEQ2 : Hid (∀ W, Up w6 W → Calls Tryd.prog 11 #[.slice ox L cx, .slice o' L c'] W fun e w' => e = .returned (.bool true) ∧ Up W w') := by
        intro W hW
        have h := HEQ.out W hW
        rw [hBLL] at h
        exact (congrArg (fun z => Calls Tryd.prog 11 #[.slice ox L cx, .slice o' z c'] W fun e w' => e = .returned (.bool true) ∧ Up W w') hL).mp h
      rw [hBLL]
      clear a4' HEQ hBLL
      clear h5 a4 hids hx hvf hgood hnk hn12 hBL hkn hL
      go_wp2_with fail
      refine (HEQ2.out _ (Up.refl _)).mono ?_
      rintro e w7 ⟨rfl, u7⟩
      have HU7 := Lib.hid (HU6.out.trans u7)
      obtain ⟨b0, b1⟩ := HCL.out _ HU7.out
      clear u7
      go_wp2_with fail
      refine (HTX2.out _ (HW0.out.trans HU7.out)).mono ?_
      rintro e w8 ⟨B, rfl, htm, u8⟩
      have HU8 := Lib.hid (HU7.out.trans u8)
      obtain ⟨vt, hlk, g, rfl, hrow⟩ := HLK.out _ _ htm
      have hlen : (s0.v[k]'HHK.out).bl.length = L := HL.out
      have HROW := Lib.hid hrow
      rw [List.length_map, hlen] at hlk
      clear htm u8 hrow hlen
      by_cases hneg : a2 < 0
      · have hro := read_out HHK.out HVF.out HL.out (.inl hneg)
        have hRE : RE = 1 := by rw [← HR2.out.1, hro]
        have hRT : RT = [] := by rw [← HR2.out.2, hro]
        clear hro
        subst hRE hRT
        rw [empty_bs]
        go_wp2_with fail
        go_ret
        exact ⟨rfl, HW0.out.trans HU8.out⟩
      · by_cases hge : (L : Int) ≤ a2
        · have hro := read_out HHK.out HVF.out HL.out (.inr hge)
          have hRE : RE = 1 := by rw [← HR2.out.1, hro]
          have hRT : RT = [] := by rw [← HR2.out.2, hro]
          clear hro
          subst hRE hRT
          rw [empty_bs]
          go_wp2_with fail
          go_ret
          exact ⟨rfl, HW0.out.trans HU8.out⟩
        · obtain ⟨j, rfl⟩ : ∃ j : Nat, a2 = (j : Int) := ⟨a2.toNat, by omega⟩
          have hjL : j < L := by omega
          have hjl : j < (s0.v[k]'HHK.out).bl.length := Nat.lt_of_lt_of_eq hjL HL.out.symm
          have hrd := read_get HG.out HHK.out HVF.out hjl
          have hRE : RE = 0 := by rw [← HR2.out.1, hrd]
          have hRT : RT = (txt s0.b ((s0.v[k]'HHK.out).bl[j])).drop 1 := by rw [← HR2.out.2, hrd]
          subst hRE
          have htl : 1 ≤ (txt s0.b ((s0.v[k]'HHK.out).bl[j])).length := by unfold txt; split <;> simp
          have hcell : (fl txC ((s0.v[k]'HHK.out).bl.map (txt s0.b)))[j]? = some (.string (bs (txt s0.b ((s0.v[k]'HHK.out).bl[j])))) := by
            have := fl_get txC_len ((s0.v[k]'HHK.out).bl.map (txt s0.b)) j (by rw [List.length_map]; exact hjl) 0 (by omega)
            rw [Nat.mul_one, Nat.add_zero, List.getElem_map] at this
            exact this
          have c9 := HROW.out.cell hcell
          generalize txt s0.b ((s0.v[k]'HHK.out).bl[j]) = T at *
          have hsl := from_bs T 1 1 rfl htl
          rw [hRT]
          clear hrd hRT hcell
          go_wp2_with fail
          go_ret
          exact ⟨by simp, HW0.out.trans HU8.out⟩
  · have hvf : vfind FP s0 n = (0, R) := by unfold vfind; rw [HR.out, if_pos hR0]
    have hBE : BE = R := by rw [← HB2.out.1]; unfold blocks; rw [hvf, if_pos hR0]
    have hBL : BL = [] := by rw [← HB2.out.2]; unfold blocks; rw [hvf, if_pos hR0]
    have hvl : vloc FP s0 n a2 = (0, R) := by unfold vloc; rw [hvf, if_pos hR0]
    have hRE : RE = R := by rw [← HR2.out.1]; unfold WoolVol.read; rw [hvl, if_pos hR0]
    have hRT : RT = [] := by rw [← HR2.out.2]; unfold WoolVol.read; rw [hvl, if_pos hR0]
    subst hBE hBL hRE hRT
    rw [empty_bs]
    clear hvf hvl
    go_wp2_with fail
    all_goals
      first
      | (exfalso; omega)
      | (go_ret; exact ⟨by simp, HW0.out.trans HU6.out⟩)

end Go.Proofs.YtldcaadbkcbdjaaDoor
