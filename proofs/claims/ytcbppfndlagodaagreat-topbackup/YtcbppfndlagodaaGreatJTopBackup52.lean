/-
  The law TopBackup: a clone that is written and copied back is what it was; where the trees differ the volumes do. Conditions: texts and a row of ints that a call can be handed.
-/
import Derived.Test.YtcbppfndlagodaaGreatJTopBackup51
import Derived.Deep.DeepCutAuto
import Derived.Deep.RegionHeld3
import Derived.Deep.RegionHeldLaw
namespace Go.Proofs.YtcbppfndlagodaaGreat
open Go.RowKit
open Go.Proofs
open WoolBag
open WoolVol

set_option maxRecDepth 100000 in
set_option maxHeartbeats 4000000 in
theorem topBackup_walk (a0 : ByteArray) (a1 : Option Addr) (len1 cap1 : Nat) (z1 : List Int) (a2 : ByteArray) (w : World) (w0 : a0.size ≤ 140737488351232) (w1 : IsRow .i64 w a1 len1 cap1 z1) (w2 : a2.size ≤ 140737488351232) :
    Calls Tryz.prog 3 #[.string a0, .slice a1 len1 cap1, .string a2] w fun e w' => e = .returned (.bool true) ∧ Up w w' := by
  obtain ⟨S, rfl⟩ : ∃ S, a0 = bs S := ⟨a0.data.toList, (bs_of a0).symm⟩
  obtain ⟨T, rfl⟩ : ∃ T, a2 = bs T := ⟨a2.data.toList, (bs_of a2).symm⟩
  clear w0 w2
  have HAT : Hid (∃ zs : List Int, zs.length = len1 ∧ len1 ≤ cap1 ∧ cap1 ≤ 9223372036854775807 ∧ (zs = [] ∨ ∃ b off, a1 = some ⟨b, off, none⟩ ∧ ∀ k (h : k < zs.length), w.cell? ⟨b, off + k, none⟩ = some (.int .i64 zs[k]))) := by
    obtain ⟨o, c, h1, h2, h3, h4⟩ := (row_seen w1).1
    simp only [Value.slice.injEq] at h1
    obtain ⟨rfl, h5, rfl⟩ := h1
    exact ⟨_, h5.symm, by omega, h3, h4⟩
  clear w1
  obtain ⟨zs, hzl, hc1, hc2, hat⟩ := HAT.out
  have HZL := Lib.hid hzl
  have HZ := Lib.hid hat
  clear hzl hat HAT
  have HB := Lib.hid (fun W => begunD_any W)
  have HAA : Hid (bs [97] = ⟨#[97]⟩) := rfl
  have HBB : Hid (bs [98] = ⟨#[98]⟩) := rfl
  have HS1 := Lib.hid (fun W => stored_any zeroV zeroS [97] S 0 W (Stat.zero W) good_zero (by simp) (fun i _ h => absurd h (by omega)))
  unfold StoPost zeroV at HS1
  rw [HAA.out] at HS1
  go_enter Tryz.func3, Tryz.ntmps3
  go_wp2_with fail
  refine (HB.out _).mono ?_
  rintro e x1 ⟨rfl, u1⟩
  go_wp2_with fail
  refine (HS1.out _).mono ?_
  rintro e w2 ⟨o1, n1, c1, o2, n2, c2, q, ok, rfl, u2, hok⟩
  have HU2 := Lib.hid (u1.trans u2)
  clear u1 u2
  cases ok with
  | false =>
    clear hok
    go_wp2_with fail
    refine (HB.out _).mono ?_
    rintro e w3 ⟨rfl, u3⟩
    have HU3 := Lib.hid ((HU2.out.trans (Up.alloc _ _)).trans u3)
    clear u3
    go_wp2_with fail
    go_ret
    exact ⟨rfl, HU3.out⟩
  | true =>
    obtain ⟨st1, hst1, hq, hq0, hq32, hnw, hsi⟩ := hok rfl
    obtain ⟨hS, va, hva, hnm, hbl, hld, hbg, hdn⟩ := ded1 hq hq0 hsi
    obtain ⟨hcE, htwo⟩ := two_clone hsi.good hva hnm hbl hdn
    have HHS := Lib.hid hS
    have HQ : Hid ((pcs S).length = q) := hq.symm
    have HQ0 := Lib.hid hq0
    have HCL := Lib.hid (fun W (hW : Up w2 W) => vclone_any _ st1 [97] [98] W (hst1.up hW) (good_wf hsi.good) (by simp))
    unfold RdEPost at HCL
    obtain ⟨⟨TS, TE⟩, hT⟩ : ∃ T, clone FP st1 [97] [98] = T := ⟨_, rfl⟩
    rw [hT] at hcE htwo HCL
    simp only at hcE htwo HCL
    subst hcE
    rw [HAA.out, HBB.out] at HCL
    have HTW := Lib.hid htwo
    clear hnw hok hst1 hsi hq hS hva hnm hbl hld hbg hdn htwo hT hq0
    go_upto_region 4 with (fail)
    have hal := Up.alloc w2 (.cells #[.slice o1 n1 c1, .slice o2 n2 c2] 27)
    have HX3 : Hid (RowC (w2.alloc (.cells #[.slice o1 n1 c1, .slice o2 n2 c2] 27)) w2.heap.size 27 [.slice o1 n1 c1, .slice o2 n2 c2]) := heap_alloc_new w2 _
    have HU3 := Lib.hid hal
    have HUW3 := Lib.hid (HU2.out.trans hal)
    have HXW : Hid (w.heap.size ≤ w2.heap.size) := HU2.out.size
    clear hal
    generalize w2.alloc (.cells #[.slice o1 n1 c1, .slice o2 n2 c2] 27) = W3 at HX3 HU3 HUW3 ⊢
    generalize w2.heap.size = X at HX3 HXW ⊢
    have k0 := HX3.out.cell (j := 0) rfl
    have k1 := HX3.out.cell (j := 1) rfl
    go_wp2_with fail
    refine (HCL.out _ HU3.out).mono ?_
    rintro e w4 ⟨v4, rfl, hs4, u4⟩
    obtain ⟨o3, c3, o4, c4, hv4⟩ := hs4.shape
    subst hv4
    obtain ⟨n3, hn3⟩ : ∃ n3, TS.b.length = n3 := ⟨_, rfl⟩
    obtain ⟨n4, hn4⟩ : ∃ n4, TS.v.length = n4 := ⟨_, rfl⟩
    rw [hn3, hn4] at hs4 ⊢
    have HX4 := Lib.hid (HX3.out.up u4)
    have r0 := HX4.out.frozen 0
    have r1 := HX4.out.frozen 1
    have r2 := HX4.out.cell (j := 0) rfl
    have r3 := HX4.out.cell (j := 1) rfl
    have HX5 := Lib.hid ((HX4.out.set 0 (.slice o3 n3 c3)).set 1 (.slice o4 n4 c4))
    have HS5 := Lib.hid (Stat.boxed (x := .slice o3 n3 c3) (y := .slice o4 n4 c4) hs4 HX4.out rfl rfl rfl)
    have HU5 := Lib.hid (up2 (x := .slice o3 n3 c3) (y := .slice o4 n4 c4) (HUW3.out.trans u4) HXW.out)
    clear hs4 u4 k0 k1 hn3 hn4
    go_upto_region 9 with (fail)
    clear r0 r1 r2 r3
    generalize (w4.setCell ⟨X, 0, none⟩ (.slice o3 n3 c3)).setCell ⟨X, 1, none⟩ (.slice o4 n4 c4) = W5 at HX5 HS5 HU5 ⊢
    have HST5 : Hid (BkLoop (pcs S) q X len1 w (.int .i64 0) W5) := ⟨0, TS, _, _, Nat.zero_le _, rfl, ⟨HX5.out, HS5.out, HTW.out, HU5.out⟩⟩
    clear HX4 HX3 HU3 HUW3 HCL HS1 HX5 HS5 HTW HU5
    go_wp2_with fail
    go_loopw [49] (fun i wr => BkLoop (pcs S) q X len1 w i wr) (fun i _ => len1 - (intOf i).toNat)
    case atStart => exact HST5.out
    case round =>
      obtain ⟨k, cur, x, y, hkm, rfl, hI⟩ := hrel
      have HI := Lib.hid hI
      obtain ⟨vbx, vvx, hag, hbx, hvx⟩ := hI.st
      simp at hag
      obtain ⟨rfl, rfl⟩ := hag
      obtain ⟨p5, d5, rfl, _⟩ := hbx.slice
      obtain ⟨p6, d6, rfl, _, _⟩ := hvx.slice
      obtain ⟨L5, hL5⟩ : ∃ L5, cur.b.length = L5 := ⟨_, rfl⟩
      obtain ⟨L6, hL6⟩ : ∃ L6, cur.v.length = L6 := ⟨_, rfl⟩
      rw [hL5, hL6] at HI
      have x0 := HI.out.row.cell (j := 0) rfl
      have x1 := HI.out.row.cell (j := 1) rfl
      clear hbx hvx hI hL5 hL6
      by_cases hlt : k < len1
      · have dz : decide (k < len1) = true := decide_eq_true hlt
        have hkz : k < zs.length := by rw [HZL.out]; exact hlt
        rcases HZ.out with h5 | ⟨b, off, rfl, h5⟩
        · rw [h5] at hkz; simp at hkz
        · have e1 := h5 k hkz
          rw [← HI.out.up.cell (World.block_lt_of_cell? w _ e1)] at e1
          obtain ⟨z, hz⟩ : ∃ z, zs[k] = z := ⟨_, rfl⟩
          rw [hz] at e1
          have hq01 := HQ0.out
          have HWI := Lib.hid (fun W => within_any z (q : Int) W (by omega) (by omega))
          obtain ⟨D, hD⟩ : ∃ D, within z (q : Int).toNat = D := ⟨_, rfl⟩
          rw [hD] at HWI
          have HWR := Lib.hid (fun W (hW : Up wr W) => write_any _ cur [98] T (D : Int) W (HI.out.st.up hW) (good_wf HI.out.two.good))
          have HTWO := Lib.hid (fun h0 => HI.out.two.write (t := T) (a := (D : Int)) h0)
          obtain ⟨R, hR⟩ : ∃ R, write FP cur [98] (D : Int) T = R := ⟨_, rfl⟩
          rw [hR] at HWR HTWO
          rw [HBB.out] at HWR
          unfold StEPost at HWR
          have HXwr : Hid (X < wr.heap.size) := HI.out.row.lt
          have hXr := HXwr.out
          clear h5 hz hD hR hkz hq01
          go_wp2_with fail
          go_cut [13, 14] from 50 to 65 (fun p e wx => BkMid X (.slice p5 L5 d5) (.slice p6 L6 d6) R wr p e wx)
          case first =>
            go_region_held3 (fun U => U.cell? ⟨X, 0, none⟩ = some (.slice p5 L5 d5) ∧ U.cell? ⟨X, 1, none⟩ = some (.slice p6 L6 d6)) (first | go_keep | (exact ⟨(World.cell?_setCell_far _ _ _ _ (by intro hh; simp only at hh; omega)).trans ((World.cell?_setCell_far _ _ _ _ (by intro hh; simp only at hh; omega)).trans s0), (World.cell?_setCell_far _ _ _ _ (by intro hh; simp only at hh; omega)).trans ((World.cell?_setCell_far _ _ _ _ (by intro hh; simp only at hh; omega)).trans s1)⟩)) (first
              | (go_at_call 8; ((with_reducible refine (HWI.out _).mono ?_); rintro e wz ⟨rfl, rfl⟩))
              | (go_at_call 7; ((with_reducible refine (HWR.out _ (by first | exact Up.drew _ | exact (Up.drew _).trans (Up.alloc _ _))).mono ?_); rintro e w5 ⟨v5, rfl, ho5, u5⟩; obtain ⟨o7, c7, o8, c8, hv5⟩ := ho5.stat.shape; subst hv5; have hs5 := ho5.stat; have hw5 : Up wr w5 := (by first | exact (Up.drew _).trans u5 | exact ((Up.drew _).trans (Up.alloc _ _)).trans u5); have s0 := (HI.out.row.up hw5).cell (j := 0) rfl; have s1 := (HI.out.row.up hw5).cell (j := 1) rfl; have hX5 := (HI.out.row.up hw5).lt; first | (have uu := u5; change Up (wr.drew.alloc (.cells #[.slice none 0 0, .slice none 0 0] 27)) w5 at uu; have hx2 : RowC w5 wr.heap.size 27 [.slice none 0 0, .slice none 0 0] := RowC.up (heap_alloc_new wr.drew _) uu; have p0 := hx2.cell (j := 0) rfl; have p1 := hx2.cell (j := 1) rfl; have p2 := hx2.frozen 0; have p3 := hx2.frozen 1) | skip)))
            all_goals
              go_wp2_with fail
              go_meet
              first
              | exact bkmidA (HI.out.row.up hw5) hx2 (by omega) hs5 rfl rfl rfl hw5 (Nat.le_refl _)
              | exact bkmidB (HI.out.row.up hw5) hs5 hw5
          case rest =>
            obtain ⟨Y, ya, yb, rfl, rfl, hne, hx, hy, hs, hu⟩ := hcut
            obtain ⟨o7, c7, o8, c8, hv⟩ := hs.shape
            simp at hv
            obtain ⟨rfl, rfl⟩ := hv
            obtain ⟨TS2, TE2⟩ := R
            simp only at hs HTWO ⊢
            obtain ⟨n7, hn7⟩ : ∃ n7, TS2.b.length = n7 := ⟨_, rfl⟩
            obtain ⟨n8, hn8⟩ : ∃ n8, TS2.v.length = n8 := ⟨_, rfl⟩
            rw [hn7, hn8] at hs hy
            have HXC := Lib.hid hx
            have HUC := Lib.hid hu
            have HSC := Lib.hid hs
            clear x0 x1 e1 hs hu hn7 hn8 HWI HWR
            by_cases hE : TE2 = 0
            · subst hE
              have y0 := hy.cell (j := 0) rfl
              have y1 := hy.cell (j := 1) rfl
              have z0 := hx.cell (j := 0) rfl
              have z1 := hx.cell (j := 1) rfl
              have z2 := hx.frozen 0
              have z3 := hx.frozen 1
              have HTW2 := Lib.hid (HTWO.out rfl)
              clear hx hy
              go_wp2_with fail
              go_roundw
              case rel => exact ⟨k + 1, TS2, _, _, by omega, by go_num, ⟨(HXC.out.set 0 _).set 1 _, Stat.boxed HSC.out HXC.out rfl rfl rfl, HTW2.out, up2 (HI.out.up.trans HUC.out) HXW.out⟩⟩
              case measure => simp only [intOf]; omega
            · have he : (TE2 == 0) = false := by rw [beq_eq_false_iff_ne]; exact hE
              clear hE hx hy
              go_wp2_with fail
              go_roundw
              case rel => exact ⟨k + 1, cur, _, _, by omega, by go_num, ⟨HXC.out, HI.out.st.up HUC.out, HI.out.two, HI.out.up.trans HUC.out⟩⟩
              case measure => simp only [intOf]; omega
      · have dz : decide (k < len1) = false := decide_eq_false hlt
        have hkl : k = len1 := by omega
        subst hkl
        have hln := HI.out.two.len
        obtain ⟨hbo, hdf⟩ := two_dif HI.out.two (by omega) (by omega)
        obtain ⟨hE0, hfo⟩ := two_found HI.out.two HQ0.out hq32
        obtain ⟨hcy, htc, hrd⟩ := two_copy HI.out.two HQ.out (pcs_64 HI.out.two HQ.out)
        have HDF := Lib.hid (fun W (hW : Up wr W) => diff_any _ cur [97] [98] W (HI.out.st.up hW) (good_wf HI.out.two.good))
        unfold DfPost at HDF
        have hdz : (difR cur [97] [98]).2 = 0 := by rw [hdf]
        obtain ⟨DL, hDL⟩ : ∃ DL, (difR cur [97] [98]).1 = DL := ⟨_, rfl⟩
        rw [hDL] at hfo hcy htc hrd
        rw [hdz, hDL, HAA.out, HBB.out] at HDF
        have HCP := Lib.hid (fun vz W (hW : Up wr W) (hz : Sl W 1 vz DL.length (inL DL)) => copy_any _ vz cur [97] [98] DL W (HI.out.st.up hW) (good_wf HI.out.two.good) hz)
        unfold RdEPost at HCP
        obtain ⟨⟨CS, CE⟩, hC⟩ : ∃ C, cpR cur [97] [98] DL = C := ⟨_, rfl⟩
        rw [hC] at HCP hcy htc hrd
        simp only at HCP hcy htc hrd
        subst hcy
        rw [HAA.out, HBB.out] at HCP
        have HTC := Lib.hid htc
        have HRD := Lib.hid hrd
        have HFO := Lib.hid hfo
        have HCM := Lib.hid (fun v1 v2 W h1 h2 => compareT_any v1 v2 (rdL cur 0 q) (rdL cur 1 q) W h1 h2)
        unfold CmpPost at HCM
        rw [hE0] at HCM
        obtain ⟨⟨FL, FN⟩, hF⟩ : ∃ F, cpV (rdL cur 0 q) (rdL cur 1 q) = F := ⟨_, rfl⟩
        rw [hF] at HCM HFO
        simp only at HCM HFO
        have HRA : Hid (∀ (j : Nat), j < q → ∀ W, Up wr W → Calls Tryz.prog 10 #[.agg #[.slice p5 L5 d5, .slice p6 L6 d6], .string ⟨#[97]⟩, .int .i64 (j : Int)] W fun e w' => e = .returned (.tuple #[.string (bs ((txAt cur 0 j).getD [])), .int .i64 0]) ∧ Up W w') := by
          intro j hj W hW
          have h9 := read_any _ cur [97] (j : Int) W (HI.out.st.up hW) (good_wf HI.out.two.good)
          unfold readVR at h9
          have hk : 0 < cur.v.length := by omega
          have hjb : j < cur.v[0].bl.length := by rw [HI.out.two.la hk]; exact hj
          rw [read_tx HI.out.two.good hk hjb (vloc_is HI.out.two.good hk HI.out.two.na hjb), HAA.out] at h9
          exact h9
        have HRB : Hid (∀ (j : Nat), j < q → ∀ W, Up wr W → Calls Tryz.prog 10 #[.agg #[.slice p5 L5 d5, .slice p6 L6 d6], .string ⟨#[98]⟩, .int .i64 (j : Int)] W fun e w' => e = .returned (.tuple #[.string (bs ((txAt cur 1 j).getD [])), .int .i64 0]) ∧ Up W w') := by
          intro j hj W hW
          have h9 := read_any _ cur [98] (j : Int) W (HI.out.st.up hW) (good_wf HI.out.two.good)
          unfold readVR at h9
          have hk : 1 < cur.v.length := by omega
          have hjb : j < cur.v[1].bl.length := by rw [HI.out.two.lb hk]; exact hj
          rw [read_tx HI.out.two.good hk hjb (vloc_is HI.out.two.good hk HI.out.two.nb hjb), HBB.out] at h9
          exact h9
        have HROW := Lib.hid HI.out.row
        have HUWR := Lib.hid HI.out.up
        obtain ⟨i0, hi', hz0, hz1, hz2⟩ := info_parts strInfoB
        have HI0 := Lib.hid hi'
        have HZ0 := Lib.hid hz0
        have HZ1 := Lib.hid hz1
        have HZ2 := Lib.hid hz2
        have HON : Hid (∀ x : List UInt8, ∀ u ∈ [Value.string (bs x)], u.oneCell' = true) := by
          intro x u hu
          simp at hu
          rw [hu]
          rfl
        clear hlt hkm HZ HZL hln hbo hdf hE0 hfo htc hrd hdz hDL hC hF HI hi' hz0 hz1 hz2
        go_wp2_with fail
        refine (HDF.out _ (Up.refl _)).mono ?_
        rintro e w6 ⟨v6, rfl, hi6, u6⟩
        obtain ⟨o6, c6, hv6, _⟩ := hi6.shape
        subst hv6
        have HI6 := Lib.hid hi6
        have HU6 := Lib.hid u6
        clear hi6 u6 x0 x1
        go_wp2_with fail
        go_loopw [16, 17, 74] (fun vp vq i wx => RdRel cur q w6 vp vq i wx) (fun _ _ i _ => q - (intOf i).toNat)
        case atStart => exact ⟨0, Nat.zero_le _, rfl, ⟨World.ownsRow_nil _ _ _ _, World.ownsRow_nil _ _ _ _, (fun g h => (by cases h)), Up.refl _⟩⟩
        case round =>
          obtain ⟨j, hj, rfl, htw⟩ := hrel
          have hp := htw.p
          have hq9 := htw.q
          rw [rdL_len] at hp hq9
          obtain ⟨oP, cP, hvp⟩ := own_slice hp
          obtain ⟨oQ, cQ, hvq⟩ := own_slice hq9
          subst hvp
          subst hvq
          have HTP := Lib.hid hp
          have HTQ := Lib.hid hq9
          have HTW := Lib.hid htw
          have HUX := Lib.hid (HU6.out.trans htw.up)
          have x0 := (HROW.out.up HUX.out).cell (j := 0) rfl
          have x1 := (HROW.out.up HUX.out).cell (j := 1) rfl
          clear hp hq9 htw
          by_cases hlt : j < q
          · have dz2 : decide (j < q) = true := decide_eq_true hlt
            have HRAJ := Lib.hid (HRA.out j hlt)
            have HRBJ := Lib.hid (HRB.out j hlt)
            have HSA := Lib.hid (rdL_succ cur 0 j)
            have HSB := Lib.hid (rdL_succ cur 1 j)
            have HLA := Lib.hid (rdL_len cur 0 j)
            have HLB := Lib.hid (rdL_len cur 1 j)
            obtain ⟨XA, hXA⟩ : ∃ XA, (txAt cur 0 j).getD [] = XA := ⟨_, rfl⟩
            obtain ⟨XB, hXB⟩ : ∃ XB, (txAt cur 1 j).getD [] = XB := ⟨_, rfl⟩
            rw [hXA] at HRAJ HSA
            rw [hXB] at HRBJ HSB
            clear hXA hXB
            go_wp2_with fail
            refine (HRAJ.out _ HUX.out).mono ?_
            rintro e w7 ⟨rfl, u7⟩
            have HU7 := Lib.hid u7
            have y0 := (HROW.out.up (HUX.out.trans u7)).cell (j := 0) rfl
            have y1 := (HROW.out.up (HUX.out.trans u7)).cell (j := 1) rfl
            clear u7
            go_wp2_with fail
            refine (HRBJ.out _ (HUX.out.trans HU7.out)).mono ?_
            rintro e w8 ⟨rfl, u8⟩
            have hu78 := HU7.out.trans u8
            have HTX : Hid (TwoTx w6 w8 (.slice oP j cP) (.slice oQ j cQ) (rdL cur 0 j) (rdL cur 1 j)) := ⟨own_upT HTW.out.p hu78, own_upT HTW.out.q hu78, HTW.out.ap, HTW.out.up.trans hu78⟩
            have HTP := Lib.hid (own_upT HTP.out hu78)
            have HTQ := Lib.hid (own_upT HTQ.out hu78)
            have HAP := Lib.hid HTX.out.ap
            have HU8 := Lib.hid HTX.out.up
            generalize rdL cur 0 j = P at HTX HTP HSA HLA HTW
            generalize rdL cur 1 j = Q at HTX HTQ HSB HLB HTW
            clear u8 hu78 y0 y1 x0 x1 HTW
            go_wp2_with (at_builtin; first
              | (refine wpList_append_lies _ rfl _ _ 37 rfl w6.heap.size 9 i0 (.string ⟨#[]⟩) 1 16 Tryz.underlying37 HI0.out HZ0.out HZ1.out HZ2.out rfl (by decide) (.slice oP j cP) j (fl txC P) rfl (World.ownsRow.alloc HTP.out _) ⟨w8.heap.size, 0, none⟩ 1 1 [.string (bs XA)] rfl rfl (cell_one_new _ _ _) (HON.out XA) (by omega) (by unfold maxLen; omega) (by omega) (HU8.out.trans (Up.alloc _ _)).size _ rfl ?_; intro gA cA wA hA hgA hatA hltA; have hqA := kept2 (World.ownsRow.alloc HTQ.out (.cells #[.string (bs XA)] 9)) hgA HAP.out; have hWA : Up w6 wA := Below.grown (HU8.out.trans (Up.alloc _ _)) hgA (HU8.out.trans (Up.alloc w8 (.cells #[.string (bs XA)] 9))).size (fun k hk => (World.ownsRow.lt HTP.out k hk).1))
              | (refine wpList_append_lies _ rfl _ _ 37 rfl w6.heap.size 9 i0 (.string ⟨#[]⟩) 1 16 Tryz.underlying37 HI0.out HZ0.out HZ1.out HZ2.out rfl (by decide) (.slice oQ j cQ) j (fl txC Q) rfl (World.ownsRow.alloc hqA _) ⟨wA.heap.size, 0, none⟩ 1 1 [.string (bs XB)] rfl rfl (cell_one_new _ _ _) (HON.out XB) (by omega) (by unfold maxLen; omega) (by omega) (hWA.trans (Up.alloc _ _)).size _ rfl ?_; intro gB cB wB hB hgB hatB hltB))
            have HTN := Lib.hid (twoTx_first HTX.out HLA.out HLB.out (Up.alloc w8 (.cells #[.string (bs XA)] 9)).size (HU8.out.trans (Up.alloc _ _)) hA hgA hatA hltA (Up.alloc wA (.cells #[.string (bs XB)] 9)) hB hgB hatB)
            rw [← HSA.out, ← HSB.out] at HTN
            clear hA hgA hatA hltA hB hgB hatB hltB hqA hWA
            go_wp2_with fail
            go_roundw
            case rel => exact ⟨j + 1, by omega, by go_num, HTN.out⟩
            case measure => simp only [intOf]; omega
          · have dz2 : decide (j < q) = false := decide_eq_false hlt
            have hjq : q = j := by omega
            subst hjq
            clear hlt hj
            have HT1 : Hid (Txs _ _ _) := Sl.of_own HTW.out.p
            have HT2 : Hid (Txs _ _ _) := Sl.of_own HTW.out.q
            have HUT := Lib.hid HTW.out.up
            clear x0 x1 HTW
            go_wp2_with fail
            refine (HCM.out _ _ _ HT1.out HT2.out).mono ?_
            rintro e w9 ⟨v9, rfl, hf9, u9⟩
            obtain ⟨o9, c9, hv9⟩ := hf9.shape
            subst hv9
            have HF9 := Lib.hid hf9
            have HU9 := Lib.hid (HUT.out.trans u9)
            clear hf9 u9
            go_wp2_with fail
            go_loopw [109] (fun i wx => FdRel FL.length w9 i wx) (fun i _ => FL.length - (intOf i).toNat)
            case atStart => exact ⟨0, Nat.zero_le _, rfl, Up.refl _⟩
            case round =>
              obtain ⟨i, hil, rfl, hu⟩ := hrel
              have HUF := Lib.hid hu
              by_cases hlt2 : i < FL.length
              · have dz3 : decide (i < FL.length) = true := decide_eq_true hlt2
                obtain ⟨g9, d9, hvg, _, _, hcg, hcg'⟩ := HF9.out.block (by omega)
                simp only [Value.slice.injEq] at hvg
                obtain ⟨rfl, _, rfl⟩ := hvg
                have e1 := HF9.out.cell i hlt2
                rw [← hu.cell (World.block_lt_of_cell? w9 _ e1)] at e1
                obtain ⟨z, hz⟩ : ∃ z, FL[i] = z := ⟨_, rfl⟩
                have hct := HFO.out FL[i] (List.getElem_mem hlt2)
                rw [hz] at e1 hct
                have HCT : Hid (∀ W, Up w6 W → Calls Tryz.prog 12 #[.slice o6 DL.length c6, .int .i64 (z : Int)] W fun e w' => e = .returned (.bool true) ∧ Up W w') := by
                  intro W hW
                  have h9 := containsInt _ _ DL (z : Int) W (HI6.out.up hW)
                  rw [hct] at h9
                  exact h9
                unfold maxLen at hcg'
                clear hu hz hct
                go_wp2_with fail
                refine (HCT.out _ (HU9.out.trans HUF.out)).mono ?_
                rintro e w10 ⟨rfl, u10⟩
                have HU10 := Lib.hid u10
                clear u10
                go_wp2_with fail
                go_roundw
                case rel => exact ⟨i + 1, by omega, by go_num, HUF.out.trans HU10.out⟩
                case measure => simp only [intOf]; omega
              · have dz3 : decide (i < FL.length) = false := decide_eq_false hlt2
                have HUY := Lib.hid ((HU6.out.trans HU9.out).trans HUF.out)
                have HIY := Lib.hid (HI6.out.up (HU9.out.trans HUF.out))
                have x0 := (HROW.out.up HUY.out).cell (j := 0) rfl
                have x1 := (HROW.out.up HUY.out).cell (j := 1) rfl
                clear hlt2 hil hu
                go_wp2_with fail
                refine (HCP.out _ _ HUY.out (Sl.of_own HIY.out)).mono ?_
                rintro e w11 ⟨v11, rfl, hs11, u11⟩
                obtain ⟨o12, c12, o13, c13, hv11⟩ := hs11.shape
                subst hv11
                obtain ⟨n12, hn12⟩ : ∃ n12, CS.b.length = n12 := ⟨_, rfl⟩
                obtain ⟨n13, hn13⟩ : ∃ n13, CS.v.length = n13 := ⟨_, rfl⟩
                rw [hn12, hn13] at hs11 ⊢
                have HS11 := Lib.hid hs11
                have HUW11 := Lib.hid ((HUWR.out.trans HUY.out).trans u11)
                clear hs11 u11 hn12 hn13 x0 x1
                go_upto_region 37 with (fail)
                have HX12 : Hid (RowC (w11.alloc (.cells #[.slice o12 n12 c12, .slice o13 n13 c13] 27)) w11.heap.size 27 [.slice o12 n12 c12, .slice o13 n13 c13]) := heap_alloc_new w11 _
                have HS12 := Lib.hid (HS11.out.up (Up.alloc w11 (.cells #[.slice o12 n12 c12, .slice o13 n13 c13] 27)))
                have HUW12 := Lib.hid (HUW11.out.trans (Up.alloc w11 (.cells #[.slice o12 n12 c12, .slice o13 n13 c13] 27)))
                generalize w11.alloc (.cells #[.slice o12 n12 c12, .slice o13 n13 c13] 27) = W12 at HX12 HS12 HUW12 ⊢
                generalize w11.heap.size = X12 at HX12 ⊢
                have HLB : Hid (∀ W, Up W12 W → Calls Tryz.prog 14 #[.agg #[.slice o12 n12 c12, .slice o13 n13 c13], .string ⟨#[98]⟩, .int .i64 (q : Int)] W fun e w' => e = .returned (.string (bs S)) ∧ Up W w') := by
                  intro W hW
                  have hl2 := HTC.out.len
                  have h9 := loaded_any _ CS [98] 1 q W (HS12.out.up hW) HTC.out.good HTC.out.nb (by omega) (HTC.out.lb (by omega)) hq32
                  rw [two_read HHS.out HQ.out HRD.out, HBB.out] at h9
                  exact h9
                have HLA : Hid (∀ W, Up W12 W → Calls Tryz.prog 14 #[.agg #[.slice o12 n12 c12, .slice o13 n13 c13], .string ⟨#[97]⟩, .int .i64 (q : Int)] W fun e w' => e = .returned (.string (bs S)) ∧ Up W w') := by
                  intro W hW
                  have hl2 := HTC.out.len
                  have h9 := loaded_any _ CS [97] 0 q W (HS12.out.up hW) HTC.out.good HTC.out.na (by omega) (HTC.out.la (by omega)) hq32
                  rw [two_read HHS.out HQ.out HTC.out.txt, HAA.out] at h9
                  exact h9
                have k0 := HX12.out.cell (j := 0) rfl
                have k1 := HX12.out.cell (j := 1) rfl
                go_wp2_with fail
                refine (HLB.out _ (Up.refl _)).mono ?_
                rintro e w13 ⟨rfl, u13⟩
                have HU13 := Lib.hid u13
                have HX13 := Lib.hid (HX12.out.up u13)
                clear u13 k0 k1
                have k0 := HX13.out.cell (j := 0) rfl
                have k1 := HX13.out.cell (j := 1) rfl
                go_wp2_with fail
                refine (HLA.out _ HU13.out).mono ?_
                rintro e w14 ⟨rfl, u14⟩
                have HU14 := Lib.hid (HUW12.out.trans (HU13.out.trans u14))
                clear u14 k0 k1
                go_wp2_with fail
                go_ret
                exact ⟨rfl, HU14.out⟩

end Go.Proofs.YtcbppfndlagodaaGreat
