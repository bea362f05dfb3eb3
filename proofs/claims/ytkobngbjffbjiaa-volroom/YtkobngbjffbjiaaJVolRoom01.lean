/-
  The law VolRoom: there are no more blocks than unlike texts. Conditions: a slice of deeds that reads as deeds.
-/
import Derived.Test.YtkobngbjffbjiaaJB42
import Derived.Test.YtkobngbjffbjiaaJB43
import Derived.Deep.DeepCutAuto
import Derived.Deep.RegionHeld3
namespace Go.Proofs.Ytkobngbjffbjiaa
open Go.RowKit
open Go.Proofs
open WoolBag
open WoolVol

def RoomRel (st : Sta) (base n : Nat) (W : World) (a i : Value) (wr : World) : Prop := ∃ k : Nat, k ≤ n ∧ i = .int .i64 (k : Int) ∧ wr.ownsRow base 9 1 a (roomAt st k 0).length (fl txC (roomAt st k 0)) ∧ Up W wr
def RoomIn (st : Sta) (base k L Q : Nat) (R : List Value) (W : World) (a i : Value) (wr : World) : Prop := ∃ p : Nat, p ≤ L ∧ i = .int .i64 (p : Int) ∧ wr.ownsRow base 9 1 a (roomAt st k p).length (fl txC (roomAt st k p)) ∧ RowC wr Q 31 R ∧ Up W wr
theorem strVolR : (9 : Nat) ≠ 31 := by decide

set_option maxRecDepth 100000 in
set_option maxHeartbeats 4000000 in
theorem volRoom_walk (a0 : Option Addr) (len0 cap0 : Nat) (z0 : List Opn) (w : World) (w0 : Ops w (.slice a0 len0 cap0) z0) :
    Calls Try.prog 6 #[.slice a0 len0 cap0] w fun e w' => e = .returned (.bool true) ∧ Up w w' := by
  have HBG := Lib.hid (fun W => begun_any W)
  go_enter Try.func6, Try.ntmps6
  go_wp2_with fail
  refine (HBG.out _).mono ?_
  rintro e w1 ⟨rfl, u1⟩
  have HU := Lib.hid u1
  have HC := Lib.hid (MdO.of (made_any _ z0 w1 (Ops.up w0 u1)))
  have HG := Lib.hid (madeO_good (F := FP) z0)
  clear u1 HBG
  generalize madeO FP z0 = ST at HC HG
  go_wp2_with fail
  refine HC.out.mono ?_
  clear HC
  rintro e w2 ⟨osa, csa, osb, csb, rfl, hs, hu⟩
  obtain ⟨nsa, hna⟩ : ∃ m, ST.b.length = m := ⟨_, rfl⟩
  obtain ⟨nsb, hnb⟩ : ∃ m, ST.v.length = m := ⟨_, rfl⟩
  rw [hna, hnb] at hs ⊢
  have hb := BoxS.new hs hna hnb
  have hv := hu.trans (Up.alloc w2 (.cells #[.slice osa nsa csa, .slice osb nsb csb] 27))
  clear hu hs hna hnb
  go_upto_region 4 with (fail)
  replace HU := Lib.hid (HU.out.trans hv)
  clear hv
  have HBs := Lib.hid hb
  clear hb
  generalize w2.alloc (.cells #[.slice osa nsa csa, .slice osb nsb csb] 27) = W2 at HBs HU ⊢
  generalize w2.heap.size = Xs at HBs ⊢
  have HV := Lib.hid HBs.out.vols
  have HE2 := Lib.hid HBs.out.e2
  have HE1 := Lib.hid HBs.out.e1
  have h6 : nsb ≤ 6 := by rw [← HBs.out.e2]; exact HG.out.len
  have ks0 := HBs.out.k0
  have ks1 := HBs.out.k1
  have hcv : nsb ≤ csb ∧ csb ≤ maxLen := by obtain ⟨_, _, h1, h2, h3⟩ := HV.out.slice; simp at h1; obtain ⟨_, h4, rfl⟩ := h1; exact ⟨by omega, h3⟩
  unfold maxLen at hcv
  obtain ⟨hcv1, hcv2⟩ := hcv
  obtain ⟨i0, hi', hz0, hz1, hz2⟩ := info_parts strInfoG
  have HI0 := Lib.hid hi'
  have HZ0 := Lib.hid hz0
  have HZ1 := Lib.hid hz1
  have HZ2 := Lib.hid hz2
  have HON : Hid (∀ x : List UInt8, ∀ u ∈ [Value.string (bs x)], u.oneCell' = true) := by
    intro x u hu
    simp at hu
    rw [hu]
    rfl
  clear hi' hz0 hz1 hz2
  go_wp2_with fail
  go_loopw [4, 18] (fun a i wr => RoomRel ST W2.heap.size nsb W2 a i wr) (fun _ i _ => nsb - (intOf i).toNat)
  case atStart => exact ⟨0, Nat.zero_le _, rfl, by rw [room_zero]; exact World.ownsRow_nil _ _ _ _, Up.refl _⟩
  case round =>
    obtain ⟨k, hkn, rfl, ho, hu⟩ := hrel
    obtain ⟨oa, ca, hva⟩ := own_slice ho
    subst hva
    have HO := Lib.hid ho
    have HUR := Lib.hid hu
    by_cases hlt : k < nsb
    · have dz : decide (k < nsb) = true := decide_eq_true hlt
      have hkl : k < ST.v.length := by rw [HE2.out]; exact hlt
      obtain ⟨b, off, rfl, hat⟩ := HV.out.at (fun e => by rw [e] at hkl; simp at hkl)
      obtain ⟨e1, u, e2, hi⟩ := hat k hkl
      rw [← hu.cell (World.block_lt_of_cell? W2 _ e1)] at e1
      rw [← hu.cell (World.block_lt_of_cell? W2 _ e2)] at e2
      obtain ⟨oi, ci, rfl, hi1, hi2⟩ := hi.slice
      have HI := Lib.hid hi
      have HVX := Lib.hid (vix_nm HG.out hkl)
      obtain ⟨NM, hNM⟩ : ∃ NM, ST.v[k].nm = NM := ⟨_, rfl⟩
      rw [hNM] at e1 HVX
      obtain ⟨L, hL⟩ : ∃ L, ST.v[k].bl.length = L := ⟨_, rfl⟩
      have HLL := Lib.hid hL
      rw [hL] at e2 hi1 HI
      have HKL := Lib.hid hkl
      have HNX := Lib.hid (room_next hkl)
      rw [hL] at HNX
      unfold maxLen at hi2
      clear hat hi hu hL ho hNM
      go_upto_region 8 with (fail)
      have HZ : Hid (RowC (wr.alloc (.cells #[.string (bs NM), .slice oi L ci] 31)) wr.heap.size 31 [.string (bs NM), .slice oi L ci]) := heap_alloc_new wr _
      have HZU := Lib.hid (HUR.out.trans (Up.alloc wr (.cells #[.string (bs NM), .slice oi L ci] 31)))
      have HOZ := Lib.hid (own_upT HO.out (Up.alloc wr (.cells #[.string (bs NM), .slice oi L ci] 31)))
      generalize wr.alloc (.cells #[.string (bs NM), .slice oi L ci] 31) = WA at HZ HZU HOZ ⊢
      generalize wr.heap.size = Q at HZ ⊢
      have z1 := HZ.out.cell (j := 1) rfl
      clear e1 e2 ks0 ks1
      go_wp2_with fail
      go_loopw [4, 25] (fun a i wx => RoomIn ST W2.heap.size k L Q [.string (bs NM), .slice oi L ci] W2 a i wx) (fun _ i _ => L - (intOf i).toNat)
      case atStart => exact ⟨0, Nat.zero_le _, rfl, HOZ.out, HZ.out, HZU.out⟩
      case round =>
        obtain ⟨p, hpn, rfl, ho2, hz2', hu2⟩ := hrel
        have HZX := Lib.hid hz2'
        clear hz2'
        obtain ⟨WX, hWX⟩ : ∃ WX, WX = wr := ⟨_, rfl⟩
        subst hWX
        obtain ⟨ox, cx, hvx⟩ := own_slice ho2
        subst hvx
        have HOX := Lib.hid ho2
        have HUX := Lib.hid hu2
        clear z1
        by_cases hlp : p < L
        · have dp : decide (p < L) = true := decide_eq_true hlp
          have hpl : p < (ST.v[k]'HKL.out).bl.length := by rw [HLL.out]; exact hlp
          obtain ⟨bi, fi, rfl, hti⟩ := (HI.out.up hu2).at (fun e => by rw [e] at hpl; simp at hpl)
          obtain ⟨f0, f1, f2⟩ := hti p hpl
          have HRD := Lib.hid (fun W (hW : Up W2 W) => read_any _ ST NM (p : Int) W (HBs.out.up hW).st (good_wf HG.out))
          unfold readVR at HRD
          rw [read_of HG.out HKL.out HVX.out hpl] at HRD
          have hrl := room_le HG.out (i := p) HKL.out
          have hst : roomAt ST k (p + 1) = if (ST.v[k]'HKL.out).bl[p].1 = true then addT (roomAt ST k p) ((txAt ST k p).getD []) else roomAt ST k p := by
            split
            · rename_i h; exact room_step HG.out HKL.out hpl h
            · rename_i h; exact room_hole HKL.out hpl (by simpa using h)
          obtain ⟨T, hT⟩ : ∃ T, (txAt ST k p).getD [] = T := ⟨_, rfl⟩
          rw [hT] at hst HRD
          simp only at HRD
          generalize (ST.v[k]'HKL.out).bl[p].1 = B at f0 hst
          generalize (ST.v[k]'HKL.out).bl[p].2.1 = I1 at f1
          generalize (ST.v[k]'HKL.out).bl[p].2.2 = I2 at f2
          have HST := Lib.hid hst
          obtain ⟨RM, hRM⟩ : ∃ RM, roomAt ST k p = RM := ⟨_, rfl⟩
          rw [hRM] at HST hrl HOX ⊢
          clear hti hst hu2 hT hpl ho2 hRM
          go_upto_region 11 with (fail)
          have HD : Hid (RowC (WX.alloc (.cells #[.bool B, .int .i64 I1, .int .i64 I2] 33)) WX.heap.size 33 [.bool B, .int .i64 I1, .int .i64 I2]) := heap_alloc_new WX _
          have HZD := Lib.hid (HZX.out.up (Up.alloc WX (.cells #[.bool B, .int .i64 I1, .int .i64 I2] 33)))
          have HDU := Lib.hid (HUX.out.trans (Up.alloc WX (.cells #[.bool B, .int .i64 I1, .int .i64 I2] 33)))
          have HOD := Lib.hid (own_upT HOX.out (Up.alloc WX (.cells #[.bool B, .int .i64 I1, .int .i64 I2] 33)))
          generalize WX.alloc (.cells #[.bool B, .int .i64 I1, .int .i64 I2] 33) = WD at HD HDU HOD HZD ⊢
          generalize WX.heap.size = Q2 at HD ⊢
          clear f0 f1 f2
          have z0 := HZD.out.cell (j := 0) rfl
          have ks0 := (HBs.out.up HDU.out).k0
          have ks1 := (HBs.out.up HDU.out).k1
          go_wp2_with fail
          refine (HRD.out _ HDU.out).mono ?_
          rintro e w8 ⟨rfl, u8⟩
          have HD8 := Lib.hid (HD.out.up u8)
          have HO8 := Lib.hid (own_upT HOD.out u8)
          have HZ8 := Lib.hid (HZD.out.up u8)
          have HU8 := Lib.hid (HDU.out.trans u8)
          clear u8 z0 ks0 ks1
          have d0 := HD8.out.cell (j := 0) rfl
          cases B with
          | false =>
            go_wp2_with fail
            go_roundw
            case rel => exact ⟨p + 1, by omega, by go_num, by rw [HST.out]; exact HO8.out, HZ8.out, HU8.out⟩
            case measure => simp only [intOf]; omega
          | true =>
            have HCT := Lib.hid (containsT_any _ RM T w8 (Sl.of_own HO8.out))
            cases hc : RM.contains T with
            | true =>
              rw [hc] at HCT
              have HST2 : Hid (roomAt ST k (p + 1) = RM) := by show _ = _; rw [HST.out, if_pos rfl]; unfold addT; rw [hc, if_pos rfl]
              clear hc
              go_wp2_with fail
              refine HCT.out.mono ?_
              rintro e w9 ⟨rfl, u9⟩
              have HO9 := Lib.hid (own_upT HO8.out u9)
              have HZ9 := Lib.hid (HZ8.out.up u9)
              have HU9 := Lib.hid (HU8.out.trans u9)
              clear u9 d0
              go_wp2_with fail
              go_roundw
              case rel => exact ⟨p + 1, by omega, by go_num, by rw [HST2.out]; exact HO9.out, HZ9.out, HU9.out⟩
              case measure => simp only [intOf]; omega
            | false =>
              rw [hc] at HCT
              have HST2 : Hid (roomAt ST k (p + 1) = RM ++ [T]) := by show _ = _; rw [HST.out, if_pos rfl]; unfold addT; rw [hc, if_neg (by simp)]
              clear hc
              go_wp2_with fail
              refine HCT.out.mono ?_
              rintro e w9 ⟨rfl, u9⟩
              have HO9 := Lib.hid (own_upT HO8.out u9)
              have HZ9 := Lib.hid (HZ8.out.up u9)
              have HU9 := Lib.hid (HU8.out.trans u9)
              have HB9 : Hid (W2.heap.size ≤ w9.heap.size) := HU9.out.size
              clear u9 d0
              obtain ⟨RL, hRL⟩ : ∃ RL, RM.length = RL := ⟨_, rfl⟩
              rw [hRL] at hrl HO9 ⊢
              have HRL := Lib.hid hRL
              clear hRL
              go_wp2_with (at_builtin; (refine wpList_append_lies _ rfl _ _ 46 rfl W2.heap.size 9 i0 (.string ⟨#[]⟩) 1 16 Try.underlying46 HI0.out HZ0.out HZ1.out HZ2.out rfl (by decide) (.slice ox RL cx) RL (fl txC RM) rfl (World.ownsRow.alloc HO9.out _) ⟨w9.heap.size, 0, none⟩ 1 1 [.string (bs T)] rfl rfl (cell_one_new _ _ _) (HON.out T) (by omega) (by unfold maxLen; omega) (by omega) (Nat.le_trans HB9.out (Up.alloc _ _).size) _ rfl ?_; intro gA cA wA hA hgA hatA hltA))
              have HA : Hid (wA.ownsRow W2.heap.size 9 1 (.slice (some ⟨gA, 0, none⟩) (RL + 1) cA) (roomAt ST k (p + 1)).length (fl txC (roomAt ST k (p + 1)))) := by
                show World.ownsRow _ _ _ _ _ _ _
                rw [HST2.out, fl_append, List.length_append, HRL.out]
                exact hA
              have HUA := Lib.hid (Below.grown (HU9.out.trans (Up.alloc _ _)) hgA (HU9.out.trans (Up.alloc w9 (.cells #[.string (bs T)] 9))).size (fun k hk => (World.ownsRow.lt HO9.out k hk).1))
              have HZA := Lib.hid ((HZ9.out.up (Up.alloc w9 (.cells #[.string (bs T)] 9))).kept hgA (RowC.notOwn HZ9.out HO9.out strVolR))
              clear hA hgA hatA hltA
              go_wp2_with fail
              go_roundw
              case rel => exact ⟨p + 1, by omega, by go_num, HA.out, HZA.out, HUA.out⟩
              case measure => simp only [intOf]; omega
        · have dp : decide (p < L) = false := decide_eq_false hlp
          have hpl : p = L := by omega
          subst hpl
          clear hlp hpn hu2 ho2
          go_wp2_with fail
          go_roundw
          case rel => exact ⟨k + 1, by omega, by go_num, by rw [HNX.out]; exact HOX.out, HUX.out⟩
          case measure => simp only [intOf]; omega
    · have dz : decide (k < nsb) = false := decide_eq_false hlt
      have hk9 : k = ST.v.length := by rw [HE2.out]; omega
      have hse : (roomAt ST k 0).length = nsa := by rw [hk9, room_end HG.out]; exact HE1.out
      rw [hse]
      have hnn : ((nsa : Int) == (nsa : Int)) = true := by simp
      have k0 := (HBs.out.up hu).k0
      have k1 := (HBs.out.up hu).k1
      clear ks0 ks1 hse hk9 hlt hkn hu ho
      go_wp2_with fail
      go_ret
      exact ⟨rfl, HU.out.trans HUR.out⟩

end Go.Proofs.Ytkobngbjffbjiaa
