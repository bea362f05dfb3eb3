/-
  The law VolNew: a new volume has so many holes, and takes no room. Conditions: a slice of deeds that reads as deeds.
-/
import Derived.Test.YtkobngbjffbjiaaJB42
import Derived.Deep.DeepCutAuto
import Derived.Deep.RegionHeld3
namespace Go.Proofs.Ytkobngbjffbjiaa
open Go.RowKit
open Go.Proofs
open WoolBag
open WoolVol

def NewRel (m : Nat) (w : World) (i : Value) (wr : World) : Prop :=
  ∃ j : Nat, i = .int .i64 (j : Int) ∧ j ≤ m ∧ Up w wr

set_option maxRecDepth 100000 in
set_option maxHeartbeats 4000000 in
theorem volNew_walk (a0 : Option Addr) (len0 cap0 : Nat) (z0 : List Opn) (a1 : ByteArray) (a2 : Int) (w : World) (w0 : Ops w (.slice a0 len0 cap0) z0) (w1 : a1.size ≤ 140737488351232) (_ : (Lit.int .i64 a2).wf = true) :
    Calls Try.prog 10 #[.slice a0 len0 cap0, .string a1, .int .i64 a2] w fun e w' => e = .returned (.bool true) ∧ Up w w' := by
  have hla : a1.data.toList.length ≤ 9223372036854775807 := by rw [ba_length]; omega
  obtain ⟨A, rfl⟩ : ∃ A, a1 = bs A := ⟨a1.data.toList, (bs_of a1).symm⟩
  rw [bs_list] at hla
  have HLA := Lib.hid hla
  clear hla w1
  have HBG := Lib.hid (fun W => begun_any W)
  go_enter Try.func10, Try.ntmps10
  go_wp2_with fail
  refine (HBG.out _).mono ?_
  rintro e w1 ⟨rfl, u1⟩
  have HU := Lib.hid u1
  have HC := Lib.hid (MdO.of (made_any _ z0 w1 (Ops.up w0 u1)))
  have HG := Lib.hid (madeO_good (F := FP) z0)
  clear u1 HBG
  generalize madeO FP z0 = ST at HC HG
  go_wp2_with fail
  refine HC.out.mono ?_
  clear HC
  rintro e w2 ⟨osa, csa, osb, csb, rfl, hs, hu⟩
  obtain ⟨nsa, hna⟩ : ∃ m, ST.b.length = m := ⟨_, rfl⟩
  obtain ⟨nsb, hnb⟩ : ∃ m, ST.v.length = m := ⟨_, rfl⟩
  rw [hna, hnb] at hs ⊢
  have hb := BoxS.new hs hna hnb
  have hv := hu.trans (Up.alloc w2 (.cells #[.slice osa nsa csa, .slice osb nsb csb] 27))
  clear hu hs hna hnb
  go_upto_region 4 with (fail)
  replace HU := Lib.hid (HU.out.trans hv)
  clear hv
  have HBs := Lib.hid hb
  clear hb
  generalize w2.alloc (.cells #[.slice osa nsa csa, .slice osb nsb csb] 27) = W2 at HBs HU ⊢
  generalize w2.heap.size = Xs at HBs ⊢
  obtain ⟨⟨TSx, TEx⟩, hR⟩ : ∃ R, make FP ST A a2 = R := ⟨_, rfl⟩
  have HRx := Lib.hid hR
  clear hR
  have HGx := Lib.hid (make_goodA (F := FP) ST A a2)
  rw [HRx.out] at HGx
  simp only at HGx
  have HC := Lib.hid (StO.ow (make_own _ ST A a2 W2 HBs.out.st (good_wf HG.out) HLA.out))
  rw [HRx.out] at HC
  have ks0 := HBs.out.k0
  have ks1 := HBs.out.k1
  go_wp2_with fail
  refine HC.out.mono ?_
  clear HC
  rintro e w3 ⟨oxa, cxa, oxb, cxb, rfl, hs, hu⟩
  simp only at hs ⊢
  clear ks0 ks1
  obtain ⟨nxa, hna⟩ : ∃ m, TSx.b.length = m := ⟨_, rfl⟩
  obtain ⟨nxb, hnb⟩ : ∃ m, TSx.v.length = m := ⟨_, rfl⟩
  rw [hna, hnb] at hs ⊢
  have hb := BoxS.new hs hna hnb
  have hv := hu.trans (Up.alloc w3 (.cells #[.slice oxa nxa cxa, .slice oxb nxb cxb] 27))
  clear hu hs hna hnb
  go_upto_region 5 with (fail)
  replace HBs := Lib.hid (HBs.out.up hv)
  replace HU := Lib.hid (HU.out.trans hv)
  clear hv
  have HBx := Lib.hid hb
  clear hb
  generalize w3.alloc (.cells #[.slice oxa nxa cxa, .slice oxb nxb cxb] 27) = W4 at HBs HBx   HU ⊢
  generalize w3.heap.size = Xx at HBx  ⊢
  by_cases hE : TEx = 0
  · subst hE
    obtain ⟨m, rfl, hm32, hbl, hbb, hvv, hrd⟩ := law_new (F := FP) (st := ST) (s := A) (n := a2) (by rw [HRx.out])
    rw [HRx.out] at hbl hbb hvv hrd
    simp only at hbl hbb hvv hrd
    have q1 : nxa = nsa := by rw [← HBx.out.e1, ← HBs.out.e1]; exact hbb
    have q2 : nxb = nsb + 1 := by rw [← HBx.out.e2, ← HBs.out.e2]; exact hvv
    subst q1 q2
    have h6 : nsb ≤ 6 := by rw [← HBs.out.e2]; exact HG.out.len
    have HRD := Lib.hid hrd
    clear HRx hbb hvv hrd
    have HC := Lib.hid (IdO.of (blocks_any _ TSx A W4 HBx.out.st (good_wf HGx.out)))
    unfold IdO at HC
    rw [hbl] at HC
    simp only [List.length_replicate] at HC
    clear hbl
    have kx0 := HBx.out.k0
    have kx1 := HBx.out.k1
    go_wp2_with fail
    refine HC.out.mono ?_
    clear HC
    rintro e w5 ⟨oi, ci, rfl, hi, hci, hu⟩
    clear kx0 kx1
    have HI := Lib.hid hi
    unfold maxLen at hci
    clear hi
    replace HBs := Lib.hid (HBs.out.up hu)
    replace HBx := Lib.hid (HBx.out.up hu)
    replace HU := Lib.hid (HU.out.trans hu)
    clear hu
    have hmw : ((m : Int) != (m : Int)) = false := by simp
    have hmi : wrap64 ((nsb : Int) + 1) = (nsb : Int) + 1 := by unfold wrap64; omega
    have ks0 := HBs.out.k0
    have ks1 := HBs.out.k1
    have kx0 := HBx.out.k0
    have kx1 := HBx.out.k1
    have hc1 : m ≤ ci := by obtain ⟨_, c9, h1, h2, _⟩ := HI.out.slice; rw [List.length_replicate] at h2; simp at h1; omega
    go_wp2_with fail
    go_loopw [67] (fun i wr => NewRel m w5 i wr) (fun i _ => m - (intOf i).toNat)
    case atStart => exact ⟨0, rfl, Nat.zero_le _, Up.refl _⟩
    case round =>
      obtain ⟨j, rfl, hj, hu⟩ := hrel
      have HUX := Lib.hid hu
      have x0 := (HBx.out.up hu).k0
      have x1 := (HBx.out.up hu).k1
      by_cases hlt : j < m
      · have dz : decide (j < m) = true := decide_eq_true hlt
        obtain ⟨b, off, rfl, hat⟩ := (HI.out.up hu).at (by intro e; have := congrArg List.length e; simp at this; omega)
        obtain ⟨e0, e1, e2⟩ := hat j (by simpa using hlt)
        simp only [List.getElem_replicate] at e0 e1 e2
        have HC := Lib.hid (fun W (hW : Up wr W) => read_any _ TSx A (j : Int) W ((HBx.out.up hu).st.up hW) (good_wf HGx.out))
        unfold readVR at HC
        rw [HRD.out j hlt] at HC
        simp only at HC
        have het := empty_txt
        clear hat hu
        unfold noId at e0 e1 e2
        simp only at e0 e1 e2
        clear x0 x1
        go_upto_region 13 with (fail)
        have HZ : Hid (RowC (wr.alloc (.cells #[.bool false, .int .i64 0, .int .i64 0] 33)) wr.heap.size 33 [.bool false, .int .i64 0, .int .i64 0]) := heap_alloc_new wr _
        have HZU := Lib.hid (Up.alloc wr (.cells #[.bool false, .int .i64 0, .int .i64 0] 33))
        generalize wr.alloc (.cells #[.bool false, .int .i64 0, .int .i64 0] 33) = WA at HZ HZU ⊢
        generalize wr.heap.size = Q at HZ ⊢
        have x0 := (HBx.out.up (HUX.out.trans HZU.out)).k0
        have x1 := (HBx.out.up (HUX.out.trans HZU.out)).k1
        clear e0 e1 e2
        go_wp2_with fail
        refine (HC.out _ HZU.out).mono ?_
        rintro e w6 ⟨rfl, u6⟩
        have z0 := (HZ.out.up u6).cell (j := 0) rfl
        have HU6 := Lib.hid ((HUX.out.trans HZU.out).trans u6)
        clear HC u6 x0 x1
        go_wp2_with fail
        go_roundw
        case rel => exact ⟨j + 1, by go_num, by omega, HU6.out⟩
        case measure => simp only [intOf]; omega
      · have dz : decide (j < m) = false := decide_eq_false hlt
        go_wp2_with fail
        go_ret
        exact ⟨rfl, HU.out.trans HUX.out⟩
  · skip
    have hE0 : (TEx == 0) = false := by rw [beq_eq_false_iff_ne]; exact hE
    have hz : TSx = zeroS := by have := make_errZ (F := FP) (st := ST) (s := A) (n := a2) (by rw [HRx.out]; exact hE); rwa [HRx.out] at this
    have hn0 : nxb = 0 := by have h9 := HBx.out.e2; rw [hz] at h9; exact h9.symm
    subst hn0
    have kx0 := HBx.out.k0
    have kx1 := HBx.out.k1
    go_wp2_with fail
    go_ret
    exact ⟨rfl, HU.out⟩

end Go.Proofs.Ytkobngbjffbjiaa
