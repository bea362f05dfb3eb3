/-
  The law VolRight: whatever is done, a state is right: each block is used as often as its item says, and none is there that is not used. Conditions: a slice of deeds that reads as deeds.
-/
import Derived.Test.YtkobngbjffbjiaaJB42
import Derived.Test.YtkobngbjffbjiaaJB17
import Derived.Deep.DeepCutAuto
import Derived.Deep.RegionHeld3
namespace Go.Proofs.Ytkobngbjffbjiaa
open Go.RowKit
open Go.Proofs
open WoolBag
open WoolVol

def UseRel (l : List Vo) (W : World) (u i : Value) (wr : World) : Prop := ∃ k : Nat, k ≤ l.length ∧ i = .int .i64 (k : Int) ∧ u = .int .i64 ((usedN (seenAt l k 0) : Nat) : Int) ∧ Up W wr
def UseIn (l : List Vo) (k L : Nat) (W : World) (u i : Value) (wr : World) : Prop := ∃ p : Nat, p ≤ L ∧ i = .int .i64 (p : Int) ∧ u = .int .i64 ((usedN (seenAt l k p) : Nat) : Int) ∧ Up W wr

set_option maxRecDepth 100000 in
set_option maxHeartbeats 4000000 in
theorem volRight_walk (a0 : Option Addr) (len0 cap0 : Nat) (z0 : List Opn) (w : World) (w0 : Ops w (.slice a0 len0 cap0) z0) :
    Calls Try.prog 3 #[.slice a0 len0 cap0] w fun e w' => e = .returned (.bool true) ∧ Up w w' := by
  have HBG := Lib.hid (fun W => begun_any W)
  go_enter Try.func3, Try.ntmps3
  go_wp2_with fail
  refine (HBG.out _).mono ?_
  rintro e w1 ⟨rfl, u1⟩
  have HU := Lib.hid u1
  have HC := Lib.hid (MdO.of (made_any _ z0 w1 (Ops.up w0 u1)))
  have HG := Lib.hid (madeO_good (F := FP) z0)
  clear u1 HBG
  generalize madeO FP z0 = ST at HC HG
  go_wp2_with fail
  refine HC.out.mono ?_
  clear HC
  rintro e w2 ⟨osa, csa, osb, csb, rfl, hs, hu⟩
  obtain ⟨nsa, hna⟩ : ∃ m, ST.b.length = m := ⟨_, rfl⟩
  obtain ⟨nsb, hnb⟩ : ∃ m, ST.v.length = m := ⟨_, rfl⟩
  rw [hna, hnb] at hs ⊢
  have hb := BoxS.new hs hna hnb
  have hv := hu.trans (Up.alloc w2 (.cells #[.slice osa nsa csa, .slice osb nsb csb] 27))
  clear hu hs hna hnb
  go_upto_region 4 with (fail)
  replace HU := Lib.hid (HU.out.trans hv)
  clear hv
  have HBs := Lib.hid hb
  clear hb
  generalize w2.alloc (.cells #[.slice osa nsa csa, .slice osb nsb csb] 27) = W2 at HBs HU ⊢
  generalize w2.heap.size = Xs at HBs ⊢
  have HV := Lib.hid HBs.out.vols
  have HE2 := Lib.hid HBs.out.e2
  have h6 : nsb ≤ 6 := by rw [← HBs.out.e2]; exact HG.out.len
  have ks0 := HBs.out.k0
  have ks1 := HBs.out.k1
  have hcv : nsb ≤ csb ∧ csb ≤ maxLen := by obtain ⟨_, _, h1, h2, h3⟩ := HV.out.slice; simp at h1; obtain ⟨_, h4, rfl⟩ := h1; exact ⟨by omega, h3⟩
  unfold maxLen at hcv
  obtain ⟨hcv1, hcv2⟩ := hcv
  go_wp2_with fail
  go_loopw [4, 16] (fun u i wr => UseRel ST.v W2 u i wr) (fun _ i _ => nsb - (intOf i).toNat)
  case atStart => exact ⟨0, Nat.zero_le _, rfl, by rw [seen_zero]; rfl, Up.refl _⟩
  case round =>
    obtain ⟨k, hkn, rfl, rfl, hu⟩ := hrel
    have HUR := Lib.hid hu
    rw [HE2.out] at hkn
    by_cases hlt : k < nsb
    · have dz : decide (k < nsb) = true := decide_eq_true hlt
      have hkl : k < ST.v.length := by rw [HE2.out]; exact hlt
      obtain ⟨b, off, rfl, hat⟩ := (HV.out.up hu).at (fun e => by rw [e] at hkl; simp at hkl)
      obtain ⟨e1, u, e2, hi⟩ := hat k hkl
      obtain ⟨oi, ci, rfl, hi1, hi2⟩ := hi.slice
      have HI := Lib.hid hi
      have h32 : ST.v[k].bl.length ≤ 32 := (HG.out.vol _ (List.getElem_mem hkl)).2.1
      obtain ⟨L, hL⟩ : ∃ L, ST.v[k].bl.length = L := ⟨_, rfl⟩
      have HLL := Lib.hid hL
      rw [hL] at e2 hi1 HI h32
      have HKL := Lib.hid hkl
      have HNX := Lib.hid (seen_next hkl)
      rw [hL] at HNX
      unfold maxLen at hi2
      generalize bs ST.v[k].nm = NM at e1
      clear hat hi hu hL
      go_upto_region 8 with (fail)
      have HZ : Hid (RowC (wr.alloc (.cells #[.string NM, .slice oi L ci] 31)) wr.heap.size 31 [.string NM, .slice oi L ci]) := heap_alloc_new wr _
      have HZU := Lib.hid (HUR.out.trans (Up.alloc wr (.cells #[.string NM, .slice oi L ci] 31)))
      have HIZ := Lib.hid (HI.out.up (Up.alloc wr (.cells #[.string NM, .slice oi L ci] 31)))
      generalize wr.alloc (.cells #[.string NM, .slice oi L ci] 31) = WA at HZ HZU HIZ ⊢
      generalize wr.heap.size = Q at HZ ⊢
      have z1 := HZ.out.cell (j := 1) rfl
      clear e1 e2 ks0 ks1
      go_wp2_with fail
      go_loopw [4, 23] (fun u i wx => UseIn ST.v k L WA u i wx) (fun _ i _ => L - (intOf i).toNat)
      case atStart => exact ⟨0, Nat.zero_le _, rfl, rfl, Up.refl _⟩
      case round =>
        obtain ⟨p, hpn, rfl, rfl, hu2⟩ := hrel
        obtain ⟨WX, hWX⟩ : ∃ WX, WX = wr := ⟨_, rfl⟩
        subst hWX
        have HUX := Lib.hid hu2
        have hsl := seen_le (l := ST.v) (i := p) HKL.out
        have hul := usedN_le (seenAt ST.v k p)
        have hil := ids_shortG HG.out
        by_cases hlp : p < L
        · have dp : decide (p < L) = true := decide_eq_true hlp
          obtain ⟨bi, fi, rfl, hti⟩ := (HIZ.out.up hu2).at (fun e => by have := HLL.out; rw [e] at this; simp at this; omega)
          obtain ⟨f0, f1, f2⟩ := hti p (by rw [HLL.out]; exact hlp)
          have hst := seen_step HKL.out (show p < (ST.v[k]'HKL.out).bl.length by rw [HLL.out]; exact hlp)
          have hus : usedN (seenAt ST.v k (p + 1)) = usedN (seenAt ST.v k p) + if ((ST.v[k]'HKL.out).bl[p]'(by rw [HLL.out]; exact hlp)).1 then 1 else 0 := by
            rw [hst, usedN_append, usedN_cons]
            rfl
          generalize ((ST.v[k]'HKL.out).bl[p]'(by rw [HLL.out]; exact hlp)).1 = B at f0 hus
          generalize ((ST.v[k]'HKL.out).bl[p]'(by rw [HLL.out]; exact hlp)).2.1 = I1 at f1
          generalize ((ST.v[k]'HKL.out).bl[p]'(by rw [HLL.out]; exact hlp)).2.2 = I2 at f2
          have HUS := Lib.hid hus
          obtain ⟨U, hU⟩ : ∃ U, usedN (seenAt ST.v k p) = U := ⟨_, rfl⟩
          rw [hU] at HUS hul ⊢
          have hU9 : U ≤ 192 := by omega
          have hwr : wrap64 ((U : Int) + 1) = (U : Int) + 1 := by unfold wrap64; omega
          clear hti hst hus hu2 hU hul hsl hil
          cases B with
          | true =>
            go_wp2_with fail
            go_roundw
            case rel => exact ⟨p + 1, by omega, by go_num, by rw [HUS.out]; go_num, HUX.out.trans (Up.alloc _ _)⟩
            case measure => simp only [intOf]; omega
          | false =>
            go_wp2_with fail
            go_roundw
            case rel => exact ⟨p + 1, by omega, by go_num, by rw [HUS.out]; rfl, HUX.out.trans (Up.alloc _ _)⟩
            case measure => simp only [intOf]; omega
        · have dp : decide (p < L) = false := decide_eq_false hlp
          have hpl : p = L := by omega
          subst hpl
          clear hlp hpn hu2
          go_wp2_with fail
          go_roundw
          case rel => exact ⟨k + 1, by rw [HE2.out]; omega, by go_num, by rw [HNX.out], HZU.out.trans HUX.out⟩
          case measure => simp only [intOf]; omega
    · have dz : decide (k < nsb) = false := decide_eq_false hlt
      have hk9 : k = ST.v.length := by rw [HE2.out]; omega
      have hse : usedN (seenAt ST.v k 0) = usedN (ids ST.v) := by rw [hk9, seen_end]
      rw [hse]
      have hrf := refs_used HG.out
      have HBX := Lib.hid (HBs.out.up hu)
      have HCK := Lib.hid (vcheck_any _ ST wr HBX.out.st (good_wf HG.out))
      rw [chkS_zero.2 HG.out] at HCK
      have HRF := Lib.hid (fun W (hW : Up wr W) => refs_any _ ST.b W (HBX.out.items.up hW) HG.out.bag)
      rw [hrf] at HRF
      clear ks0 ks1 hu hse hrf hk9 hlt hkn
      generalize usedN (ids ST.v) = U at HRF ⊢
      have hUU : ((U : Int) == (U : Int)) = true := by simp
      have k0 := HBX.out.k0
      have k1 := HBX.out.k1
      go_wp2_with fail
      refine HCK.out.mono ?_
      rintro e w5 ⟨rfl, u5⟩
      have HU5 := Lib.hid u5
      clear k0 k1 u5
      have k0 := (HBX.out.up HU5.out).k0
      have k1 := (HBX.out.up HU5.out).k1
      go_wp2_with fail
      refine (HRF.out _ HU5.out).mono ?_
      rintro e w6 ⟨rfl, u6⟩
      have HU6 := Lib.hid u6
      clear u6 k0 k1
      go_wp2_with fail
      go_ret
      exact ⟨rfl, ((HU.out.trans HUR.out).trans HU5.out).trans HU6.out⟩

end Go.Proofs.Ytkobngbjffbjiaa
