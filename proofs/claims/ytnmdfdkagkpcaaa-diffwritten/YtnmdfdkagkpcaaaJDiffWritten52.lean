/-
  The law DiffWritten: of a clone in which some places were written just those differ whose texts do. Conditions: a slice of deeds that reads as deeds.
-/
import Derived.Test.YtnmdfdkagkpcaaaJDiffWritten46
import Derived.Test.YtnmdfdkagkpcaaaJDiffWritten50
import Derived.Test.YtnmdfdkagkpcaaaJDiffWritten51
import Derived.BigRegion
import Derived.Deep.DeepCutAuto
import Derived.Deep.RegionHeld3
namespace Go.Proofs.Ytnmdfdkagkpcaaa
open Go.RowKit
open Go.Proofs
open WoolBag
open WoolVol

/-- a state in the making: the clone, written at some places -/
structure WrI (st0 : Sta) (kn kz X B : Nat) (W : World) (j : Nat) (cur : Sta) (S : Nat → Bool) (o1 : Option Addr) (n1 c1 : Nat) (o2 : Option Addr) (n2 c2 : Nat) (wr : World) : Prop where
  box : BoxS wr X cur o1 n1 c1 o2 n2 c2
  map : WMap wr B j S
  wrj : WrJ FP st0 cur kn kz (fun p => S p = true)
  up : Up W wr

def WrL (st0 : Sta) (kn kz X B n : Nat) (W : World) (i : Value) (wr : World) : Prop :=
  ∃ j cur S o1 n1 c1 o2 n2 c2, j ≤ n ∧ i = .int .i64 ((j : Nat) : Int) ∧ WrI st0 kn kz X B W j cur S o1 n1 c1 o2 n2 c2 wr

def LkRel (L : Nat) (W : World) (i : Value) (wr : World) : Prop := ∃ j : Nat, j ≤ L ∧ i = .int .i64 (j : Int) ∧ Up W wr

def Txts2 (W : World) (l m : List (List UInt8)) (p q : Value) (wx : World) : Prop :=
  ∃ (o1 : Option Addr) (c1 : Nat) (o2 : Option Addr) (c2 : Nat), p = .slice o1 l.length c1 ∧ q = .slice o2 m.length c2 ∧ Txs wx p l ∧ Txs wx q m ∧ Up W wx

set_option maxRecDepth 100000 in
set_option maxHeartbeats 4000000 in
theorem diffWritten_walk (a0 : Option Addr) (len0 cap0 : Nat) (z0 : List Opn) (a1 : Int) (a2 : Option Addr) (len2 cap2 : Nat) (z2 : List Opn) (w : World) (w0 : Ops w (.slice a0 len0 cap0) z0) (_ : (Lit.int .i64 a1).wf = true) (w2 : Ops w (.slice a2 len2 cap2) z2) :
    Calls Try.prog 4 #[.slice a0 len0 cap0, .int .i64 a1, .slice a2 len2 cap2] w fun e w' => e = .returned (.bool true) ∧ Up w w' := by
  have HOZ := Lib.hid w2
  obtain ⟨o', c', hsl, hp1, hp2⟩ := w2.slice
  simp only [Value.slice.injEq] at hsl
  obtain ⟨rfl, rfl, rfl⟩ := hsl
  unfold maxLen at hp2
  obtain ⟨n2, hn2⟩ : ∃ n, z2.length = n := ⟨_, rfl⟩
  rw [hn2] at hp1 HOZ ⊢
  have HN2 := Lib.hid hn2
  have HP2 : Hid (n2 ≤ 9223372036854775807) := by show _ ≤ _; omega
  obtain ⟨ZZ, hZZ⟩ : ∃ ZZ : List UInt8, ZZ = [122, 122] := ⟨_, rfl⟩
  have HZ : Hid (bs ZZ = ⟨#[122, 122]⟩) := by show _ = _; rw [hZZ]; rfl
  have HZL : Hid (ZZ.length ≤ 9223372036854775807) := by show _ ≤ _; rw [hZZ]; simp
  clear hZZ hn2 w2
  have HBG := Lib.hid (fun W => begun_any W)
  go_enter Try.func4, Try.ntmps4
  go_wp2_with fail
  refine (HBG.out _).mono ?_
  rintro e w1 ⟨rfl, u1⟩
  have HU := Lib.hid u1
  have HC := Lib.hid (MdO.of (made_any _ z0 w1 (Ops.up w0 u1)))
  have HG := Lib.hid (madeO_good (F := FP) z0)
  clear u1 HBG
  generalize madeO FP z0 = ST at HC HG
  go_wp2_with fail
  refine HC.out.mono ?_
  clear HC
  rintro e w2 ⟨osa, csa, osb, csb, rfl, hs, hu⟩
  obtain ⟨nsa, hna⟩ : ∃ m, ST.b.length = m := ⟨_, rfl⟩
  obtain ⟨nsb, hnb⟩ : ∃ m, ST.v.length = m := ⟨_, rfl⟩
  rw [hna, hnb] at hs ⊢
  have hb := BoxS.new hs hna hnb
  have hv := hu.trans (Up.alloc w2 (.cells #[.slice osa nsa csa, .slice osb nsb csb] 31))
  clear hu hs hna hnb
  go_upto_region 4 with (fail)
  replace HU := Lib.hid (HU.out.trans hv)
  clear hv
  have HBs := Lib.hid hb
  clear hb
  generalize w2.alloc (.cells #[.slice osa nsa csa, .slice osb nsb csb] 31) = W2 at HBs HU ⊢
  generalize w2.heap.size = Xs at HBs ⊢
  have HXWXs : Hid (w.heap.size ≤ w.heap.size) := Nat.le_refl _
  have HC := Lib.hid (pick_any _ ST a1 W2 HBs.out.st (good_wf HG.out) HG.out.len)
  unfold PickPost at HC
  have ks0 := HBs.out.k0
  have ks1 := HBs.out.k1
  go_wp2_with fail
  refine HC.out.mono ?_
  clear HC
  rintro e w3 ⟨A, hlA, rfl, hu⟩
  clear ks0 ks1
  replace HBs := Lib.hid (HBs.out.up hu)
  replace HU := Lib.hid (HU.out.trans hu)
  clear hu
  obtain ⟨⟨TSx, TEx⟩, hR⟩ : ∃ R, clone FP ST A ZZ = R := ⟨_, rfl⟩
  have HRx := Lib.hid hR
  clear hR
  have HGx := Lib.hid (clone_goodA (F := FP) ST A ZZ)
  rw [HRx.out] at HGx
  simp only at HGx
  have HC := Lib.hid (StO.ow (vclone_own _ ST A ZZ w3 HBs.out.st (good_wf HG.out) HZL.out))
  rw [HRx.out, HZ.out] at HC
  have ks0 := HBs.out.k0
  have ks1 := HBs.out.k1
  go_wp2_with fail
  refine HC.out.mono ?_
  clear HC
  rintro e w4 ⟨oxa, cxa, oxb, cxb, rfl, hs, hu⟩
  simp only at hs ⊢
  clear ks0 ks1
  obtain ⟨nxa, hna⟩ : ∃ m, TSx.b.length = m := ⟨_, rfl⟩
  obtain ⟨nxb, hnb⟩ : ∃ m, TSx.v.length = m := ⟨_, rfl⟩
  rw [hna, hnb] at hs ⊢
  have HNXs_Xx : Hid (Xs ≠ w4.heap.size) := Nat.ne_of_lt (Nat.lt_of_lt_of_le HBs.out.lt hu.size)
  have HNXx_Xs : Hid (w4.heap.size ≠ Xs) := fun h9 => HNXs_Xx.out h9.symm
  have HXWXx : Hid (w.heap.size ≤ w4.heap.size) := Nat.le_trans HU.out.size hu.size
  have hb := BoxS.new hs hna hnb
  have hv := hu.trans (Up.alloc w4 (.cells #[.slice oxa nxa cxa, .slice oxb nxb cxb] 31))
  clear hu hs hna hnb
  go_upto_region 6 with (fail)
  replace HBs := Lib.hid (HBs.out.up hv)
  replace HU := Lib.hid (HU.out.trans hv)
  clear hv
  have HBx := Lib.hid hb
  clear hb
  generalize w4.alloc (.cells #[.slice oxa nxa cxa, .slice oxb nxb cxb] 31) = W5 at HBs HBx   HU ⊢
  generalize w4.heap.size = Xx at HBx HNXs_Xx HNXx_Xs HXWXx ⊢
  by_cases hE : TEx = 0
  · subst hE
    have hpr := clone_pair (F := FP) (st := ST) (s := A) (t := ZZ) (by rw [HRx.out])
    rw [HRx.out] at hpr
    obtain ⟨_, kn, kz, L, hkn, hkz, hne, hxn, hxz, hln, hbl, h32⟩ := hpr
    have hd0 : difR TSx A ZZ = ([], 0) := by rw [difR_of HGx.out hkn hkz hxn hxz, hbl, if_neg (by simp), difG_self]
    have HD0 := Lib.hid hd0
    have HFX : Hid (kn < TSx.v.length ∧ kz < TSx.v.length ∧ kn ≠ kz ∧ vix (nmB A) TSx.v = some kn ∧ vix (nmB ZZ) TSx.v = some kz ∧ L ≤ 32) := ⟨hkn, hkz, hne, hxn, hxz, h32⟩
    have HLN := Lib.hid hln
    have HBL := Lib.hid hbl
    clear hd0 hne hxn hxz hln hbl h32 HRx
    clear HBs
    have HC := Lib.hid (DfO.of (diff_any _ TSx A ZZ W5 HBx.out.st (good_wf HGx.out)))
    rw [HD0.out, HZ.out] at HC
    unfold DfO at HC
    simp only at HC
    have kx0 := HBx.out.k0
    have kx1 := HBx.out.k1
    go_wp2_with fail
    refine HC.out.mono ?_
    clear HC
    rintro e w6 ⟨oi, ci, bbi, rfl, hi, hci, hu⟩
    unfold maxLen at hci
    clear kx0 kx1
    replace HBx := Lib.hid (HBx.out.up hu)
    replace HU := Lib.hid (HU.out.trans hu)
    have HIi := Lib.hid hi
    clear hi hu
    simp only [List.length_nil]
    clear HIi HD0
    have hmm := @run_makeMap Try.prog
    go_upto_region 12 with (fail)
    clear hmm
    have HM : Hid (WMap (w6.alloc (.map #[] 0)) w6.heap.size 0 (fun _ => false)) := WMap.made w6
    have HBG2 : Hid (w.heap.size ≤ w6.heap.size) := HU.out.size
    have HBx2 := Lib.hid (HBx.out.up (Up.alloc w6 (.map #[] 0)))
    have HU2 := Lib.hid (HU.out.trans (Up.alloc w6 (.map #[] 0)))
    clear HBx HU
    generalize w6.alloc (.map #[] 0) = WM at HM HBx2 HU2 ⊢
    generalize w6.heap.size = B at HM HBG2 ⊢
    have HSTA : Hid (WrL TSx kn kz Xx B n2 w (.int .i64 0) WM) := ⟨0, TSx, _, _, _, _, _, _, _, Nat.zero_le _, rfl, ⟨HBx2.out, HM.out, (WrJ.first HGx.out kn kz).congr (fun p => by simp), HU2.out⟩⟩
    clear HBx2 HM HU2
    go_wp2_with fail
    go_loopw [53] (WrL TSx kn kz Xx B n2 w) (fun i _ => n2 - (intOf i).toNat)
    case atStart => exact HSTA.out
    case round =>
      clear HSTA
      obtain ⟨j, cur, S, o1, n1, c1, o2, n2', c2, hj, rfl, hI⟩ := hrel
      have HI := Lib.hid hI
      clear hI
      by_cases hlt : j < n2
      · have dz : decide (j < n2) = true := decide_eq_true hlt
        have hjl : j < z2.length := by rw [HN2.out]; exact hlt
        obtain ⟨b, off, hpo, hat⟩ := (HOZ.out.up HI.out.up).at (fun e => by rw [e] at hjl; simp at hjl)
        subst hpo
        obtain ⟨e0, e1, e2, e3, e4⟩ := hat j hjl
        have HWR := Lib.hid (fun W (hW : Up wr W) => StO.ow (write_any _ cur ZZ z2[j].tx z2[j].pl W (HI.out.box.up hW).st (good_wf HI.out.wrj.good)))
        have HST := Lib.hid (fun (hw : (write FP cur ZZ (z2[j]'hjl).pl (z2[j]'hjl).tx).2 = 0) => HI.out.wrj.step (s := ZZ) (t := (z2[j]'hjl).tx) (a := (z2[j]'hjl).pl) HFX.out.2.2.2.2.1 HFX.out.1 HFX.out.2.2.1 hw)
        obtain ⟨⟨TS, TE⟩, hR⟩ : ∃ R, write FP cur ZZ z2[j].pl z2[j].tx = R := ⟨_, rfl⟩
        rw [hR] at HST
        unfold StO at HWR
        rw [hR, HZ.out] at HWR
        simp only at HWR HST
        generalize bs z2[j].nm = S1 at e1
        generalize bs z2[j].to = S2 at e2
        generalize bs z2[j].tx = S3 at e4 HWR
        generalize z2[j].kd = K1 at e0
        generalize z2[j].pl = K2 at e3 HWR HST
        clear hat hR
        go_upto_region 15 with (fail)
        have HUP := Lib.hid (Up.alloc wr (.cells #[.int .i64 K1, .string S1, .string S2, .int .i64 K2, .string S3] 44))
        have HOQ : Hid (RowC (wr.alloc (.cells #[.int .i64 K1, .string S1, .string S2, .int .i64 K2, .string S3] 44)) wr.heap.size 44 [.int .i64 K1, .string S1, .string S2, .int .i64 K2, .string S3]) := heap_alloc_new wr _
        generalize wr.alloc (.cells #[.int .i64 K1, .string S1, .string S2, .int .i64 K2, .string S3] 44) = WA at HUP HOQ ⊢
        generalize wr.heap.size = Q at HOQ ⊢
        have HBA := Lib.hid (HI.out.box.up HUP.out)
        have x0 := HBA.out.k0
        have x1 := HBA.out.k1
        have y3 := HOQ.out.cell (j := 3) rfl
        have y4 := HOQ.out.cell (j := 4) rfl
        clear e0 e1 e2 e3 e4
        go_wp2_with fail
        refine (HWR.out _ HUP.out).mono ?_
        rintro e w5 ⟨o7, c7, o8, c8, rfl, hs5, u5⟩
        obtain ⟨n7, hn7⟩ : ∃ n7, TS.b.length = n7 := ⟨_, rfl⟩
        obtain ⟨n8, hn8⟩ : ∃ n8, TS.v.length = n8 := ⟨_, rfl⟩
        rw [hn7, hn8] at hs5 ⊢
        have HN7 := Lib.hid hn7
        have HN8 := Lib.hid hn8
        have hv := u5.trans (Up.alloc w5 (.cells #[.slice o7 n7 c7, .slice o8 n8 c8] 31))
        have HY : Hid (RowC (w5.alloc (.cells #[.slice o7 n7 c7, .slice o8 n8 c8] 31)) w5.heap.size 31 [.slice o7 n7 c7, .slice o8 n8 c8]) := heap_alloc_new w5 _
        have HS6 := Lib.hid (hs5.up (Up.alloc w5 (.cells #[.slice o7 n7 c7, .slice o8 n8 c8] 31)))
        have HQ6 := Lib.hid (HOQ.out.up hv)
        have HB6 := Lib.hid (HBA.out.up hv)
        have HU6 := Lib.hid (HUP.out.trans hv)
        clear u5 hs5 hv x0 x1 y3 y4 hn7 hn8
        go_upto_region 16 with (fail)
        generalize w5.alloc (.cells #[.slice o7 n7 c7, .slice o8 n8 c8] 31) = W6 at HY HS6 HQ6 HB6 HU6 ⊢
        generalize w5.heap.size = Y at HY ⊢
        by_cases hE2 : TE = 0
        · subst hE2
          obtain ⟨p, hp, hpl, hwj⟩ := HST.out rfl
          subst hp
          have hpL : p < 64 := by
            have h1 := hpl HFX.out.2.1
            rw [HBL.out, HLN.out] at h1
            have := HFX.out.2.2.2.2.2
            omega
          have y0 := HY.out.cell (j := 0) rfl
          have y1 := HY.out.cell (j := 1) rfl
          have q3 := HQ6.out.cell (j := 3) rfl
          have f0 := HB6.out.f0
          have f1 := HB6.out.f1
          have x0 := HB6.out.k0
          have x1 := HB6.out.k1
          have HM6 := Lib.hid (HI.out.map.up HU6.out)
          have HNX : Hid (B ≠ Xx) := HM6.out.apart HB6.out.row
          have HB7 := Lib.hid ((HB6.out.put HS6.out HN7.out HN8.out).up (Up.drew _))
          have HM7 := Lib.hid (((HM6.out.setCell (a := ⟨Xx, 0, none⟩) HNX.out (.slice o7 n7 c7)).setCell (a := ⟨Xx, 1, none⟩) HNX.out (.slice o8 n8 c8)).up (Up.drew _))
          obtain ⟨w8, hrun, hm8, hg8⟩ := HM7.out.store (by unfold maxLen; have := HP2.out; omega) hpL
          have HM8 := Lib.hid hm8
          have HB8 := Lib.hid (HB7.out.turn HM7.out hg8)
          have HU8 : Hid (Up w w8) := up_turn ((up2 (HI.out.up.trans HU6.out) HXWXx.out).trans (Up.drew _)) hg8 HBG2.out
          have HWJ : Hid (WrJ FP TSx TS kn kz (fun q => (q == p || S q) = true)) := hwj.congr (fun q => by simp [or_comm])
          clear hm8 hg8 hwj hpl
          go_upto_region 17 with (fail)
          go_region
          clear hrun x0 x1 f0 f1 q3 y0 y1 HM7 HB7 HM6
          go_wp2_with fail
          go_roundw
          case rel => exact ⟨j + 1, TS, _, _, _, _, _, _, _, by omega, by go_num, ⟨HB8.out, HM8.out, HWJ.out, HU8.out⟩⟩
          case measure => simp only [intOf]; omega
        · have he : (TE == 0) = false := by rw [beq_eq_false_iff_ne]; exact hE2
          clear hE2
          go_wp2_with fail
          go_roundw
          case rel => exact ⟨j + 1, cur, S, _, _, _, _, _, _, by omega, by go_num, ⟨HI.out.box.up HU6.out, (HI.out.map.up HU6.out).mono (by omega), HI.out.wrj, HI.out.up.trans HU6.out⟩⟩
          case measure => simp only [intOf]; omega
      · have dz : decide (j < n2) = false := decide_eq_false hlt
        have HBx := Lib.hid HI.out.box
        have HM := Lib.hid HI.out.map
        have HJ := Lib.hid HI.out.wrj
        have HU := Lib.hid HI.out.up
        clear HI hlt hj
        have HGc : Hid (WoolVol.Good FP cur) := HJ.out.good
        have hlen : cur.v.length = TSx.v.length := HJ.out.len
        have hkn' : kn < TSx.v.length := hkn
        have hkz' : kz < TSx.v.length := hkz
        have hnc : kn < cur.v.length := by omega
        have hzc : kz < cur.v.length := by omega
        have HNC : Hid (vix (nmB A) cur.v = some kn) := vix_alike HJ.out.len HJ.out.vol HFX.out.2.2.2.1
        have HZC : Hid (vix (nmB ZZ) cur.v = some kz) := vix_alike HJ.out.len HJ.out.vol HFX.out.2.2.2.2.1
        have hL1 : cur.v[kn].bl.length = L := by rw [(HJ.out.vol kn hkn hnc).2, HLN.out]
        have hL2 : cur.v[kz].bl.length = L := by rw [(HJ.out.vol kz hkz hzc).2, HBL.out, HLN.out]
        have hd : difR cur A ZZ = (difG cur.v[kn].bl cur.v[kz].bl L, 0) := by rw [difR_of HGc.out hnc hzc HNC.out HZC.out, hL1, hL2, if_neg (by simp)]
        have hat0 : ∀ i, i < L → ∃ P Q x, (rdG cur kn L)[i]? = some P ∧ (rdG cur kz L)[i]? = some Q ∧ cur.v[kn].bl[i]? = some x ∧ (difG cur.v[kn].bl cur.v[kz].bl L).contains (i : Int) = (S i && (!(P == Q) || !x.1)) := by
          intro i hi
          have h9 := written_at HJ.out hkn hkz HLN.out HBL.out hnc hzc (i := i) hi (by rw [hL1]; exact hi)
          refine ⟨_, _, _, ?_, ?_, List.getElem?_eq_getElem (by rw [hL1]; exact hi), h9⟩
          · simp [rdG, hi]
          · simp [rdG, hi]
        have hp9 : textsG FP cur A = rdG cur kn L := by rw [textsG_of HGc.out hnc HNC.out, hL1]
        have hq9 : textsG FP cur ZZ = rdG cur kz L := by rw [textsG_of HGc.out hzc HZC.out, hL2]
        have hb9 : blocks FP cur A = (cur.v[kn].bl, 0) := blocks_of HGc.out hnc HNC.out
        have hlp := rdG_len cur kn L
        have hlq := rdG_len cur kz L
        generalize rdG cur kn L = LP at *
        generalize rdG cur kz L = LQ at *
        generalize difG cur.v[kn].bl cur.v[kz].bl L = DL at *
        generalize cur.v[kn].bl = BL at hat0 hb9 hL1
        have HAT := Lib.hid hat0
        have HPT := Lib.hid hp9
        have HQT := Lib.hid hq9
        have HBT := Lib.hid hb9
        have HDT := Lib.hid hd
        have HLP := Lib.hid hlp
        have HLQ := Lib.hid hlq
        have HLB := Lib.hid hL1
        clear hat0 hp9 hq9 hb9 hd hlp hlq hL1 hL2 HNC HZC HJ hnc hzc hlen hkn' hkz'
        have HC := Lib.hid (DfO.of (diff_any _ cur A ZZ wr HBx.out.st (good_wf HGc.out)))
        rw [HDT.out, HZ.out] at HC
        unfold DfO at HC
        simp only at HC
        have kx0 := HBx.out.k0
        have kx1 := HBx.out.k1
        go_wp2_with fail
        refine HC.out.mono ?_
        clear HC
        rintro e w7 ⟨od, cd, bbd, rfl, hi, hcd, hu⟩
        unfold maxLen at hcd
        clear kx0 kx1
        replace HBx := Lib.hid (HBx.out.up hu)
        replace HM := Lib.hid (HM.out.up hu)
        replace HU := Lib.hid (HU.out.trans hu)
        have HId := Lib.hid hi
        clear hi hu
        have HQp : Hid (∀ W, Up w7 W → Calls Try.prog 12 #[.agg #[.slice o1 n1 c1, .slice o2 n2' c2], .string (bs A)] W (TxO LP W)) := fun W hW => by have h9 := TxO.of (texts_any _ cur A W (HBx.out.up hW).st HGc.out); rwa [HPT.out] at h9
        have HQq : Hid (∀ W, Up w7 W → Calls Try.prog 12 #[.agg #[.slice o1 n1 c1, .slice o2 n2' c2], .string ⟨#[122, 122]⟩] W (TxO LQ W)) := fun W hW => by have h9 := TxO.of (texts_any _ cur ZZ W (HBx.out.up hW).st HGc.out); rwa [HQT.out, HZ.out] at h9
        unfold TxO at HQp HQq
        go_upto_region 22 with (fail)
        have kx0 := HBx.out.k0
        have kx1 := HBx.out.k1
        go_cut [18, 19] (fun p q wx => Txts2 w7 LP LQ p q wx)
        case first =>
          go_region_held3 (fun U => U.cell? ⟨Xx, 0, none⟩ = some (.slice o1 n1 c1) ∧ U.cell? ⟨Xx, 1, none⟩ = some (.slice o2 n2' c2)) (go_keep) (first
            | (go_at_call 12; ((with_reducible refine (HQp.out _ (by first | exact ux | exact Up.drew _ | exact Up.refl _)).mono ?_); rintro e wz ⟨op, cp, rfl, tp, uz⟩; have uy : Up w7 wz := (by first | exact ux.trans uz | exact (Up.drew _).trans uz | exact uz); (first | (have tq := Txs.up tq uz) | skip); clear uz; have ux : Up w7 wz := uy; clear uy; have s0 := (HBx.out.up ux).k0; have s1 := (HBx.out.up ux).k1))
            | (go_at_call 12; ((with_reducible refine (HQq.out _ (by first | exact ux | exact Up.drew _ | exact Up.refl _)).mono ?_); rintro e wz ⟨oq, cq, rfl, tq, uz⟩; have uy : Up w7 wz := (by first | exact ux.trans uz | exact (Up.drew _).trans uz | exact uz); (first | (have tp := Txs.up tp uz) | skip); clear uz; have ux : Up w7 wz := uy; clear uy; have s0 := (HBx.out.up ux).k0; have s1 := (HBx.out.up ux).k1)))
          all_goals
            go_wp2_with fail
            go_meet
            exact ⟨_, _, _, _, rfl, rfl, tp, tq, ux⟩
        case rest =>
          obtain ⟨op, cp, oq, cq, rfl, rfl, htp, htq, hu⟩ := hcut
          obtain ⟨WT, hW⟩ : ∃ W, W = wc := ⟨_, rfl⟩
          subst hW
          clear kx0 kx1
          replace HBx := Lib.hid (HBx.out.up hu)
          replace HM := Lib.hid (HM.out.up hu)
          replace HId := Lib.hid (HId.out.up hu)
          replace HU := Lib.hid (HU.out.trans hu)
          have HTp := Lib.hid htp
          have HTq := Lib.hid htq
          clear hu htp htq HQp HQq
          have HC := Lib.hid (IdO.of (blocks_any _ cur A WT HBx.out.st (good_wf HGc.out)))
          unfold IdO at HC
          rw [HBT.out] at HC
          simp only at HC
          have kx0 := HBx.out.k0
          have kx1 := HBx.out.k1
          go_wp2_with fail
          refine HC.out.mono ?_
          clear HC
          rintro e wi ⟨oj, cj, rfl, hi, hci, hu⟩
          unfold maxLen at hci
          clear kx0 kx1
          replace HBx := Lib.hid (HBx.out.up hu)
          replace HTp := Lib.hid (HTp.out.up hu)
          replace HTq := Lib.hid (HTq.out.up hu)
          replace HM := Lib.hid (HM.out.up hu)
          replace HId := Lib.hid (HId.out.up hu)
          replace HU := Lib.hid (HU.out.trans hu)
          have HIB := Lib.hid hi
          clear hi hu
          rw [HLB.out] at HIB
          rw [HLP.out] at HTp
          rw [HLQ.out] at HTq
          rw [HLB.out, HLP.out, HLQ.out]
          have hll : ((L : Int) != (L : Int)) = false := by simp
          have HL32 : Hid (L ≤ 32) := HFX.out.2.2.2.2.2
          go_wp2_with fail
          go_loopw [110] (LkRel L wi) (fun i _ => L - (intOf i).toNat)
          case atStart => exact ⟨0, Nat.zero_le _, rfl, Up.refl _⟩
          case round =>
            clear hll
            obtain ⟨i, hi, rfl, hu⟩ := hrel
            have HUX := Lib.hid hu
            by_cases hlt : i < L
            · have dz' : decide (i < L) = true := decide_eq_true hlt
              obtain ⟨P, Q, x, hP, hQ, hx, hct⟩ := HAT.out i hlt
              obtain ⟨hPl, hPe⟩ := List.getElem?_eq_some_iff.1 hP
              obtain ⟨hQl, hQe⟩ := List.getElem?_eq_some_iff.1 hQ
              obtain ⟨hxl, hxe⟩ := List.getElem?_eq_some_iff.1 hx
              obtain ⟨bp, fp', hpo, hatp⟩ := (HTp.out.up hu).at (fun e => by rw [e] at hPl; simp at hPl)
              subst hpo
              obtain ⟨bq, fq', hqo, hatq⟩ := (HTq.out.up hu).at (fun e => by rw [e] at hQl; simp at hQl)
              subst hqo
              obtain ⟨bi, fi, hio, hati⟩ := (HIB.out.up hu).at (fun e => by rw [e] at hxl; simp at hxl)
              subst hio
              have cp0 := hatp i hPl
              have cq0 := hatq i hQl
              have ci0 := (hati i hxl).1
              rw [hPe] at cp0
              rw [hQe] at cq0
              rw [hxe] at ci0
              have hlook : ∀ m, (Instr.lookup 42 (.map (some B)) (.int .i64 (i : Int)) false).run Try.prog (wr.drewN m) = .ok (.bool (S i)) (wr.drewN m) := fun m => (HM.out.up (hu.trans (Up.drewN _ m))).look (by have := HL32.out; omega)
              have hlook0 : (Instr.lookup 42 (.map (some B)) (.int .i64 (i : Int)) false).run Try.prog wr = .ok (.bool (S i)) wr := (HM.out.up hu).look (by have := HL32.out; omega)
              have HCT := Lib.hid (fun m => containsQ _ _ DL (i : Int) (wr.drewN m) ((HId.out.up hu).up (Up.drewN _ m)))
              have htq := txt_eqT P Q
              have hl1 : (i : Int) < (L : Int) := by omega
              have hl32 := HL32.out
              have hl0 : (0 : Int) ≤ (i : Int) := by omega
              clear hatp hatq hati hP hQ hx hu hPe hQe hxe hPl hQl hxl
              have htqq := htq
              cases hS : S i with
              | false =>
                rw [hS, Bool.false_and] at hct
                rw [hS] at hlook hlook0
                rw [hct] at HCT
                clear hct htqq
                go_upto_region 29 with (fail)
                go_quiet ((go_at_call 17; exact Calls.quiet_of (HCT.out _)))
                go_wp2_with fail
                go_roundw
                case rel => exact ⟨i + 1, by omega, by go_num, HUX.out.trans (Up.drewN _ _)⟩
                case measure => simp only [intOf]; omega
              | true =>
                rw [hS, Bool.true_and] at hct
                rw [hS] at hlook hlook0
                cases hPQ : (P == Q) with
                | false =>
                  rw [hPQ, Bool.not_false, Bool.true_or] at hct
                  rw [hPQ] at htqq
                  rw [hct] at HCT
                  clear hct htq
                  go_upto_region 29 with (fail)
                  go_quiet ((go_at_call 17; exact Calls.quiet_of (HCT.out _)))
                  go_wp2_with fail
                  go_roundw
                  case rel => exact ⟨i + 1, by omega, by go_num, HUX.out.trans (Up.drewN _ _)⟩
                  case measure => simp only [intOf]; omega
                | true =>
                  rw [hPQ, Bool.not_true, Bool.false_or] at hct
                  rw [hPQ] at htqq
                  obtain ⟨xb, xs, xn⟩ := x
                  simp only at hct ci0
                  cases xb with
                  | false =>
                    rw [Bool.not_false] at hct
                    rw [hct] at HCT
                    clear hct htq
                    go_upto_region 29 with (fail)
                    go_quiet ((go_at_call 17; exact Calls.quiet_of (HCT.out _)))
                    go_wp2_with fail
                    go_roundw
                    case rel => exact ⟨i + 1, by omega, by go_num, HUX.out.trans (Up.drewN _ _)⟩
                    case measure => simp only [intOf]; omega
                  | true =>
                    rw [Bool.not_true] at hct
                    rw [hct] at HCT
                    clear hct htq
                    go_upto_region 29 with (fail)
                    go_quiet ((go_at_call 17; exact Calls.quiet_of (HCT.out _)))
                    go_wp2_with fail
                    go_roundw
                    case rel => exact ⟨i + 1, by omega, by go_num, HUX.out.trans (Up.drewN _ _)⟩
                    case measure => simp only [intOf]; omega
            · have dz' : decide (i < L) = false := decide_eq_false hlt
              go_wp2_with fail
              go_ret
              exact ⟨rfl, HU.out.trans HUX.out⟩
  · skip
    have hq : (TEx == 0) = false := by rw [beq_eq_false_iff_ne]; exact hE
    go_wp2_with fail
    go_ret
    exact ⟨rfl, HU.out⟩

end Go.Proofs.Ytnmdfdkagkpcaaa
