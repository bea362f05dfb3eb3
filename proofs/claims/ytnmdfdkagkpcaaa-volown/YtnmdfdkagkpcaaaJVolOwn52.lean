/-
  The law VolOwn: a state that is handed in stays as it is, and what is answered shares nothing with it. Conditions: a slice of deeds that reads as deeds, a deed that a call can be handed, texts that fit in memory.
-/
import Derived.Test.YtnmdfdkagkpcaaaJVolOwn51
import Derived.Deep.DeepCutAuto
import Derived.Deep.RegionHeld3
namespace Go.Proofs.Ytnmdfdkagkpcaaa
open Go.RowKit
open Go.Proofs
open WoolBag
open WoolVol

def MkVRel (n : Nat) (W : World) (i : Value) (wr : World) : Prop := ∃ j : Nat, j ≤ n ∧ i = .int .i64 (j : Int) ∧ Up W wr

set_option maxRecDepth 100000 in
set_option maxHeartbeats 8000000 in
theorem volOwn_walk (a0 : Option Addr) (len0 cap0 : Nat) (z0 : List Opn) (a1 a2 : Int) (a3 a4 : ByteArray) (a5 : Opn) (w : World) (w0 : Ops w (.slice a0 len0 cap0) z0) (_ : (Lit.int .i64 a1).wf = true) (_ : (Lit.int .i64 a2).wf = true) (_ : a3.size ≤ 140737488351232) (w4 : a4.size ≤ 140737488351232) (w5 : OpWf a5) :
    Calls Try.prog 5 #[.slice a0 len0 cap0, .int .i64 a1, .int .i64 a2, .string a3, .string a4, opA a5] w fun e w' => e = .returned (.bool true) ∧ Up w w' := by
  obtain ⟨S, rfl⟩ : ∃ S, a3 = bs S := ⟨a3.data.toList, (bs_of a3).symm⟩
  have hlb : a4.data.toList.length ≤ 9223372036854775807 := by rw [ba_length]; omega
  obtain ⟨B, rfl⟩ : ∃ B, a4 = bs B := ⟨a4.data.toList, (bs_of a4).symm⟩
  rw [bs_list] at hlb
  have HLB := Lib.hid hlb
  have HOZ := Lib.hid w0
  have HDO := Lib.hid (fun v st W (h : Stat W v st) (hwf : WfS st) => do_any v st a5 W h hwf w5)
  have HGO := Lib.hid (fun st => doO_goodA st a5)
  have HBG := Lib.hid (fun W => begun_any W)
  clear hlb w4 w0
  obtain ⟨FO, hFO⟩ : ∃ FO : Sta → Sta × Int, ∀ st, doO FP st a5 = FO st := ⟨_, fun _ => rfl⟩
  have HDO2 : Hid (∀ v st W, Stat W v st → WfS st → Calls Try.prog 22 #[v, opA a5] W (StEPost W (FO st))) := by
    intro v st W h hwf
    have h9 := HDO.out v st W h hwf
    rw [hFO] at h9
    exact h9
  have HGO2 : Hid (∀ st, WoolVol.Good FP (FO st).1) := by
    intro st
    rw [← hFO]
    exact HGO.out st
  clear HDO HGO hFO w5
  unfold opA at *
  generalize bs a5.nm = S1 at *
  generalize bs a5.to = S2 at *
  generalize bs a5.tx = S3 at *
  generalize a5.kd = K1 at *
  generalize a5.pl = K2 at *
  have HO : Hid (RowC (w.alloc (.cells #[.int .i64 K1, .string S1, .string S2, .int .i64 K2, .string S3] 44)) w.heap.size 44 [.int .i64 K1, .string S1, .string S2, .int .i64 K2, .string S3]) := heap_alloc_new w _
  have HU : Hid (Up w (w.alloc (.cells #[.int .i64 K1, .string S1, .string S2, .int .i64 K2, .string S3] 44))) := Up.alloc _ _
  go_enter Try.func5, Try.ntmps5
  go_upto_region 1 with (fail)
  generalize w.alloc (.cells #[.int .i64 K1, .string S1, .string S2, .int .i64 K2, .string S3] 44) = W0 at HO HU ⊢
  generalize w.heap.size = XO at HO ⊢
  go_wp2_with fail
  refine (HBG.out _).mono ?_
  rintro e w1 ⟨rfl, u1⟩
  replace HO := Lib.hid (HO.out.up u1)
  replace HU := Lib.hid (HU.out.trans u1)
  have HC := Lib.hid (MdO.of (made_any _ z0 w1 (Ops.up HOZ.out HU.out)))
  have HG := Lib.hid (madeO_good (F := FP) z0)
  clear u1 HBG
  generalize madeO FP z0 = ST at HC HG
  go_wp2_with fail
  refine HC.out.mono ?_
  clear HC
  rintro e w2 ⟨osa, csa, osb, csb, rfl, hs, hu⟩
  obtain ⟨M, hna⟩ : ∃ m, ST.b.length = m := ⟨_, rfl⟩
  obtain ⟨N, hnb⟩ : ∃ m, ST.v.length = m := ⟨_, rfl⟩
  have HNA := Lib.hid hna
  have HNB := Lib.hid hnb
  rw [hna, hnb] at hs ⊢
  have hb := BoxS.new hs hna hnb
  have hv := hu.trans (Up.alloc w2 (.cells #[.slice osa M csa, .slice osb N csb] 31))
  clear hu hs hna hnb
  go_upto_region 4 with (fail)
  replace HO := Lib.hid (HO.out.up hv)
  replace HU := Lib.hid (HU.out.trans hv)
  clear hv
  have HBs := Lib.hid hb
  clear hb
  generalize w2.alloc (.cells #[.slice osa M csa, .slice osb N csb] 31) = W2 at HO HU HBs ⊢
  generalize w2.heap.size = Xs at HBs ⊢
  obtain ⟨g64, g6, g32⟩ := good_sizes HG.out
  have HC := Lib.hid (copied_any _ ST W2 HBs.out.st g64 g6 g32)
  unfold CpPost at HC
  have k0 := HBs.out.k0
  have k1 := HBs.out.k1
  go_wp2_with fail
  refine HC.out.mono ?_
  clear HC
  rintro e w3 ⟨vi, rfl, hcp, hu⟩
  have hos := hcp.ost g64 g32
  have hcp2 := hcp
  obtain ⟨gB, vv, CI, hvi, hgB, hrB, hvC, hcv⟩ := hcp2
  subst hvi
  have hCl := hcv.len
  obtain ⟨oW, cW, hvw, _, _⟩ := Sl.slice hvC.vcs
  rw [hCl] at hvw
  subst hvw
  rw [HNA.out, HNB.out] at hos hcp ⊢
  have hr := RSt.new hos (Nat.le_refl _)
  have HLI : Hid (w.heap.size ≤ W2.heap.size) := HU.out.size
  have HHI : Hid (W2.heap.size ≤ w3.heap.size) := hu.size
  clear k0 k1 hgB hrB hvC hcv hCl hos g64 g6 g32
  go_upto_region 5 with (fail)
  have hv := hu.trans (Up.alloc w3 (.cells #[.slice (some ⟨gB, 0, none⟩) M (M + 3), .slice oW N cW] 31))
  have HBi : Hid (RowC (w3.alloc (.cells #[.slice (some ⟨gB, 0, none⟩) M (M + 3), .slice oW N cW] 31)) w3.heap.size 31 [.slice (some ⟨gB, 0, none⟩) M (M + 3), .slice oW N cW]) := heap_alloc_new w3 _
  have HCP := Lib.hid (hcp.up (Up.alloc w3 (.cells #[.slice (some ⟨gB, 0, none⟩) M (M + 3), .slice oW N cW] 31)))
  have HRI := Lib.hid (hr.up (Up.alloc w3 (.cells #[.slice (some ⟨gB, 0, none⟩) M (M + 3), .slice oW N cW] 31)))
  replace HU := Lib.hid (HU.out.trans hv)
  replace HO := Lib.hid (HO.out.up hv)
  replace HBs := Lib.hid (HBs.out.up hv)
  clear hv hu hr hcp
  generalize w3.alloc (.cells #[.slice (some ⟨gB, 0, none⟩) M (M + 3), .slice oW N cW] 31) = W3 at HU HO HBs HBi HCP HRI ⊢
  generalize w3.heap.size = Xi at HBi HRI HHI ⊢
  have HC := Lib.hid (pick_any _ ST a1 W3 HBs.out.st (good_wf HG.out) HG.out.len)
  unfold PickPost at HC
  have k0 := HBs.out.k0
  have k1 := HBs.out.k1
  go_wp2_with fail
  refine HC.out.mono ?_
  clear HC
  rintro e w4 ⟨A, hlA, rfl, hu⟩
  have HLA := Lib.hid hlA
  clear k0 k1 hlA
  replace HU := Lib.hid (HU.out.trans hu)
  replace HO := Lib.hid (HO.out.up hu)
  replace HBs := Lib.hid (HBs.out.up hu)
  replace HBi := Lib.hid (HBi.out.up hu)
  replace HCP := Lib.hid (HCP.out.up hu)
  replace HRI := Lib.hid (HRI.out.up hu)
  clear hu
  have HC := Lib.hid (blocks_own _ ST A w4 HRI.out.stat (good_wf HG.out))
  unfold BoPost at HC
  obtain ⟨⟨DI, DE⟩, hR⟩ : ∃ R, blocks FP ST A = R := ⟨_, rfl⟩
  have hdl : DI.length ≤ 32 := by
    have h9 : (blocks FP ST A).1.length ≤ 32 := by
      cases hx : vix (nmB A) ST.v with
      | none => rw [blocks_miss HG.out hx]; simp
      | some k =>
        obtain ⟨hk, _⟩ := vix_name hx
        rw [blocks_of HG.out hk hx]
        exact (HG.out.vol _ (List.getElem_mem hk)).2.1
    rw [hR] at h9
    exact h9
  have HDL := Lib.hid hdl
  rw [hR] at HC
  simp only at HC
  clear hR hdl
  have i0 := HBi.out.cell (j := 0) rfl
  have i1 := HBi.out.cell (j := 1) rfl
  go_wp2_with fail
  refine HC.out.mono ?_
  clear HC
  rintro e w5 ⟨vd, rfl, hod, hu⟩
  obtain ⟨od, cd, hvd, _, _⟩ := (OIds.ids hod).slice
  subst hvd
  have HRD := Lib.hid (RRw.new hod (Nat.le_refl _))
  obtain ⟨nd, hnd⟩ : ∃ n, DI.length = n := ⟨_, rfl⟩
  rw [hnd] at HRD HDL ⊢
  have HND := Lib.hid hnd
  have HOD : Hid (Xi ≤ w4.heap.size) := Nat.le_of_lt HBi.out.lt
  have HHD : Hid (w4.heap.size ≤ w5.heap.size) := hu.size
  clear i0 i1 hod hnd
  replace HU := Lib.hid (HU.out.trans hu)
  replace HO := Lib.hid (HO.out.up hu)
  replace HBs := Lib.hid (HBs.out.up hu)
  replace HBi := Lib.hid (HBi.out.up hu)
  replace HCP := Lib.hid (HCP.out.up hu)
  replace HRI := Lib.hid (HRI.out.up hu)
  clear hu
  have HC := Lib.hid (make_own _ ST B 3 w5 HRI.out.stat (good_wf HG.out) HLB.out)
  unfold StEPost at HC
  have HGa := Lib.hid (make_goodA (F := FP) ST B 3)
  obtain ⟨⟨TSa, TEa⟩, hR⟩ : ∃ R, make FP ST B 3 = R := ⟨_, rfl⟩
  rw [hR] at HC HGa
  simp only at HC HGa
  clear hR
  have i0 := HBi.out.cell (j := 0) rfl
  have i1 := HBi.out.cell (j := 1) rfl
  go_wp2_with fail
  refine HC.out.mono ?_
  clear HC
  rintro e wa ⟨va, rfl, ho, hu⟩
  obtain ⟨oaa, caa, oab, cab, hva, _, _, _⟩ := ho.slices
  subst hva
  obtain ⟨naa, hna⟩ : ∃ m, TSa.b.length = m := ⟨_, rfl⟩
  obtain ⟨nab, hnb⟩ : ∃ m, TSa.v.length = m := ⟨_, rfl⟩
  rw [hna, hnb] at ho ⊢
  have hr := RSt.new ho (Nat.le_refl _)
  have HHa : Hid (w5.heap.size ≤ wa.heap.size) := hu.size
  clear i0 i1 ho hna hnb
  have HOa : Hid (w5.heap.size ≤ w5.heap.size) := Nat.le_refl _
  have hv := hu.trans (Up.alloc wa (.cells #[.slice oaa naa caa, .slice oab nab cab] 31))
  have HBa : Hid (RowC (wa.alloc (.cells #[.slice oaa naa caa, .slice oab nab cab] 31)) wa.heap.size 31 [.slice oaa naa caa, .slice oab nab cab]) := heap_alloc_new wa _
  have HRa := Lib.hid (hr.up (Up.alloc wa (.cells #[.slice oaa naa caa, .slice oab nab cab] 31)))
  go_upto_region 8 with (fail)
  replace HU := Lib.hid (HU.out.trans hv)
  replace HO := Lib.hid (HO.out.up hv)
  replace HBs := Lib.hid (HBs.out.up hv)
  replace HBi := Lib.hid (HBi.out.up hv)
  replace HCP := Lib.hid (HCP.out.up hv)
  replace HRI := Lib.hid (HRI.out.up hv)
  replace HRD := Lib.hid (HRD.out.up hv)
  clear hv hu hr
  generalize wa.alloc (.cells #[.slice oaa naa caa, .slice oab nab cab] 31) = Wa at HU HO HBs HBi HCP HRI HRD HBa HRa ⊢
  generalize wa.heap.size = Xa at HBa HRa HHa ⊢
  have HC := Lib.hid (vdrop_own _ ST A Wa HRI.out.stat (good_wf HG.out))
  unfold StEPost at HC
  have HGb := Lib.hid (vdrop_goodA (F := FP) ST A)
  obtain ⟨⟨TSb, TEb⟩, hR⟩ : ∃ R, vdrop FP ST A = R := ⟨_, rfl⟩
  rw [hR] at HC HGb
  simp only at HC HGb
  clear hR
  have i0 := HBi.out.cell (j := 0) rfl
  have i1 := HBi.out.cell (j := 1) rfl
  go_wp2_with fail
  refine HC.out.mono ?_
  clear HC
  rintro e wb ⟨vb, rfl, ho, hu⟩
  obtain ⟨oba, cba, obb, cbb, hvb, _, _, _⟩ := ho.slices
  subst hvb
  obtain ⟨nba, hna⟩ : ∃ m, TSb.b.length = m := ⟨_, rfl⟩
  obtain ⟨nbb, hnb⟩ : ∃ m, TSb.v.length = m := ⟨_, rfl⟩
  rw [hna, hnb] at ho ⊢
  have hr := RSt.new ho (Nat.le_refl _)
  have HHb : Hid (Wa.heap.size ≤ wb.heap.size) := hu.size
  clear i0 i1 ho hna hnb
  have HOb : Hid (Xa ≤ Wa.heap.size) := Nat.le_of_lt HBa.out.lt
  have hv := hu.trans (Up.alloc wb (.cells #[.slice oba nba cba, .slice obb nbb cbb] 31))
  have HBb : Hid (RowC (wb.alloc (.cells #[.slice oba nba cba, .slice obb nbb cbb] 31)) wb.heap.size 31 [.slice oba nba cba, .slice obb nbb cbb]) := heap_alloc_new wb _
  have HRb := Lib.hid (hr.up (Up.alloc wb (.cells #[.slice oba nba cba, .slice obb nbb cbb] 31)))
  go_upto_region 9 with (fail)
  replace HU := Lib.hid (HU.out.trans hv)
  replace HO := Lib.hid (HO.out.up hv)
  replace HBs := Lib.hid (HBs.out.up hv)
  replace HBi := Lib.hid (HBi.out.up hv)
  replace HCP := Lib.hid (HCP.out.up hv)
  replace HRI := Lib.hid (HRI.out.up hv)
  replace HRD := Lib.hid (HRD.out.up hv)
  replace HBa := Lib.hid (HBa.out.up hv)
  replace HRa := Lib.hid (HRa.out.up hv)
  clear hv hu hr
  generalize wb.alloc (.cells #[.slice oba nba cba, .slice obb nbb cbb] 31) = Wb at HU HO HBs HBi HCP HRI HRD HBa HRa HBb HRb ⊢
  generalize wb.heap.size = Xb at HBb HRb HHb ⊢
  have HC := Lib.hid (trim_any _ ST A a2 Wb HRI.out.stat (good_wf HG.out))
  unfold StEPost at HC
  have HGc := Lib.hid (trim_goodA (F := FP) ST A a2)
  obtain ⟨⟨TSc, TEc⟩, hR⟩ : ∃ R, trim FP ST A a2 = R := ⟨_, rfl⟩
  rw [hR] at HC HGc
  simp only at HC HGc
  clear hR
  have i0 := HBi.out.cell (j := 0) rfl
  have i1 := HBi.out.cell (j := 1) rfl
  go_wp2_with fail
  refine HC.out.mono ?_
  clear HC
  rintro e wc ⟨vc, rfl, ho, hu⟩
  obtain ⟨oca, cca, ocb, ccb, hvc, _, _, _⟩ := ho.slices
  subst hvc
  obtain ⟨nca, hna⟩ : ∃ m, TSc.b.length = m := ⟨_, rfl⟩
  obtain ⟨ncb, hnb⟩ : ∃ m, TSc.v.length = m := ⟨_, rfl⟩
  rw [hna, hnb] at ho ⊢
  have hr := RSt.new ho (Nat.le_refl _)
  have HHc : Hid (Wb.heap.size ≤ wc.heap.size) := hu.size
  clear i0 i1 ho hna hnb
  have HOc : Hid (Xb ≤ Wb.heap.size) := Nat.le_of_lt HBb.out.lt
  have hv := hu.trans (Up.alloc wc (.cells #[.slice oca nca cca, .slice ocb ncb ccb] 31))
  have HBc : Hid (RowC (wc.alloc (.cells #[.slice oca nca cca, .slice ocb ncb ccb] 31)) wc.heap.size 31 [.slice oca nca cca, .slice ocb ncb ccb]) := heap_alloc_new wc _
  have HRc := Lib.hid (hr.up (Up.alloc wc (.cells #[.slice oca nca cca, .slice ocb ncb ccb] 31)))
  go_upto_region 10 with (fail)
  replace HU := Lib.hid (HU.out.trans hv)
  replace HO := Lib.hid (HO.out.up hv)
  replace HBs := Lib.hid (HBs.out.up hv)
  replace HBi := Lib.hid (HBi.out.up hv)
  replace HCP := Lib.hid (HCP.out.up hv)
  replace HRI := Lib.hid (HRI.out.up hv)
  replace HRD := Lib.hid (HRD.out.up hv)
  replace HBa := Lib.hid (HBa.out.up hv)
  replace HRa := Lib.hid (HRa.out.up hv)
  replace HBb := Lib.hid (HBb.out.up hv)
  replace HRb := Lib.hid (HRb.out.up hv)
  clear hv hu hr
  generalize wc.alloc (.cells #[.slice oca nca cca, .slice ocb ncb ccb] 31) = Wc at HU HO HBs HBi HCP HRI HRD HBa HRa HBb HRb HBc HRc ⊢
  generalize wc.heap.size = Xc at HBc HRc HHc ⊢
  have HC := Lib.hid (write_any _ ST A S a2 Wc HRI.out.stat (good_wf HG.out))
  unfold StEPost at HC
  have HGd := Lib.hid (write_goodA (F := FP) ST A S a2)
  obtain ⟨⟨TSd, TEd⟩, hR⟩ : ∃ R, write FP ST A a2 S = R := ⟨_, rfl⟩
  rw [hR] at HC HGd
  simp only at HC HGd
  clear hR
  have i0 := HBi.out.cell (j := 0) rfl
  have i1 := HBi.out.cell (j := 1) rfl
  go_wp2_with fail
  refine HC.out.mono ?_
  clear HC
  rintro e wd ⟨vd, rfl, ho, hu⟩
  obtain ⟨oda, cda, odb, cdb, hvd, _, _, _⟩ := ho.slices
  subst hvd
  obtain ⟨nda, hna⟩ : ∃ m, TSd.b.length = m := ⟨_, rfl⟩
  obtain ⟨ndb, hnb⟩ : ∃ m, TSd.v.length = m := ⟨_, rfl⟩
  rw [hna, hnb] at ho ⊢
  have hr := RSt.new ho (Nat.le_refl _)
  have HHd : Hid (Wc.heap.size ≤ wd.heap.size) := hu.size
  clear i0 i1 ho hna hnb
  have HOd : Hid (Xc ≤ Wc.heap.size) := Nat.le_of_lt HBc.out.lt
  have hv := hu.trans (Up.alloc wd (.cells #[.slice oda nda cda, .slice odb ndb cdb] 31))
  have HBd : Hid (RowC (wd.alloc (.cells #[.slice oda nda cda, .slice odb ndb cdb] 31)) wd.heap.size 31 [.slice oda nda cda, .slice odb ndb cdb]) := heap_alloc_new wd _
  have HRd := Lib.hid (hr.up (Up.alloc wd (.cells #[.slice oda nda cda, .slice odb ndb cdb] 31)))
  go_upto_region 11 with (fail)
  replace HU := Lib.hid (HU.out.trans hv)
  replace HO := Lib.hid (HO.out.up hv)
  replace HBs := Lib.hid (HBs.out.up hv)
  replace HBi := Lib.hid (HBi.out.up hv)
  replace HCP := Lib.hid (HCP.out.up hv)
  replace HRI := Lib.hid (HRI.out.up hv)
  replace HRD := Lib.hid (HRD.out.up hv)
  replace HBa := Lib.hid (HBa.out.up hv)
  replace HRa := Lib.hid (HRa.out.up hv)
  replace HBb := Lib.hid (HBb.out.up hv)
  replace HRb := Lib.hid (HRb.out.up hv)
  replace HBc := Lib.hid (HBc.out.up hv)
  replace HRc := Lib.hid (HRc.out.up hv)
  clear hv hu hr
  generalize wd.alloc (.cells #[.slice oda nda cda, .slice odb ndb cdb] 31) = Wd at HU HO HBs HBi HCP HRI HRD HBa HRa HBb HRb HBc HRc HBd HRd ⊢
  generalize wd.heap.size = Xd at HBd HRd HHd ⊢
  have HC := Lib.hid (vclone_own _ ST A B Wd HRI.out.stat (good_wf HG.out) HLB.out)
  unfold StEPost at HC
  have HGe := Lib.hid (clone_goodA (F := FP) ST A B)
  obtain ⟨⟨TSe, TEe⟩, hR⟩ : ∃ R, clone FP ST A B = R := ⟨_, rfl⟩
  rw [hR] at HC HGe
  simp only at HC HGe
  clear hR
  have i0 := HBi.out.cell (j := 0) rfl
  have i1 := HBi.out.cell (j := 1) rfl
  go_wp2_with fail
  refine HC.out.mono ?_
  clear HC
  rintro e we ⟨ve, rfl, ho, hu⟩
  obtain ⟨oea, cea, oeb, ceb, hve, _, _, _⟩ := ho.slices
  subst hve
  obtain ⟨nea, hna⟩ : ∃ m, TSe.b.length = m := ⟨_, rfl⟩
  obtain ⟨neb, hnb⟩ : ∃ m, TSe.v.length = m := ⟨_, rfl⟩
  rw [hna, hnb] at ho ⊢
  have hr := RSt.new ho (Nat.le_refl _)
  have HHe : Hid (Wd.heap.size ≤ we.heap.size) := hu.size
  clear i0 i1 ho hna hnb
  have HOe : Hid (Xd ≤ Wd.heap.size) := Nat.le_of_lt HBd.out.lt
  have hv := hu.trans (Up.alloc we (.cells #[.slice oea nea cea, .slice oeb neb ceb] 31))
  have HBe : Hid (RowC (we.alloc (.cells #[.slice oea nea cea, .slice oeb neb ceb] 31)) we.heap.size 31 [.slice oea nea cea, .slice oeb neb ceb]) := heap_alloc_new we _
  have HRe := Lib.hid (hr.up (Up.alloc we (.cells #[.slice oea nea cea, .slice oeb neb ceb] 31)))
  go_upto_region 12 with (fail)
  replace HU := Lib.hid (HU.out.trans hv)
  replace HO := Lib.hid (HO.out.up hv)
  replace HBs := Lib.hid (HBs.out.up hv)
  replace HBi := Lib.hid (HBi.out.up hv)
  replace HCP := Lib.hid (HCP.out.up hv)
  replace HRI := Lib.hid (HRI.out.up hv)
  replace HRD := Lib.hid (HRD.out.up hv)
  replace HBa := Lib.hid (HBa.out.up hv)
  replace HRa := Lib.hid (HRa.out.up hv)
  replace HBb := Lib.hid (HBb.out.up hv)
  replace HRb := Lib.hid (HRb.out.up hv)
  replace HBc := Lib.hid (HBc.out.up hv)
  replace HRc := Lib.hid (HRc.out.up hv)
  replace HBd := Lib.hid (HBd.out.up hv)
  replace HRd := Lib.hid (HRd.out.up hv)
  clear hv hu hr
  generalize we.alloc (.cells #[.slice oea nea cea, .slice oeb neb ceb] 31) = We at HU HO HBs HBi HCP HRI HRD HBa HRa HBb HRb HBc HRc HBd HRd HBe HRe ⊢
  generalize we.heap.size = Xe at HBe HRe HHe ⊢
  have HC := Lib.hid (copy_own _ (.slice none 0 0) ST A A [] We HRI.out.stat (good_wf HG.out) (Sl.nil _ 1))
  unfold StEPost at HC
  have HGf := Lib.hid (cpR_goodN HG.out A A)
  obtain ⟨⟨TSf, TEf⟩, hR⟩ : ∃ R, cpR ST A A [] = R := ⟨_, rfl⟩
  rw [hR] at HC HGf
  simp only at HC HGf
  clear hR
  have i0 := HBi.out.cell (j := 0) rfl
  have i1 := HBi.out.cell (j := 1) rfl
  go_wp2_with fail
  refine HC.out.mono ?_
  clear HC
  rintro e wf ⟨vf, rfl, ho, hu⟩
  obtain ⟨ofa, cfa, ofb, cfb, hvf, _, _, _⟩ := ho.slices
  subst hvf
  obtain ⟨nfa, hna⟩ : ∃ m, TSf.b.length = m := ⟨_, rfl⟩
  obtain ⟨nfb, hnb⟩ : ∃ m, TSf.v.length = m := ⟨_, rfl⟩
  rw [hna, hnb] at ho ⊢
  have hr := RSt.new ho (Nat.le_refl _)
  have HHf : Hid (We.heap.size ≤ wf.heap.size) := hu.size
  clear i0 i1 ho hna hnb
  have HOf : Hid (Xe ≤ We.heap.size) := Nat.le_of_lt HBe.out.lt
  have hv := hu.trans (Up.alloc wf (.cells #[.slice ofa nfa cfa, .slice ofb nfb cfb] 31))
  have HBf : Hid (RowC (wf.alloc (.cells #[.slice ofa nfa cfa, .slice ofb nfb cfb] 31)) wf.heap.size 31 [.slice ofa nfa cfa, .slice ofb nfb cfb]) := heap_alloc_new wf _
  have HRf := Lib.hid (hr.up (Up.alloc wf (.cells #[.slice ofa nfa cfa, .slice ofb nfb cfb] 31)))
  go_upto_region 13 with (fail)
  replace HU := Lib.hid (HU.out.trans hv)
  replace HO := Lib.hid (HO.out.up hv)
  replace HBs := Lib.hid (HBs.out.up hv)
  replace HBi := Lib.hid (HBi.out.up hv)
  replace HCP := Lib.hid (HCP.out.up hv)
  replace HRI := Lib.hid (HRI.out.up hv)
  replace HRD := Lib.hid (HRD.out.up hv)
  replace HBa := Lib.hid (HBa.out.up hv)
  replace HRa := Lib.hid (HRa.out.up hv)
  replace HBb := Lib.hid (HBb.out.up hv)
  replace HRb := Lib.hid (HRb.out.up hv)
  replace HBc := Lib.hid (HBc.out.up hv)
  replace HRc := Lib.hid (HRc.out.up hv)
  replace HBd := Lib.hid (HBd.out.up hv)
  replace HRd := Lib.hid (HRd.out.up hv)
  replace HBe := Lib.hid (HBe.out.up hv)
  replace HRe := Lib.hid (HRe.out.up hv)
  clear hv hu hr
  generalize wf.alloc (.cells #[.slice ofa nfa cfa, .slice ofb nfb cfb] 31) = Wf at HU HO HBs HBi HCP HRI HRD HBa HRa HBb HRb HBc HRc HBd HRd HBe HRe HBf HRf ⊢
  generalize wf.heap.size = Xf at HBf HRf HHf ⊢
  have HC := Lib.hid (HDO2.out _ ST Wf HRI.out.stat (good_wf HG.out))
  unfold StEPost at HC
  have HGg := Lib.hid (HGO2.out ST)
  obtain ⟨⟨TSg, TEg⟩, hR⟩ : ∃ R, FO ST = R := ⟨_, rfl⟩
  rw [hR] at HC HGg
  simp only at HC HGg
  clear hR
  have i0 := HBi.out.cell (j := 0) rfl
  have i1 := HBi.out.cell (j := 1) rfl
  have p0 := HO.out.cell (j := 0) rfl
  have p1 := HO.out.cell (j := 1) rfl
  have p2 := HO.out.cell (j := 2) rfl
  have p3 := HO.out.cell (j := 3) rfl
  have p4 := HO.out.cell (j := 4) rfl
  go_wp2_with fail
  refine HC.out.mono ?_
  clear HC
  rintro e wg ⟨vg, rfl, ho, hu⟩
  obtain ⟨oga, cga, ogb, cgb, hvg, _, _, _⟩ := ho.slices
  subst hvg
  obtain ⟨nga, hna⟩ : ∃ m, TSg.b.length = m := ⟨_, rfl⟩
  obtain ⟨ngb, hnb⟩ : ∃ m, TSg.v.length = m := ⟨_, rfl⟩
  rw [hna, hnb] at ho ⊢
  have hr := RSt.new ho (Nat.le_refl _)
  have HHg : Hid (Wf.heap.size ≤ wg.heap.size) := hu.size
  clear i0 i1 ho hna hnb
  have HOg : Hid (Xf ≤ Wf.heap.size) := Nat.le_of_lt HBf.out.lt
  clear p0 p1 p2 p3 p4
  have hv := hu.trans (Up.alloc wg (.cells #[.slice oga nga cga, .slice ogb ngb cgb] 31))
  have HBg : Hid (RowC (wg.alloc (.cells #[.slice oga nga cga, .slice ogb ngb cgb] 31)) wg.heap.size 31 [.slice oga nga cga, .slice ogb ngb cgb]) := heap_alloc_new wg _
  have HRg := Lib.hid (hr.up (Up.alloc wg (.cells #[.slice oga nga cga, .slice ogb ngb cgb] 31)))
  go_upto_region 14 with (fail)
  replace HU := Lib.hid (HU.out.trans hv)
  replace HO := Lib.hid (HO.out.up hv)
  replace HBs := Lib.hid (HBs.out.up hv)
  replace HBi := Lib.hid (HBi.out.up hv)
  replace HCP := Lib.hid (HCP.out.up hv)
  replace HRI := Lib.hid (HRI.out.up hv)
  replace HRD := Lib.hid (HRD.out.up hv)
  replace HBa := Lib.hid (HBa.out.up hv)
  replace HRa := Lib.hid (HRa.out.up hv)
  replace HBb := Lib.hid (HBb.out.up hv)
  replace HRb := Lib.hid (HRb.out.up hv)
  replace HBc := Lib.hid (HBc.out.up hv)
  replace HRc := Lib.hid (HRc.out.up hv)
  replace HBd := Lib.hid (HBd.out.up hv)
  replace HRd := Lib.hid (HRd.out.up hv)
  replace HBe := Lib.hid (HBe.out.up hv)
  replace HRe := Lib.hid (HRe.out.up hv)
  replace HBf := Lib.hid (HBf.out.up hv)
  replace HRf := Lib.hid (HRf.out.up hv)
  clear hv hu hr
  generalize wg.alloc (.cells #[.slice oga nga cga, .slice ogb ngb cgb] 31) = Wg at HU HO HBs HBi HCP HRI HRD HBa HRa HBb HRb HBc HRc HBd HRd HBe HRe HBf HRf HBg HRg ⊢
  generalize wg.heap.size = Xg at HBg HRg HHg ⊢
  have i0 := HBi.out.cell (j := 0) rfl
  have i1 := HBi.out.cell (j := 1) rfl
  have k0 := HBs.out.k0
  have k1 := HBs.out.k1
  go_wp2_with fail
  refine (same_yes _ _ ST _ HRI.out.stat HBs.out.st).mono ?_
  rintro e W7 ⟨rfl, hu⟩
  clear i0 i1 k0 k1
  replace HU := Lib.hid (HU.out.trans hu)
  replace HO := Lib.hid (HO.out.up hu)
  replace HBs := Lib.hid (HBs.out.up hu)
  replace HBi := Lib.hid (HBi.out.up hu)
  replace HCP := Lib.hid (HCP.out.up hu)
  replace HRI := Lib.hid (HRI.out.up hu)
  replace HRD := Lib.hid (HRD.out.up hu)
  replace HBa := Lib.hid (HBa.out.up hu)
  replace HRa := Lib.hid (HRa.out.up hu)
  replace HBb := Lib.hid (HBb.out.up hu)
  replace HRb := Lib.hid (HRb.out.up hu)
  replace HBc := Lib.hid (HBc.out.up hu)
  replace HRc := Lib.hid (HRc.out.up hu)
  replace HBd := Lib.hid (HBd.out.up hu)
  replace HRd := Lib.hid (HRd.out.up hu)
  replace HBe := Lib.hid (HBe.out.up hu)
  replace HRe := Lib.hid (HRe.out.up hu)
  replace HBf := Lib.hid (HBf.out.up hu)
  replace HRf := Lib.hid (HRf.out.up hu)
  replace HBg := Lib.hid (HBg.out.up hu)
  replace HRg := Lib.hid (HRg.out.up hu)
  clear hu
  have i0 := HBi.out.cell (j := 0) rfl
  have i1 := HBi.out.cell (j := 1) rfl
  have HMK := Lib.hid (mark_items gB M ST.b W7 HCP.out.parts.1 (good_sizes HG.out).1 HNA.out)
  go_wp2_with fail
  refine HMK.out.mono ?_
  clear HMK
  rintro e W8 ⟨rfl, hu⟩
  clear i0 i1
  replace HU := Lib.hid (HU.out.trans hu)
  replace HO := Lib.hid (HO.out.up hu)
  replace HBs := Lib.hid (HBs.out.up hu)
  replace HBi := Lib.hid (HBi.out.up hu)
  replace HCP := Lib.hid (HCP.out.up hu)
  replace HRI := Lib.hid (HRI.out.up hu)
  replace HRD := Lib.hid (HRD.out.up hu)
  replace HBa := Lib.hid (HBa.out.up hu)
  replace HRa := Lib.hid (HRa.out.up hu)
  replace HBb := Lib.hid (HBb.out.up hu)
  replace HRb := Lib.hid (HRb.out.up hu)
  replace HBc := Lib.hid (HBc.out.up hu)
  replace HRc := Lib.hid (HRc.out.up hu)
  replace HBd := Lib.hid (HBd.out.up hu)
  replace HRd := Lib.hid (HRd.out.up hu)
  replace HBe := Lib.hid (HBe.out.up hu)
  replace HRe := Lib.hid (HRe.out.up hu)
  replace HBf := Lib.hid (HBf.out.up hu)
  replace HRf := Lib.hid (HRf.out.up hu)
  replace HBg := Lib.hid (HBg.out.up hu)
  replace HRg := Lib.hid (HRg.out.up hu)
  clear hu
  have i0 := HBi.out.cell (j := 0) rfl
  have i1 := HBi.out.cell (j := 1) rfl
  obtain ⟨_, C, hvC, hcv⟩ := HCP.out.parts
  have hCl : C.length = N := hcv.len.trans HNB.out
  have HCN := Lib.hid hCl
  have HVC := Lib.hid hvC
  have HCV := Lib.hid hcv
  have HN6 : Hid (N ≤ 6) := by
    rw [← HNB.out]
    exact (good_sizes HG.out).2.1
  have HST : Hid (MkVRel N W8 (.int .i64 0) W8) := ⟨0, Nat.zero_le _, rfl, Up.refl _⟩
  clear hvC hcv hCl
  go_wp2_with fail
  clear i0 i1
  go_loopw [117] (MkVRel N W8) (fun i _ => N - (intOf i).toNat)
  case atStart => exact HST.out
  case round =>
    clear HST
    obtain ⟨j, hj, rfl, hI⟩ := hrel
    have HI := Lib.hid hI
    have hn6 := HN6.out
    clear hI
    by_cases hlt : j < N
    · have dz : decide (j < N) = true := decide_eq_true hlt
      have hjC : j < C.length := by rw [HCN.out]; exact hlt
      have hjS : j < ST.v.length := by rw [HNB.out]; exact hlt
      have hvc : VCs wr (.slice oW N cW) C := Sl.up HVC.out.vcs HI.out
      obtain ⟨b, off, hpo, hat⟩ := VCs.at hvc (fun e => by rw [e] at hjC; simp at hjC)
      obtain ⟨e1, e2⟩ := hat j hjC
      obtain ⟨g, hsl, hlo, hrd⟩ := HCV.out.bl j hjS hjC
      obtain ⟨NL, hNL⟩ : ∃ NL, ST.v[j].bl.length = NL := ⟨_, rfl⟩
      have HMK := Lib.hid (fun W (hW : Up wr W) => mark_ids g NL ST.v[j].bl W ((RowD.up hrd HI.out).up hW) ((good_sizes HG.out).2.2 _ (List.getElem_mem hjS)) hNL)
      rw [hsl, hNL] at e2
      generalize bs C[j].nm = NM at e1
      subst hpo
      clear hat hsl hlo hrd hNL hvc
      go_upto_region 19 with (fail)
      have HUP := Lib.hid (Up.alloc wr (.cells #[.string NM, .slice (some ⟨g, 0, none⟩) NL (NL + 3)] 62))
      have HQ : Hid (RowC (wr.alloc (.cells #[.string NM, .slice (some ⟨g, 0, none⟩) NL (NL + 3)] 62)) wr.heap.size 62 [.string NM, .slice (some ⟨g, 0, none⟩) NL (NL + 3)]) := heap_alloc_new wr _
      generalize wr.alloc (.cells #[.string NM, .slice (some ⟨g, 0, none⟩) NL (NL + 3)] 62) = WA at HUP HQ ⊢
      generalize wr.heap.size = Q at HQ ⊢
      have y1 := HQ.out.cell (j := 1) rfl
      clear e1 e2
      go_wp2_with fail
      refine (HMK.out _ HUP.out).mono ?_
      rintro e w5 ⟨rfl, u5⟩
      have HI5 := Lib.hid ((HI.out.trans HUP.out).trans u5)
      clear y1 u5
      go_wp2_with fail
      go_roundw
      case rel => exact ⟨j + 1, by omega, by go_num, HI5.out⟩
      case measure => simp only [intOf]; omega
    · have dz : decide (j < N) = false := decide_eq_false hlt
      replace HU := Lib.hid (HU.out.trans HI.out)
      replace HO := Lib.hid (HO.out.up HI.out)
      replace HBs := Lib.hid (HBs.out.up HI.out)
      replace HBi := Lib.hid (HBi.out.up HI.out)
      replace HCP := Lib.hid (HCP.out.up HI.out)
      replace HRI := Lib.hid (HRI.out.up HI.out)
      replace HRD := Lib.hid (HRD.out.up HI.out)
      replace HBa := Lib.hid (HBa.out.up HI.out)
      replace HRa := Lib.hid (HRa.out.up HI.out)
      replace HBb := Lib.hid (HBb.out.up HI.out)
      replace HRb := Lib.hid (HRb.out.up HI.out)
      replace HBc := Lib.hid (HBc.out.up HI.out)
      replace HRc := Lib.hid (HRc.out.up HI.out)
      replace HBd := Lib.hid (HBd.out.up HI.out)
      replace HRd := Lib.hid (HRd.out.up HI.out)
      replace HBe := Lib.hid (HBe.out.up HI.out)
      replace HRe := Lib.hid (HRe.out.up HI.out)
      replace HBf := Lib.hid (HBf.out.up HI.out)
      replace HRf := Lib.hid (HRf.out.up HI.out)
      replace HBg := Lib.hid (HBg.out.up HI.out)
      replace HRg := Lib.hid (HRg.out.up HI.out)
      clear HI HVC HCV HCP hj hn6
      generalize wr = W9 at HU HO HBs HBi HRI HRD HBa HRa HBb HRb HBc HRc HBd HRd HBe HRe HBf HRf HBg HRg ⊢
      have ba0 := HBa.out.cell (j := 0) rfl
      have ba1 := HBa.out.cell (j := 1) rfl
      have bb0 := HBb.out.cell (j := 0) rfl
      have bb1 := HBb.out.cell (j := 1) rfl
      have bc0 := HBc.out.cell (j := 0) rfl
      have bc1 := HBc.out.cell (j := 1) rfl
      have bd0 := HBd.out.cell (j := 0) rfl
      have bd1 := HBd.out.cell (j := 1) rfl
      have be0 := HBe.out.cell (j := 0) rfl
      have be1 := HBe.out.cell (j := 1) rfl
      have bf0 := HBf.out.cell (j := 0) rfl
      have bf1 := HBf.out.cell (j := 1) rfl
      have bg0 := HBg.out.cell (j := 0) rfl
      have bg1 := HBg.out.cell (j := 1) rfl
      have q0 : w5.heap.size ≤ w5.heap.size := Nat.le_refl _
      have q1 : w5.heap.size ≤ Xa := Nat.le_trans q0 (Nat.le_trans HOa.out HHa.out)
      have q2 : w5.heap.size ≤ Xb := Nat.le_trans q1 (Nat.le_trans HOb.out HHb.out)
      have q3 : w5.heap.size ≤ Xc := Nat.le_trans q2 (Nat.le_trans HOc.out HHc.out)
      have q4 : w5.heap.size ≤ Xd := Nat.le_trans q3 (Nat.le_trans HOd.out HHd.out)
      have q5 : w5.heap.size ≤ Xe := Nat.le_trans q4 (Nat.le_trans HOe.out HHe.out)
      have q6 : w5.heap.size ≤ Xf := Nat.le_trans q5 (Nat.le_trans HOf.out HHf.out)
      have q7 : w5.heap.size ≤ Xg := Nat.le_trans q6 (Nat.le_trans HOg.out HHg.out)
      obtain ⟨L, hsg, hod, hL7, hfl⟩ : ∃ L : List Seg, Segs W9 L ∧ Ordd L w5.heap.size Xg ∧ L.length = 7 ∧ fl sgC L = [.slice oaa naa caa, .slice oab nab cab, .slice oba nba cba, .slice obb nbb cbb, .slice oca nca cca, .slice ocb ncb ccb, .slice oda nda cda, .slice odb ndb cdb, .slice oea nea cea, .slice oeb neb ceb, .slice ofa nfa cfa, .slice ofb nfb cfb, .slice oga nga cga, .slice ogb ngb cgb] :=
        ⟨([] ++ [(⟨w5.heap.size, Xa, .slice oaa naa caa, .slice oab nab cab, TSa⟩ : Seg)] ++ [(⟨Wa.heap.size, Xb, .slice oba nba cba, .slice obb nbb cbb, TSb⟩ : Seg)] ++ [(⟨Wb.heap.size, Xc, .slice oca nca cca, .slice ocb ncb ccb, TSc⟩ : Seg)] ++ [(⟨Wc.heap.size, Xd, .slice oda nda cda, .slice odb ndb cdb, TSd⟩ : Seg)] ++ [(⟨Wd.heap.size, Xe, .slice oea nea cea, .slice oeb neb ceb, TSe⟩ : Seg)] ++ [(⟨We.heap.size, Xf, .slice ofa nfa cfa, .slice ofb nfb cfb, TSf⟩ : Seg)] ++ [(⟨Wf.heap.size, Xg, .slice oga nga cga, .slice ogb ngb cgb, TSg⟩ : Seg)] : List Seg), (((((((Segs.nil _).snoc HRa.out HGa.out).snoc HRb.out HGb.out).snoc HRc.out HGc.out).snoc HRd.out HGd.out).snoc HRe.out HGe.out).snoc HRf.out HGf.out).snoc HRg.out HGg.out, (((((((Ordd.nil _ _).snoc (m := w5.heap.size) HOa.out q0 HHa.out (Nat.le_refl _)).snoc (m := Xa) HOb.out q1 HHb.out (Nat.le_refl _)).snoc (m := Xb) HOc.out q2 HHc.out (Nat.le_refl _)).snoc (m := Xc) HOd.out q3 HHd.out (Nat.le_refl _)).snoc (m := Xd) HOe.out q4 HHe.out (Nat.le_refl _)).snoc (m := Xe) HOf.out q5 HHf.out (Nat.le_refl _)).snoc (m := Xf) HOg.out q6 HHg.out (Nat.le_refl _), rfl, rfl⟩
      have HXG : Hid (Xg ≤ W9.heap.size) := Nat.le_of_lt HBg.out.lt
      have HODR := Lib.hid (hod.last HXG.out)
      have HL7 := Lib.hid hL7
      have HFL := Lib.hid hfl
      have HSG := Lib.hid hsg
      have HWI : Hid (Xi ≤ w5.heap.size) := Nat.le_trans HOD.out HHD.out
      have HWX : Hid (w5.heap.size ≤ Xg) := q7
      clear q0 q1 q2 q3 q4 q5 q6 q7 hsg hod hL7 hfl
      clear HOa HHa HRa HGa
      clear HOb HHb HRb HGb
      clear HOc HHc HRc HGc
      clear HOd HHd HRd HGd
      clear HOe HHe HRe HGe
      clear HOf HHf HRf HGf
      clear HOg HHg HRg HGg
      go_upto_region 24 with (fail)
      clear ba0 ba1 HBa
      clear bb0 bb1 HBb
      clear bc0 bc1 HBc
      clear bd0 bd1 HBd
      clear be0 be1 HBe
      clear bf0 bf1 HBf
      clear bg0 bg1 HBg
      have HAL : Hid (RowC (W9.alloc (.cells #[.slice oaa naa caa, .slice oab nab cab, .slice oba nba cba, .slice obb nbb cbb, .slice oca nca cca, .slice ocb ncb ccb, .slice oda nda cda, .slice odb ndb cdb, .slice oea nea cea, .slice oeb neb ceb, .slice ofa nfa cfa, .slice ofb nfb cfb, .slice oga nga cga, .slice ogb ngb cgb] 31)) W9.heap.size 31 (fl sgC L)) := by
        rw [HFL.out]
        exact heap_alloc_new W9 _
      have hv := Up.alloc W9 (.cells #[.slice oaa naa caa, .slice oab nab cab, .slice oba nba cba, .slice obb nbb cbb, .slice oca nca cca, .slice ocb ncb ccb, .slice oda nda cda, .slice odb ndb cdb, .slice oea nea cea, .slice oeb neb ceb, .slice ofa nfa cfa, .slice ofb nfb cfb, .slice oga nga cga, .slice ogb ngb cgb] 31)
      clear HFL
      replace HU := Lib.hid (HU.out.trans hv)
      replace HO := Lib.hid (HO.out.up hv)
      replace HBs := Lib.hid (HBs.out.up hv)
      replace HBi := Lib.hid (HBi.out.up hv)
      replace HRI := Lib.hid (HRI.out.up hv)
      replace HRD := Lib.hid (HRD.out.up hv)
      replace HSG := Lib.hid (HSG.out.up hv)
      clear hv
      generalize W9.alloc (.cells #[.slice oaa naa caa, .slice oab nab cab, .slice oba nba cba, .slice obb nbb cbb, .slice oca nca cca, .slice ocb ncb ccb, .slice oda nda cda, .slice odb ndb cdb, .slice oea nea cea, .slice oeb neb ceb, .slice ofa nfa cfa, .slice ofb nfb cfb, .slice oga nga cga, .slice ogb ngb cgb] 31) = WB at HU HO HBs HBi HRI HRD HSG HAL ⊢
      generalize W9.heap.size = AB at HAL HODR HXG ⊢
      obtain ⟨si, hi', hz0, hz1, hz2⟩ := stateInfo'
      have HI0 := Lib.hid hi'
      have HZ0 := Lib.hid hz0
      have HZ1 := Lib.hid hz1
      have HZ2 := Lib.hid hz2
      clear hi' hz0 hz1 hz2
      have HST : Hid (WtRel L AB AB WB (.slice none 0 0) (.int .i64 0) WB) := ⟨0, [], Nat.zero_le _, rfl, ⟨HAL.out, rfl, World.ownsRow_nil _ _ _ _, fun k h1 => absurd h1 (by simp), Up.refl _⟩⟩
      have HABW : Hid (AB < WB.heap.size) := HAL.out.lt
      clear HAL
      go_wp2_with fail
      go_loopw [35, 137] (WtRel L AB AB WB) (fun _ i _ => 7 - (intOf i).toNat)
      case atStart => exact HST.out
      case round =>
        clear HST
        obtain ⟨j, U, hj, rfl, hI⟩ := hrel
        have HI := Lib.hid hI
        rw [HL7.out] at hj
        obtain ⟨oP, cP, hwv, hcP1, hcP2⟩ := (Sl.of_own hI.want).slice
        subst hwv
        clear hI
        by_cases hlt : j < 7
        · have dz : decide (j < 7) = true := decide_eq_true hlt
          have dz2 : decide ((j : Int) < 7) = true := decide_eq_true (by omega)
          have hjL : j < L.length := by rw [HL7.out]; exact hlt
          obtain ⟨c0, c1⟩ := seg_cells HI.out.row hjL
          obtain ⟨s1, m1, k1, s2, m2, k2, hx, hy⟩ := HSG.out.at j hjL
          have HGJ := Lib.hid (HSG.out j hjL).2
          have HSJ := Lib.hid (HSG.out j hjL).1.stat
          rw [hx, hy] at HSJ
          rw [hx] at c0
          rw [hy] at c1
          have HCJ := Lib.hid (fun W (hW : Up WB W) => copied_any _ L[j].st W (HSJ.out.up hW) (good_sizes HGJ.out).1 (good_sizes HGJ.out).2.1 (good_sizes HGJ.out).2.2)
          unfold CpPost at HCJ
          have HU0 := Lib.hid HI.out.up
          clear hx hy
          go_upto_region 27 with (fail)
          have HUP := Lib.hid (Up.alloc wr (.cells #[.slice s1 m1 k1, .slice s2 m2 k2] 31))
          have HQ : Hid (RowC (wr.alloc (.cells #[.slice s1 m1 k1, .slice s2 m2 k2] 31)) wr.heap.size 31 [.slice s1 m1 k1, .slice s2 m2 k2]) := heap_alloc_new wr _
          generalize wr.alloc (.cells #[.slice s1 m1 k1, .slice s2 m2 k2] 31) = W5 at HUP HQ ⊢
          generalize wr.heap.size = Q at HQ ⊢
          have y0 := HQ.out.cell (j := 0) rfl
          have y1 := HQ.out.cell (j := 1) rfl
          clear c0 c1
          go_wp2_with fail
          refine (HCJ.out _ (HU0.out.trans HUP.out)).mono ?_
          rintro e w6 ⟨v6, rfl, hcp, u6⟩

          obtain ⟨t1, p1, l1, t2, p2, l2, rfl⟩ := hcp.slices
          have hos : OSt w6 AB (.agg #[.slice t1 p1 l1, .slice t2 p2 l2]) L[j].st := OSt.base (hcp.ost (good_sizes HGJ.out).1 (good_sizes HGJ.out).2.2) (Nat.le_trans (Nat.le_of_lt HABW.out) (HU0.out.trans HUP.out).size)
          have HOS := Lib.hid hos
          have H6 := Lib.hid (HI.out.upW (HUP.out.trans u6))
          have HTQ := Lib.hid H6.out.want
          have HU6 := Lib.hid H6.out.up
          clear hcp hos u6 y0 y1 HCJ
          have hon : ∀ u ∈ [Value.slice t1 p1 l1, Value.slice t2 p2 l2], u.oneCell' = true := by
            intro u hu
            simp at hu
            rcases hu with rfl | rfl <;> rfl

          go_wp2_with (at_builtin; (refine wpList_append_lies _ rfl _ _ 64 rfl WB.heap.size 31 si (.agg #[.slice none 0 0, .slice none 0 0]) 2 48 Try.underlying64 HI0.out HZ0.out HZ1.out HZ2.out rfl (by decide) (.slice oP j cP) j (fl uC U) rfl (World.ownsRow.alloc HTQ.out _) ⟨w6.heap.size, 0, none⟩ 1 1 [.slice t1 p1 l1, .slice t2 p2 l2] rfl rfl (cell_two_newO _ _ _ _) hon (by omega) (by unfold maxLen; omega) (by omega) (HU6.out.trans (Up.alloc _ _)).size _ rfl ?_; intro gA cA wA hA hgA hatA hltA))

          have HST := Lib.hid (WtI.step (H6.out.upW (Up.alloc w6 (.cells #[.slice t1 p1 l1, .slice t2 p2 l2] 31))) HABW.out hjL (HOS.out.up (Up.alloc _ _)) hA hgA)
          clear hA hgA hatA hltA hon
          go_wp2_with fail
          go_roundw
          case rel => exact ⟨j + 1, _, by rw [HL7.out]; omega, by go_num, HST.out⟩
          case measure => simp only [intOf]; omega
        · have dz : decide (j < 7) = false := decide_eq_false hlt
          have dz2 : decide ((j : Int) < 7) = false := decide_eq_false (by omega)
          obtain rfl : j = 7 := by omega
          replace HU := Lib.hid (HU.out.trans HI.out.up)
          replace HO := Lib.hid (HO.out.up HI.out.up)
          replace HBs := Lib.hid (HBs.out.up HI.out.up)
          replace HBi := Lib.hid (HBi.out.up HI.out.up)
          replace HRI := Lib.hid (HRI.out.up HI.out.up)
          replace HRD := Lib.hid (HRD.out.up HI.out.up)
          replace HSG := Lib.hid (HSG.out.up HI.out.up)
          obtain ⟨gW, cW2, hwv⟩ := HI.out.shape (by omega)
          have HSP := Lib.hid (SpI.of HI.out HL7.out HSG.out HU.out (Nat.le_of_lt HABW.out))
          simp only [Value.slice.injEq] at hwv
          obtain ⟨hwo, _, _⟩ := hwv
          subst hwo
          have hlw : w.heap.size ≤ W2.heap.size := HLI.out
          have hhi : W2.heap.size ≤ Xi := HHI.out
          have hod : Xi ≤ w4.heap.size := HOD.out
          have hhd : w4.heap.size ≤ w5.heap.size := HHD.out
          have hxg : Xg ≤ AB := HXG.out
          have HLD : Hid (w.heap.size ≤ w4.heap.size) := by show _ ≤ _; omega
          have HLL : Hid (w.heap.size ≤ w5.heap.size) := by show _ ≤ _; omega
          have HWA : Hid (w5.heap.size ≤ AB) := Nat.le_trans HWX.out HXG.out
          have HXW : Hid (Xi ≤ wr.heap.size) := Nat.le_of_lt HBi.out.lt
          clear hlw hhi hod hhd hxg HI hlt hj dz dz2
          go_wp2_with fail
          refine (cloneD_any _ DI wr (HRD.out.ids HND.out) (by rw [HND.out]; exact HDL.out)).mono ?_
          rintro e wk ⟨vk, rfl, hok, hu⟩
          obtain ⟨ok, ck, hvk, _, _⟩ := (OIds.ids hok).slice
          subst hvk
          have HK := Lib.hid hok
          clear hok
          replace HBi := Lib.hid (HBi.out.up hu)
          replace HRI := Lib.hid (HRI.out.up hu)
          replace HRD := Lib.hid (HRD.out.up hu)
          replace HSP := Lib.hid (HSP.out.upW hu)
          clear hu
          have i0 := HBi.out.cell (j := 0) rfl
          have i1 := HBi.out.cell (j := 1) rfl
          go_wp2_with fail
          refine (spoilt_any _ ST W2.heap.size Xi wk HRI.out).mono ?_
          rintro e wm ⟨rfl, hb⟩
          have HSQ := Lib.hid (HSP.out.low HODR.out hb HWI.out HWA.out (Nat.le_refl _) HLI.out)
          have HKQ : Hid (OIds wm wr.heap.size (.slice ok DI.length ck) DI) := own_btw HK.out hb HXW.out
          have HRQ := Lib.hid (HRD.out.btw hb (.inl HOD.out))
          clear i0 i1 hb HSP HK HRD HRI HBi
          go_wp2_with fail
          refine (equalD_yes _ _ DI wm (HRQ.out.ids HND.out) (OIds.ids HKQ.out)).mono ?_
          rintro e wn ⟨rfl, hu⟩
          replace HSQ := Lib.hid (HSQ.out.upW hu)
          replace HRQ := Lib.hid (HRQ.out.up hu)
          clear hu HKQ
          go_wp2_with fail
          refine (spoilD_any _ _ _ _ false 0 0 wn HRQ.out.own).mono ?_
          rintro e wo ⟨rfl, hg⟩
          have HSR := Lib.hid (HSQ.out.low HODR.out (Btw.grown hg HRQ.out.top) (Nat.le_refl _) HWA.out (Nat.le_refl _) HLD.out)
          have HST : Hid (SpRel L U AB AB (.slice (some ⟨gW, 0, none⟩) 7 cP) w (.int .i64 0) wo) := ⟨0, Nat.zero_le _, rfl, HSR.out⟩
          clear hg HSQ HRQ HSR
          go_wp2_with fail
          go_loopw [160] (SpRel L U AB AB (.slice (some ⟨gW, 0, none⟩) 7 cP) w) (fun i _ => 7 - (intOf i).toNat)
          case atStart => exact HST.out
          case round =>
            clear HST
            obtain ⟨j, hj, rfl, hI⟩ := hrel
            have HI := Lib.hid hI
            rw [HL7.out] at hj
            clear hI
            by_cases hlt : j < 7
            · have dz : decide (j < 7) = true := decide_eq_true hlt
              have dz2 : decide ((j : Int) < 7) = true := decide_eq_true (by omega)
              have hjL : j < L.length := by rw [HL7.out]; exact hlt
              obtain ⟨c0, c1⟩ := seg_cells HI.out.row hjL
              obtain ⟨s1, m1, k1, s2, m2, k2, hx, hy⟩ := (HI.out.seg j hjL (Nat.le_refl _)).ost.pair
              obtain ⟨hU, f0, f1⟩ := HI.out.wantAt hjL
              obtain ⟨t1, p1, l1, t2, p2, l2, hx2, hy2⟩ := (HI.out.rd j hU hjL).pair
              have HSJ := Lib.hid (HI.out.seg j hjL (Nat.le_refl _))
              have HTJ := Lib.hid (HI.out.rd j hU hjL).stat
              rw [hx, hy] at HSJ
              rw [hx2, hy2] at HTJ
              rw [hx] at c0
              rw [hy] at c1
              rw [hx2] at f0
              rw [hy2] at f1
              have HSM := Lib.hid (fun W (hW : Up wr W) => same_yes (.agg #[.slice s1 m1 k1, .slice s2 m2 k2]) (.agg #[.slice t1 p1 l1, .slice t2 p2 l2]) L[j].st W (HSJ.out.stat.up hW) (HTJ.out.up hW))
              clear hx hy hx2 hy2 HTJ
              go_upto_region 37 with (fail)
              have HUP := Lib.hid (Up.alloc wr (.cells #[.slice s1 m1 k1, .slice s2 m2 k2] 31))
              have HQ : Hid (RowC (wr.alloc (.cells #[.slice s1 m1 k1, .slice s2 m2 k2] 31)) wr.heap.size 31 [.slice s1 m1 k1, .slice s2 m2 k2]) := heap_alloc_new wr _
              have f2 := cell_upO HUP.out f0
              have f3 := cell_upO HUP.out f1
              generalize wr.alloc (.cells #[.slice s1 m1 k1, .slice s2 m2 k2] 31) = W5 at HUP HQ f2 f3 ⊢
              generalize wr.heap.size = Q at HQ ⊢
              have y0 := HQ.out.cell (j := 0) rfl
              have y1 := HQ.out.cell (j := 1) rfl
              have j0 : (0 : Int) ≤ (j : Int) := by omega
              have j1 : (j : Int) < 7 := by omega
              clear c0 c1 f0 f1
              go_region_held3 (fun U => (U.cell? ⟨Q, 0, none⟩ = some (.slice s1 m1 k1) ∧ U.cell? ⟨Q, 1, none⟩ = some (.slice s2 m2 k2)) ∧ U.cell? ⟨gW, j * 2, none⟩ = some (.slice t1 p1 l1) ∧ U.cell? ⟨gW, j * 2 + 1, none⟩ = some (.slice t2 p2 l2)) (go_keep) (first
                | (go_at_call 23; ((with_reducible refine (HSM.out _ (HUP.out.trans (Up.drew _))).mono ?_); rintro e w8 ⟨rfl, u8⟩; have z0 := (HQ.out.up ((Up.drew _).trans u8)).cell (j := 0) rfl; have z1 := (HQ.out.up ((Up.drew _).trans u8)).cell (j := 1) rfl; have f4 := cell_upO ((Up.drew W5).trans u8) f2; have f5 := cell_upO ((Up.drew W5).trans u8) f3)))
              all_goals
                have H8 := Lib.hid (HI.out.upW (HUP.out.trans ((Up.drew _).trans u8)))
                have HS8 := Lib.hid (HSJ.out.up (HUP.out.trans ((Up.drew _).trans u8)))
                clear f2 f3 f4 f5 y0 y1 u8 HI HSJ HSM HQ HUP
                go_wp2_with fail
                refine (spoilt_any _ L[j].st L[j].lo L[j].hi w8 HS8.out).mono ?_
                rintro e w9 ⟨rfl, hb⟩
                have HST := Lib.hid (H8.out.step hjL HODR.out HLL.out (Nat.le_refl _) hb)
                clear z0 z1 hb H8 HS8
                go_wp2_with fail
                go_roundw
                case rel => exact ⟨j + 1, by rw [HL7.out]; omega, by go_num, HST.out⟩
                case measure => simp only [intOf]; omega
            · have dz : decide (j < 7) = false := decide_eq_false hlt
              have dz2 : decide ((j : Int) < 7) = false := decide_eq_false (by omega)
              go_wp2_with fail
              go_ret
              exact ⟨rfl, HI.out.up⟩

end Go.Proofs.Ytnmdfdkagkpcaaa
