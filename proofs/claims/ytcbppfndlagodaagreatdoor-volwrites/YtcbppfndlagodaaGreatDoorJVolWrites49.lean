/-
  The texts RefVol9, LawVol2, one behind the other; each says below what it holds and on what conditions.
-/
import Derived.Test.YtcbppfndlagodaaGreatDoorJVolWrites26
import Derived.Test.YtcbppfndlagodaaGreatDoorJVolWrites39
import Derived.Test.YtcbppfndlagodaaGreatDoorJVolWrites41
import Derived.Test.YtcbppfndlagodaaGreatDoorJVolWrites48

/-
  The reference's SameState of two states that read alike, and the law's told. Conditions: as each says.
-/
namespace Go.Proofs.YtcbppfndlagodaaGreatDoor
open Go.RowKit
open Go.Proofs
open WoolBag
open WoolVol

set_option maxRecDepth 100000 in
set_option maxHeartbeats 400000 in
theorem same1_yes (s : List UInt8) (v1 v2 : Value) (l : List Idn) (w : World) (h1 : Ids w v1 l) (h2 : Ids w v2 l) :
    Calls Tryz.prog 46 #[.agg #[.string (bs s), v1], .agg #[.string (bs s), v2]] w fun e w' => e = .returned (.bool true) ∧ Up w w' := by
  have HE := Lib.hid (fun W (hW : Up w W) => equalD_yes v1 v2 l W (h1.up hW) (h2.up hW))
  obtain ⟨o1, c1, rfl, _, _⟩ := h1.slice
  obtain ⟨o2, c2, rfl, _, _⟩ := h2.slice
  clear h1 h2
  have hS : ((bs s).toList == (bs s).toList) = true := by rw [txt_eq]; simp
  generalize bs s = S at *
  go_enter Tryz.func46, Tryz.ntmps46
  go_wp2_with fail
  refine (HE.out _ ((Up.alloc _ _).trans (Up.alloc _ _))).mono ?_
  rintro e w1 ⟨rfl, u1⟩
  go_wp2_with fail
  go_ret
  exact ⟨rfl, ((Up.alloc _ _).trans (Up.alloc _ _)).trans u1⟩

theorem eg_same : ∀ args w, (callFunc 46 args).run Tryz.prog w = .ok (.enter 46 args) w := enters_of Tryz.func46 (by kernel_rfl) rfl

set_option maxRecDepth 100000 in
set_option maxHeartbeats 400000 in
theorem equalV_yes (v1 v2 : Value) (l : List Vo) (w : World) (h1 : Vols w v1 l) (h2 : Vols w v2 l) :
    Calls Tryz.prog 45 #[v1, v2, .func (.func 46) #[] #[]] w fun e w' => e = .returned (.bool true) ∧ Up w w' := by
  obtain ⟨o1, c1, rfl, p1, p2⟩ := h1.slice
  obtain ⟨o2, c2, rfl, q1, q2⟩ := h2.slice
  have HP := Lib.hid h1
  have HQ := Lib.hid h2
  unfold maxLen at p2 q2
  clear h1 h2
  go_enter Tryz.func45, Tryz.ntmps45
  go_wp2_with fail
  go_loopw [17] (fun i wr => EqDRel l.length w i wr) (fun i _ => l.length - (intOf i).toNat)
  case atStart => exact ⟨0, Nat.zero_le _, rfl, Up.refl w⟩
  case round =>
    obtain ⟨k, hk, rfl, hu⟩ := hrel
    by_cases hlt : k < l.length
    · have hne : l ≠ [] := by intro e; rw [e] at hlt; simp at hlt
      obtain ⟨b, off, rfl, h5⟩ := HP.out.at hne
      obtain ⟨b', off', rfl, h6⟩ := HQ.out.at hne
      obtain ⟨e1, u, e2, hi1⟩ := h5 k hlt
      obtain ⟨f1, u', f2, hi2⟩ := h6 k hlt
      obtain ⟨n1, dd1, rfl, _, _⟩ := hi1.slice
      obtain ⟨n2, d2, rfl, _, _⟩ := hi2.slice
      have HC := Lib.hid (fun W (hW : Up w W) => same1_yes l[k].nm _ _ l[k].bl W (hi1.up hW) (hi2.up hW))
      rw [← hu.cell (World.block_lt_of_cell? w _ e1)] at e1
      rw [← hu.cell (World.block_lt_of_cell? w _ e2)] at e2
      rw [← hu.cell (World.block_lt_of_cell? w _ f1)] at f1
      rw [← hu.cell (World.block_lt_of_cell? w _ f2)] at f2
      have f1' := Lib.cell?_alloc_some (.cells #[.string (bs l[k].nm), .slice n1 l[k].bl.length dd1] 47) f1
      have f2' := Lib.cell?_alloc_some (.cells #[.string (bs l[k].nm), .slice n1 l[k].bl.length dd1] 47) f2
      generalize bs l[k].nm = S at *
      obtain ⟨L, hL⟩ : ∃ L, l[k].bl.length = L := ⟨_, rfl⟩
      rw [hL] at e2 f2 f1' f2' HC
      have HU := Lib.hid hu
      have d1 : decide (k < l.length) = true := decide_eq_true hlt
      clear h5 h6 hu hne hi1 hi2 hL
      go_wp2_with fail
      refine (HC.out _ ((HU.out.trans (Up.alloc _ _)).trans (Up.alloc _ _))).mono ?_
      rintro e w1 ⟨rfl, u1⟩
      have HU1 := Lib.hid (((HU.out.trans (Up.alloc _ _)).trans (Up.alloc _ _)).trans u1)
      clear u1
      go_wp2_with fail
      go_roundw
      case rel => exact ⟨k + 1, by omega, by go_num, HU1.out⟩
      case measure => simp only [intOf]; omega
    · have d1 : decide (k < l.length) = false := decide_eq_false hlt
      go_wp2_with fail
      go_ret
      exact ⟨rfl, hu⟩

set_option maxRecDepth 100000 in
set_option maxHeartbeats 400000 in
theorem same_yes (v1 v2 : Value) (st : Sta) (w : World) (h1 : Stat w v1 st) (h2 : Stat w v2 st) :
    Calls Tryz.prog 17 #[v1, v2] w fun e w' => e = .returned (.bool true) ∧ Up w w' := by
  obtain ⟨a1, b1, rfl, hi1, hv1⟩ := h1
  obtain ⟨a2, b2, rfl, hi2, hv2⟩ := h2
  have HI := Lib.hid (fun W (hW : Up w W) => equalI_yes a1 a2 st.b W (hi1.up hW) (hi2.up hW))
  have HV := Lib.hid (fun W (hW : Up w W) => equalV_yes b1 b2 st.v W (hv1.up hW) (hv2.up hW))
  obtain ⟨o1, c1, rfl, _⟩ := hi1.slice
  obtain ⟨o2, c2, rfl, _⟩ := hi2.slice
  obtain ⟨o3, c3, rfl, _, _⟩ := hv1.slice
  obtain ⟨o4, c4, rfl, _, _⟩ := hv2.slice
  clear hi1 hi2 hv1 hv2
  generalize st.b.length = M at *
  generalize st.v.length = N at *
  go_enter Tryz.func17, Tryz.ntmps17
  have HR1 : Hid (RowC ((w.alloc (.cells #[.slice o1 M c1, .slice o3 N c3] 25)).alloc (.cells #[.slice o2 M c2, .slice o4 N c4] 25)) w.heap.size 25 [.slice o1 M c1, .slice o3 N c3]) := RowC.up (heap_alloc_new w _) (Up.alloc _ _)
  have HR2 : Hid (RowC ((w.alloc (.cells #[.slice o1 M c1, .slice o3 N c3] 25)).alloc (.cells #[.slice o2 M c2, .slice o4 N c4] 25)) (w.heap.size + 1) 25 [.slice o2 M c2, .slice o4 N c4]) := box_new w _ _ _ _
  have HW0 : Hid (Up w ((w.alloc (.cells #[.slice o1 M c1, .slice o3 N c3] 25)).alloc (.cells #[.slice o2 M c2, .slice o4 N c4] 25))) := (Up.alloc _ _).trans (Up.alloc _ _)
  go_wp2_with fail
  generalize ((w.alloc (.cells #[.slice o1 M c1, .slice o3 N c3] 25)).alloc (.cells #[.slice o2 M c2, .slice o4 N c4] 25)) = W0 at HR1 HR2 HW0 ⊢
  refine (HI.out _ HW0.out).mono ?_
  rintro e w1 ⟨rfl, u1⟩
  have x0 := (HR1.out.up u1).cell (j := 1) rfl
  have x1 := (HR2.out.up u1).cell (j := 1) rfl
  go_wp2_with fail
  refine (HV.out _ (HW0.out.trans u1)).mono ?_
  rintro e w2 ⟨rfl, u2⟩
  go_wp2_with fail
  go_ret
  exact ⟨rfl, (HW0.out.trans u1).trans u2⟩

set_option maxRecDepth 100000 in
set_option maxHeartbeats 400000 in
theorem told_yes (v1 v2 : Value) (st : Sta) (x : Int) (w : World) (h1 : Stat w v1 st) (h2 : Stat w v2 st) :
    Calls Tryz.prog 10 #[v1, .int .i64 x, v2, .int .i64 x] w fun e w' => e = .returned (.bool true) ∧ Up w w' := by
  have HS := Lib.hid (fun W (hW : Up w W) => same_yes v1 v2 st W (h1.up hW) (h2.up hW))
  obtain ⟨a1, b1, rfl, hi1, hv1⟩ := h1
  obtain ⟨a2, b2, rfl, hi2, hv2⟩ := h2
  obtain ⟨o1, c1, rfl, _⟩ := hi1.slice
  obtain ⟨o2, c2, rfl, _⟩ := hi2.slice
  obtain ⟨o3, c3, rfl, _, _⟩ := hv1.slice
  obtain ⟨o4, c4, rfl, _, _⟩ := hv2.slice
  clear hi1 hi2 hv1 hv2
  go_enter Tryz.func10, Tryz.ntmps10
  go_wp2_with fail
  refine (HS.out _ ((Up.alloc _ _).trans (Up.alloc _ _))).mono ?_
  rintro e w1 ⟨rfl, u1⟩
  go_wp2_with fail
  go_ret
  exact ⟨rfl, ((Up.alloc _ _).trans (Up.alloc _ _)).trans u1⟩

end Go.Proofs.YtcbppfndlagodaaGreatDoor

/-
  The law VolWrites: whatever is handed in, Trim and Write answer what the document says. Conditions: a state that can be read.
-/
namespace Go.Proofs.YtcbppfndlagodaaGreatDoor
open Go.RowKit
open Go.Proofs
open WoolBag
open WoolVol

theorem empty_bs2 : bs [] = ⟨#[]⟩ := rfl

set_option maxRecDepth 100000 in
set_option maxHeartbeats 4000000 in
theorem volWrites_walk (a0 : Value) (s0 : Sta) (a1 : ByteArray) (a2 : Int) (a3 : ByteArray) (w : World) (w0 : Stat w a0 s0 ∧ WfS s0) (_w1 : a1.size ≤ 140737488351232) (_w2 : (Lit.int .i64 a2).wf = true) (_w3 : a3.size ≤ 140737488351232) :
    Calls Tryz.prog 4 #[a0, .string a1, .int .i64 a2, .string a3] w fun e w' => e = .returned (.bool true) ∧ Up w w' := by
  obtain ⟨hst, hwf⟩ := w0
  obtain ⟨n, rfl⟩ : ∃ n, a1 = bs n := ⟨a1.data.toList, (bs_of a1).symm⟩
  obtain ⟨t, rfl⟩ : ∃ t, a3 = bs t := ⟨a3.data.toList, (bs_of a3).symm⟩
  have HTR := Lib.hid (fun W (hW : Up w W) => trim_any a0 s0 n a2 W (hst.up hW) hwf)
  have HWR := Lib.hid (fun W (hW : Up w W) => write_any a0 s0 n t a2 W (hst.up hW) hwf)
  have HD4 : Hid (∀ W (_ : Up w W), Calls Tryz.prog 9 #[a0, .agg #[.int .i64 4, .string (bs n), .string ⟨#[]⟩, .int .i64 a2, .string ⟨#[]⟩]] W (RdEPost W (trim FP s0 n a2))) := by
    intro W hW
    have := refDo34 a0 s0 4 n [] [] a2 W (hst.up hW) hwf (by omega) (by omega) (by omega)
    unfold opV do34 at this
    rw [if_pos rfl, empty_bs2] at this
    exact this
  have HD3 : Hid (∀ W (_ : Up w W), Calls Tryz.prog 9 #[a0, .agg #[.int .i64 3, .string (bs n), .string ⟨#[]⟩, .int .i64 a2, .string (bs t)]] W (RdEPost W (write FP s0 n a2 t))) := by
    intro W hW
    have := refDo34 a0 s0 3 n [] t a2 W (hst.up hW) hwf (by omega) (by omega) (by omega)
    unfold opV do34 at this
    rw [if_neg (by omega), empty_bs2] at this
    exact this
  obtain ⟨vb, vv, rfl, hb, hv⟩ := hst
  obtain ⟨oB, cB, rfl, _⟩ := hb.slice
  obtain ⟨oV, cV, rfl, _, _⟩ := hv.slice
  clear hb hv hwf
  obtain ⟨T, hT⟩ : ∃ T, trim FP s0 n a2 = T := ⟨_, rfl⟩
  obtain ⟨Z, hZ⟩ : ∃ Z, write FP s0 n a2 t = Z := ⟨_, rfl⟩
  rw [hT] at HTR HD4
  rw [hZ] at HWR HD3
  clear hT hZ
  unfold StEPost at HTR HWR
  unfold RdEPost at HD4 HD3
  generalize s0.b.length = M at *
  generalize s0.v.length = N at *
  have HRA : Hid (RowC (w.alloc (.cells #[.slice oB M cB, .slice oV N cV] 25)) w.heap.size 25 [.slice oB M cB, .slice oV N cV]) := row_at rfl [.slice oB M cB, .slice oV N cV] 25
  have HW0 : Hid (Up w (w.alloc (.cells #[.slice oB M cB, .slice oV N cV] 25))) := Up.alloc _ _
  go_enter Tryz.func4, Tryz.ntmps4
  go_upto_region 1 with (fail)
  generalize (w.alloc (.cells #[.slice oB M cB, .slice oV N cV] 25)) = W0 at HRA HW0 ⊢
  have q0 := HRA.out.cell (j := 0) rfl
  have q1 := HRA.out.cell (j := 1) rfl
  go_wp2_with fail
  refine (HTR.out _ HW0.out).mono ?_
  rintro e w1 ⟨v1, rfl, ho1, u1⟩
  have hs1 := ho1.stat
  obtain ⟨ob1, cb1, ov1, cv1, rfl, _, _, _⟩ := ho1.slices
  clear q0 q1 ho1
  go_upto_region 2 with (fail)
  have hal := Up.alloc w1 (.cells #[.slice ob1 T.1.b.length cb1, .slice ov1 T.1.v.length cv1] 25)
  have HX1 : Hid (RowC (w1.alloc (.cells #[.slice ob1 T.1.b.length cb1, .slice ov1 T.1.v.length cv1] 25)) w1.heap.size 25 [.slice ob1 T.1.b.length cb1, .slice ov1 T.1.v.length cv1]) := heap_alloc_new w1 _
  have HA1 := Lib.hid ((HRA.out.up u1).up hal)
  have HU1 := Lib.hid ((HW0.out.trans u1).trans hal)
  have HS1 := Lib.hid (hs1.up hal)
  clear hal u1 hs1
  generalize (w1.alloc (.cells #[.slice ob1 T.1.b.length cb1, .slice ov1 T.1.v.length cv1] 25)) = W1 at HX1 HA1 HU1 HS1 ⊢
  generalize w1.heap.size = X1 at HX1 ⊢
  have q0 := HA1.out.cell (j := 0) rfl
  have q1 := HA1.out.cell (j := 1) rfl
  go_wp2_with fail
  refine (HWR.out _ HU1.out).mono ?_
  rintro e w2 ⟨v2, rfl, ho2, u2⟩
  have hs2 := ho2.stat
  obtain ⟨ob2, cb2, ov2, cv2, rfl, _, _, _⟩ := ho2.slices
  clear q0 q1 ho2
  go_upto_region 3 with (fail)
  have hal := Up.alloc w2 (.cells #[.slice ob2 Z.1.b.length cb2, .slice ov2 Z.1.v.length cv2] 25)
  have HX2 : Hid (RowC (w2.alloc (.cells #[.slice ob2 Z.1.b.length cb2, .slice ov2 Z.1.v.length cv2] 25)) w2.heap.size 25 [.slice ob2 Z.1.b.length cb2, .slice ov2 Z.1.v.length cv2]) := heap_alloc_new w2 _
  have HA2 := Lib.hid ((HA1.out.up u2).up hal)
  have HU2 := Lib.hid ((HU1.out.trans u2).trans hal)
  have HS2 := Lib.hid (hs2.up hal)
  have HY1 := Lib.hid (u2.trans hal)
  clear hal u2 hs2
  generalize (w2.alloc (.cells #[.slice ob2 Z.1.b.length cb2, .slice ov2 Z.1.v.length cv2] 25)) = W2 at HX2 HA2 HU2 HS2 HY1 ⊢
  generalize w2.heap.size = X2 at HX2 ⊢
  have q0 := HA2.out.cell (j := 0) rfl
  have q1 := HA2.out.cell (j := 1) rfl
  go_wp2_with fail
  refine (HD4.out _ HU2.out).mono ?_
  rintro e w3 ⟨v3, rfl, hs3, u3⟩
  have HS3' := Lib.hid hs3
  obtain ⟨vb3, vv3, rfl, hb3, hv3⟩ := hs3
  obtain ⟨o3, c3, rfl, _⟩ := hb3.slice
  obtain ⟨p3, d3, rfl, _, _⟩ := hv3.slice
  clear q0 q1 hb3 hv3
  go_upto_region 4 with (fail)
  have hal := Up.alloc w3 (.cells #[.slice o3 T.1.b.length c3, .slice p3 T.1.v.length d3] 25)
  have HX3 : Hid (RowC (w3.alloc (.cells #[.slice o3 T.1.b.length c3, .slice p3 T.1.v.length d3] 25)) w3.heap.size 25 [.slice o3 T.1.b.length c3, .slice p3 T.1.v.length d3]) := heap_alloc_new w3 _
  have HA3 := Lib.hid ((HA2.out.up u3).up hal)
  have HU3 := Lib.hid ((HU2.out.trans u3).trans hal)
  have HS3 := Lib.hid (HS3'.out.up hal)
  have HY2 := Lib.hid (u3.trans hal)
  clear hal u3 HS3'
  generalize (w3.alloc (.cells #[.slice o3 T.1.b.length c3, .slice p3 T.1.v.length d3] 25)) = W3 at HX3 HA3 HU3 HS3 HY2 ⊢
  generalize w3.heap.size = X3 at HX3 ⊢
  have q0 := HA3.out.cell (j := 0) rfl
  have q1 := HA3.out.cell (j := 1) rfl
  go_wp2_with fail
  refine (HD3.out _ HU3.out).mono ?_
  rintro e w4 ⟨v4, rfl, hs4, u4⟩
  have HS4' := Lib.hid hs4
  obtain ⟨vb4, vv4, rfl, hb4, hv4⟩ := hs4
  obtain ⟨o4, c4, rfl, _⟩ := hb4.slice
  obtain ⟨p4, d4, rfl, _, _⟩ := hv4.slice
  clear q0 q1 hb4 hv4
  go_upto_region 5 with (fail)
  have hal := Up.alloc w4 (.cells #[.slice o4 Z.1.b.length c4, .slice p4 Z.1.v.length d4] 25)
  have HX4 : Hid (RowC (w4.alloc (.cells #[.slice o4 Z.1.b.length c4, .slice p4 Z.1.v.length d4] 25)) w4.heap.size 25 [.slice o4 Z.1.b.length c4, .slice p4 Z.1.v.length d4]) := heap_alloc_new w4 _
  have HU4 := Lib.hid ((HU3.out.trans u4).trans hal)
  have HS4 := Lib.hid (HS4'.out.up hal)
  have HY3 := Lib.hid (u4.trans hal)
  clear hal u4 HS4'
  generalize (w4.alloc (.cells #[.slice o4 Z.1.b.length c4, .slice p4 Z.1.v.length d4] 25)) = W4 at HX4 HU4 HS4 HY3 ⊢
  generalize w4.heap.size = X4 at HX4 ⊢
  have HR1 := Lib.hid (((HX1.out.up HY1.out).up HY2.out).up HY3.out)
  have HR2 := Lib.hid ((HX2.out.up HY2.out).up HY3.out)
  have HR3 := Lib.hid (HX3.out.up HY3.out)
  have HT1 := Lib.hid (fun W (hW : Up W4 W) => told_yes _ _ T.1 T.2 W ((((HS1.out.up HY1.out).up HY2.out).up HY3.out).up hW) ((HS3.out.up HY3.out).up hW))
  have HT2 := Lib.hid (fun W (hW : Up W4 W) => told_yes _ _ Z.1 Z.2 W (((HS2.out.up HY2.out).up HY3.out).up hW) (HS4.out.up hW))
  have x0 := HR1.out.cell (j := 0) rfl
  have x1 := HR1.out.cell (j := 1) rfl
  have x2 := HR3.out.cell (j := 0) rfl
  have x3 := HR3.out.cell (j := 1) rfl
  go_wp2_with fail
  refine (HT1.out _ (Up.refl _)).mono ?_
  rintro e w5 ⟨rfl, u5⟩
  clear x0 x1 x2 x3
  have x0 := (HR2.out.up u5).cell (j := 0) rfl
  have x1 := (HR2.out.up u5).cell (j := 1) rfl
  have x2 := (HX4.out.up u5).cell (j := 0) rfl
  have x3 := (HX4.out.up u5).cell (j := 1) rfl
  go_wp2_with fail
  refine (HT2.out _ u5).mono ?_
  rintro e w6 ⟨rfl, u6⟩
  go_wp2_with fail
  go_ret
  exact ⟨rfl, (HU4.out.trans u5).trans u6⟩

end Go.Proofs.YtcbppfndlagodaaGreatDoor
