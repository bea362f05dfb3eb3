/-
  The texts RefVol7, RefVol9, Diff4, one behind the other; each says below what it holds and on what conditions.
-/
import Derived.Test.YtcbppfndlagodaaGreatDoorJDiffSays41
import Derived.Test.YtcbppfndlagodaaGreatDoorJDiffSays31
import Derived.Test.YtcbppfndlagodaaGreatDoorJDiffSays43
import Derived.Test.YtcbppfndlagodaaGreatDoorJDiffSays38
import Derived.Test.YtcbppfndlagodaaGreatDoorJDiffSays32

/-
  What the reference's Trim returns. Conditions: a state of right sizes with a right bag; the place is there.
-/
namespace Go.Proofs.YtcbppfndlagodaaGreatDoor
open Go.RowKit
open Go.Proofs
open WoolBag
open WoolVol

theorem rel_one (l : List Itm) (i : Idn) : rel FP l [i] = if i.1 then (WoolBag.drop FP l i).1 else l := rfl

set_option maxRecDepth 100000 in
set_option maxHeartbeats 4000000 in
theorem refTrim_any (v : Value) (st : Sta) (k j : Nat) (w : World) (h : Stat w v st) (hs : Small st) (hg : Bag FP st.b) (hk : k < st.v.length) (hj : j < st.v[k].bl.length) :
    Calls Tryz.prog 32 #[v, .int .i64 (k : Int), .int .i64 (j : Int)] w (RdPost w ⟨rel FP st.b [st.v[k].bl[j]], setB st.v k j noId⟩) := by
  have HSET := Lib.hid (fun W (hW : Up w W) => refSet_any v st k j noId W (h.up hW) hs hk hj)
  obtain ⟨vb, vv, rfl, hb, hv⟩ := h
  obtain ⟨oB, cB, rfl, _⟩ := hb.slice
  obtain ⟨oV, cV, rfl, hV1, hV2⟩ := hv.slice
  obtain ⟨b, off, rfl, h5⟩ := hv.at (by intro e; rw [e] at hk; simp at hk)
  obtain ⟨a1, u0, a2, hids⟩ := h5 k hk
  obtain ⟨o', c', rfl, hc1, hc2⟩ := hids.slice
  obtain ⟨b', off', rfl, h6⟩ := hids.at (by intro e; rw [e] at hj; simp at hj)
  obtain ⟨i1, i2, i3⟩ := h6 j hj
  unfold maxLen at hV2 hc2
  unfold idV noId at HSET
  simp only at HSET
  obtain ⟨S1, hS1⟩ : ∃ S1 : Sta, (⟨st.b, setB st.v k j noId⟩ : Sta) = S1 := ⟨_, rfl⟩
  have HS1 := Lib.hid hS1
  have hS1' : (⟨st.b, setB st.v k j (false, 0, 0)⟩ : Sta) = S1 := hS1
  rw [hS1'] at HSET
  have HRES : Hid ((⟨rel FP st.b [st.v[k].bl[j]], setB st.v k j noId⟩ : Sta) = ⟨if st.v[k].bl[j].1 then (WoolBag.drop FP S1.b st.v[k].bl[j]).1 else S1.b, S1.v⟩) := by show _ = _; rw [← hS1, rel_one]
  rw [HRES.out]
  have hg1 : Bag FP S1.b := by rw [← hS1]; exact hg
  have HG1 := Lib.hid hg1
  clear hg1 hS1 hS1' HRES HS1
  obtain ⟨id, hid⟩ : ∃ id, st.v[k].bl[j] = id := ⟨_, rfl⟩
  rw [hid] at i1 i2 i3 ⊢
  obtain ⟨xb, xs, xn⟩ := id
  simp only at i1 i2 i3 ⊢
  obtain ⟨RS, hRS⟩ : ∃ RS : Sta, (⟨if xb = true then (WoolBag.drop FP S1.b (xb, xs, xn)).1 else S1.b, S1.v⟩ : Sta) = RS := ⟨_, rfl⟩
  rw [hRS]
  have HRS := Lib.hid hRS
  clear hRS
  have HW0 : Hid (Up w ((w.alloc (.cells #[.slice oB st.b.length cB, .slice (some ⟨b, off, none⟩) st.v.length cV] 25)).alloc (.cells #[.slice none 0 0, .slice none 0 0] 25))) := (Up.alloc _ _).trans (Up.alloc _ _)
  have e2 := (HW0.out.cell (World.block_lt_of_cell? w _ a2)).trans a2
  have f1 := (HW0.out.cell (World.block_lt_of_cell? w _ i1)).trans i1
  have f2 := (HW0.out.cell (World.block_lt_of_cell? w _ i2)).trans i2
  have f3 := (HW0.out.cell (World.block_lt_of_cell? w _ i3)).trans i3
  clear h5 h6 a1 a2 hids i1 i2 i3 hid hb hv hg hs
  obtain ⟨L, hL⟩ : ∃ L, st.v[k].bl.length = L := ⟨_, rfl⟩
  rw [hL] at hj hc1 e2
  clear hL
  generalize st.v.length = N at *
  generalize st.b.length = M at *
  go_enter Tryz.func32, Tryz.ntmps32
  go_upto_region 2 with (fail)
  have HRI : Hid (RowC (((w.alloc (.cells #[.slice oB M cB, .slice (some ⟨b, off, none⟩) N cV] 25)).alloc (.cells #[.slice none 0 0, .slice none 0 0] 25)).alloc (.cells #[.bool xb, .int .i64 xs, .int .i64 xn] 49)) (w.heap.size + 1 + 1) 49 [.bool xb, .int .i64 xs, .int .i64 xn]) := row_at (by simp) [.bool xb, .int .i64 xs, .int .i64 xn] 49
  have HRR : Hid (RowC (((w.alloc (.cells #[.slice oB M cB, .slice (some ⟨b, off, none⟩) N cV] 25)).alloc (.cells #[.slice none 0 0, .slice none 0 0] 25)).alloc (.cells #[.bool xb, .int .i64 xs, .int .i64 xn] 49)) (w.heap.size + 1) 25 [.slice none 0 0, .slice none 0 0]) := (row_at (by simp) [.slice none 0 0, .slice none 0 0] 25).up (Up.alloc _ _)
  have HRA : Hid (RowC (((w.alloc (.cells #[.slice oB M cB, .slice (some ⟨b, off, none⟩) N cV] 25)).alloc (.cells #[.slice none 0 0, .slice none 0 0] 25)).alloc (.cells #[.bool xb, .int .i64 xs, .int .i64 xn] 49)) w.heap.size 25 [.slice oB M cB, .slice (some ⟨b, off, none⟩) N cV]) := ((row_at rfl [.slice oB M cB, .slice (some ⟨b, off, none⟩) N cV] 25).up (Up.alloc _ _)).up (Up.alloc _ _)
  have HW1 : Hid (Up w (((w.alloc (.cells #[.slice oB M cB, .slice (some ⟨b, off, none⟩) N cV] 25)).alloc (.cells #[.slice none 0 0, .slice none 0 0] 25)).alloc (.cells #[.bool xb, .int .i64 xs, .int .i64 xn] 49))) := HW0.out.trans (Up.alloc _ _)
  clear HW0 e2 f1 f2 f3
  generalize (((w.alloc (.cells #[.slice oB M cB, .slice (some ⟨b, off, none⟩) N cV] 25)).alloc (.cells #[.slice none 0 0, .slice none 0 0] 25)).alloc (.cells #[.bool xb, .int .i64 xs, .int .i64 xn] 49)) = W1 at HRI HRR HRA HW1 ⊢
  have q0 := HRA.out.cell (j := 0) rfl
  have q1 := HRA.out.cell (j := 1) rfl
  go_wp2_with fail
  refine (HSET.out _ HW1.out).mono ?_
  rintro e w1 ⟨v1, rfl, hst1, u1⟩
  obtain ⟨vb1, vv1, rfl, hb1, hv1⟩ := hst1
  obtain ⟨o1, c1, rfl, hm1⟩ := hb1.slice
  obtain ⟨o2, c2, rfl, hm2, hm3⟩ := hv1.slice
  clear q0 q1
  go_upto_region 3 with (fail)
  have hal := Up.alloc w1 (.cells #[.slice o1 S1.b.length c1, .slice o2 S1.v.length c2] 25)
  have HX : Hid (RowC (w1.alloc (.cells #[.slice o1 S1.b.length c1, .slice o2 S1.v.length c2] 25)) w1.heap.size 25 [.slice o1 S1.b.length c1, .slice o2 S1.v.length c2]) := heap_alloc_new w1 _
  have HI2 := Lib.hid ((HRI.out.up u1).up hal)
  have HR2 := Lib.hid ((HRR.out.up u1).up hal)
  have HB2 := Lib.hid (hb1.up hal)
  have HV2 := Lib.hid (hv1.up hal)
  have HU2 := Lib.hid ((HW1.out.trans u1).trans hal)
  have hRX : w.heap.size + 1 ≠ w1.heap.size := by have := (HRR.out.up u1).lt; omega
  have hwX : w.heap.size ≤ w1.heap.size := (HW1.out.trans u1).size
  clear hal hb1 hv1 u1
  generalize (w1.alloc (.cells #[.slice o1 S1.b.length c1, .slice o2 S1.v.length c2] 25)) = W2 at HX HI2 HR2 HB2 HV2 HU2 ⊢
  obtain ⟨X, hX⟩ : ∃ X, w1.heap.size = X := ⟨_, rfl⟩
  rw [hX] at HX hRX hwX ⊢
  clear hX
  have x0 := HX.out.cell (j := 0) rfl
  have x1 := HX.out.cell (j := 1) rfl
  have y0 := HI2.out.cell (j := 0) rfl
  have y1 := HI2.out.cell (j := 1) rfl
  have y2 := HI2.out.cell (j := 2) rfl
  have r0 := HR2.out.frozen 0
  have r1 := HR2.out.frozen 1
  have r2 := HR2.out.cell (j := 0) rfl
  have r3 := HR2.out.cell (j := 1) rfl
  cases xb with
  | false =>
    have HRS2 : Hid (RS = S1) := by show _ = _; rw [← HRS.out]; rfl
    go_wp2_with fail
    have hz := (HR2.out.set 0 (.slice o1 S1.b.length c1)).set 1 (.slice o2 S1.v.length c2)
    have z0 := hz.cell (j := 0) rfl
    have z1 := hz.cell (j := 1) rfl
    have HST := Lib.hid (Stat.boxed (v := .agg #[.slice o1 S1.b.length c1, .slice o2 S1.v.length c2]) (x := .slice o1 S1.b.length c1) (y := .slice o2 S1.v.length c2) (st := S1) ⟨_, _, rfl, HB2.out, HV2.out⟩ HR2.out rfl rfl rfl)
    have HUZ : Hid (Up w ((W2.setCell ⟨w.heap.size + 1, 0, none⟩ (.slice o1 S1.b.length c1)).setCell ⟨w.heap.size + 1, 1, none⟩ (.slice o2 S1.v.length c2))) := up2 HU2.out (Nat.le_succ _)
    generalize (W2.setCell ⟨w.heap.size + 1, 0, none⟩ (.slice o1 S1.b.length c1)).setCell ⟨w.heap.size + 1, 1, none⟩ (.slice o2 S1.v.length c2) = WZ at z0 z1 HST HUZ ⊢
    exact bodyPost_ret (v := .agg #[.slice o1 S1.b.length c1, .slice o2 S1.v.length c2]) (by simp [results, Tryz.results32, go_sem, z0, z1]) rfl ⟨_, rfl, by rw [HRS2.out]; exact HST.out, HUZ.out⟩
  | true =>
    have HLE := Lib.hid (fun W (hW : Up W2 W) => refLess_any _ S1.b true xs xn W (HB2.out.up hW) HG1.out)
    unfold LessPost at HLE
    obtain ⟨l', hl'⟩ : ∃ l', (WoolBag.drop FP S1.b (true, xs, xn)).1 = l' := ⟨_, rfl⟩
    rw [hl'] at HLE
    have HRS2 : Hid (RS = ⟨l', S1.v⟩) := by show _ = _; rw [← HRS.out, ← hl']; rfl
    clear hl'
    go_wp2_with fail
    refine (HLE.out _ (Up.refl _)).mono ?_
    rintro e w3 ⟨o3, c3, rfl, hit3, u3⟩
    have hX3 := HX.out.up u3
    have hR3 := HR2.out.up u3
    have s0 := hX3.cell (j := 0) rfl
    have s1 := hX3.cell (j := 1) rfl
    have s2 := hX3.frozen 0
    have HX4 : Hid (RowC (w3.setCell ⟨X, 0, none⟩ (.slice o3 l'.length c3)) X 25 [.slice o3 l'.length c3, .slice o2 S1.v.length c2]) := hX3.set 0 _
    have HR4 := Lib.hid (hR3.other hRX 0 (.slice o3 l'.length c3))
    have HS4 : Hid (Stat (w3.setCell ⟨X, 0, none⟩ (.slice o3 l'.length c3)) (.agg #[.slice o3 l'.length c3, .slice o2 S1.v.length c2]) ⟨l', S1.v⟩) := ⟨_, _, rfl, hit3.setS hX3 rfl rfl, (HV2.out.up u3).setS hX3 rfl rfl⟩
    have HU4 : Hid (Up w (w3.setCell ⟨X, 0, none⟩ (.slice o3 l'.length c3))) := Below.setCell (show Below w.heap.size w w3 from HU2.out.trans u3) (p := ⟨X, 0, none⟩) hwX _
    clear hX3 hR3 hit3 u3 x0 x1 y0 y1 y2 r0 r1 r2 r3
    go_upto_region 5 with (fail)
    generalize (w3.setCell ⟨X, 0, none⟩ (.slice o3 l'.length c3)) = W4 at HX4 HR4 HS4 HU4 ⊢
    clear s0 s1 s2
    have s0 := HX4.out.cell (j := 0) rfl
    have s1 := HX4.out.cell (j := 1) rfl
    have r0 := HR4.out.frozen 0
    have r1 := HR4.out.frozen 1
    have r2 := HR4.out.cell (j := 0) rfl
    have r3 := HR4.out.cell (j := 1) rfl
    go_wp2_with fail
    have hz := (HR4.out.set 0 (.slice o3 l'.length c3)).set 1 (.slice o2 S1.v.length c2)
    have z0 := hz.cell (j := 0) rfl
    have z1 := hz.cell (j := 1) rfl
    have HST := Lib.hid (Stat.boxed (x := .slice o3 l'.length c3) (y := .slice o2 S1.v.length c2) HS4.out HR4.out rfl rfl rfl)
    have HUZ : Hid (Up w ((W4.setCell ⟨w.heap.size + 1, 0, none⟩ (.slice o3 l'.length c3)).setCell ⟨w.heap.size + 1, 1, none⟩ (.slice o2 S1.v.length c2))) := up2 HU4.out (Nat.le_succ _)
    generalize (W4.setCell ⟨w.heap.size + 1, 0, none⟩ (.slice o3 l'.length c3)).setCell ⟨w.heap.size + 1, 1, none⟩ (.slice o2 S1.v.length c2) = WZ at z0 z1 HST HUZ ⊢
    exact bodyPost_ret (v := .agg #[.slice o3 l'.length c3, .slice o2 S1.v.length c2]) (by simp [results, Tryz.results32, go_sem, z0, z1]) rfl ⟨_, rfl, by rw [HRS2.out]; exact HST.out, HUZ.out⟩

end Go.Proofs.YtcbppfndlagodaaGreatDoor

/-
  The reference's SameState of two states that read alike, and the law's told. Conditions: as each says.
-/
namespace Go.Proofs.YtcbppfndlagodaaGreatDoor
open Go.RowKit
open Go.Proofs
open WoolBag
open WoolVol

set_option maxRecDepth 100000 in
set_option maxHeartbeats 400000 in
theorem same1_yes (s : List UInt8) (v1 v2 : Value) (l : List Idn) (w : World) (h1 : Ids w v1 l) (h2 : Ids w v2 l) :
    Calls Tryz.prog 46 #[.agg #[.string (bs s), v1], .agg #[.string (bs s), v2]] w fun e w' => e = .returned (.bool true) ∧ Up w w' := by
  have HE := Lib.hid (fun W (hW : Up w W) => equalD_yes v1 v2 l W (h1.up hW) (h2.up hW))
  obtain ⟨o1, c1, rfl, _, _⟩ := h1.slice
  obtain ⟨o2, c2, rfl, _, _⟩ := h2.slice
  clear h1 h2
  have hS : ((bs s).toList == (bs s).toList) = true := by rw [txt_eq]; simp
  generalize bs s = S at *
  go_enter Tryz.func46, Tryz.ntmps46
  go_wp2_with fail
  refine (HE.out _ ((Up.alloc _ _).trans (Up.alloc _ _))).mono ?_
  rintro e w1 ⟨rfl, u1⟩
  go_wp2_with fail
  go_ret
  exact ⟨rfl, ((Up.alloc _ _).trans (Up.alloc _ _)).trans u1⟩

theorem eg_same : ∀ args w, (callFunc 46 args).run Tryz.prog w = .ok (.enter 46 args) w := enters_of Tryz.func46 (by kernel_rfl) rfl

set_option maxRecDepth 100000 in
set_option maxHeartbeats 400000 in
theorem equalV_yes (v1 v2 : Value) (l : List Vo) (w : World) (h1 : Vols w v1 l) (h2 : Vols w v2 l) :
    Calls Tryz.prog 45 #[v1, v2, .func (.func 46) #[] #[]] w fun e w' => e = .returned (.bool true) ∧ Up w w' := by
  obtain ⟨o1, c1, rfl, p1, p2⟩ := h1.slice
  obtain ⟨o2, c2, rfl, q1, q2⟩ := h2.slice
  have HP := Lib.hid h1
  have HQ := Lib.hid h2
  unfold maxLen at p2 q2
  clear h1 h2
  go_enter Tryz.func45, Tryz.ntmps45
  go_wp2_with fail
  go_loopw [17] (fun i wr => EqDRel l.length w i wr) (fun i _ => l.length - (intOf i).toNat)
  case atStart => exact ⟨0, Nat.zero_le _, rfl, Up.refl w⟩
  case round =>
    obtain ⟨k, hk, rfl, hu⟩ := hrel
    by_cases hlt : k < l.length
    · have hne : l ≠ [] := by intro e; rw [e] at hlt; simp at hlt
      obtain ⟨b, off, rfl, h5⟩ := HP.out.at hne
      obtain ⟨b', off', rfl, h6⟩ := HQ.out.at hne
      obtain ⟨e1, u, e2, hi1⟩ := h5 k hlt
      obtain ⟨f1, u', f2, hi2⟩ := h6 k hlt
      obtain ⟨n1, dd1, rfl, _, _⟩ := hi1.slice
      obtain ⟨n2, d2, rfl, _, _⟩ := hi2.slice
      have HC := Lib.hid (fun W (hW : Up w W) => same1_yes l[k].nm _ _ l[k].bl W (hi1.up hW) (hi2.up hW))
      rw [← hu.cell (World.block_lt_of_cell? w _ e1)] at e1
      rw [← hu.cell (World.block_lt_of_cell? w _ e2)] at e2
      rw [← hu.cell (World.block_lt_of_cell? w _ f1)] at f1
      rw [← hu.cell (World.block_lt_of_cell? w _ f2)] at f2
      have f1' := Lib.cell?_alloc_some (.cells #[.string (bs l[k].nm), .slice n1 l[k].bl.length dd1] 47) f1
      have f2' := Lib.cell?_alloc_some (.cells #[.string (bs l[k].nm), .slice n1 l[k].bl.length dd1] 47) f2
      generalize bs l[k].nm = S at *
      obtain ⟨L, hL⟩ : ∃ L, l[k].bl.length = L := ⟨_, rfl⟩
      rw [hL] at e2 f2 f1' f2' HC
      have HU := Lib.hid hu
      have d1 : decide (k < l.length) = true := decide_eq_true hlt
      clear h5 h6 hu hne hi1 hi2 hL
      go_wp2_with fail
      refine (HC.out _ ((HU.out.trans (Up.alloc _ _)).trans (Up.alloc _ _))).mono ?_
      rintro e w1 ⟨rfl, u1⟩
      have HU1 := Lib.hid (((HU.out.trans (Up.alloc _ _)).trans (Up.alloc _ _)).trans u1)
      clear u1
      go_wp2_with fail
      go_roundw
      case rel => exact ⟨k + 1, by omega, by go_num, HU1.out⟩
      case measure => simp only [intOf]; omega
    · have d1 : decide (k < l.length) = false := decide_eq_false hlt
      go_wp2_with fail
      go_ret
      exact ⟨rfl, hu⟩

set_option maxRecDepth 100000 in
set_option maxHeartbeats 400000 in
theorem same_yes (v1 v2 : Value) (st : Sta) (w : World) (h1 : Stat w v1 st) (h2 : Stat w v2 st) :
    Calls Tryz.prog 17 #[v1, v2] w fun e w' => e = .returned (.bool true) ∧ Up w w' := by
  obtain ⟨a1, b1, rfl, hi1, hv1⟩ := h1
  obtain ⟨a2, b2, rfl, hi2, hv2⟩ := h2
  have HI := Lib.hid (fun W (hW : Up w W) => equalI_yes a1 a2 st.b W (hi1.up hW) (hi2.up hW))
  have HV := Lib.hid (fun W (hW : Up w W) => equalV_yes b1 b2 st.v W (hv1.up hW) (hv2.up hW))
  obtain ⟨o1, c1, rfl, _⟩ := hi1.slice
  obtain ⟨o2, c2, rfl, _⟩ := hi2.slice
  obtain ⟨o3, c3, rfl, _, _⟩ := hv1.slice
  obtain ⟨o4, c4, rfl, _, _⟩ := hv2.slice
  clear hi1 hi2 hv1 hv2
  generalize st.b.length = M at *
  generalize st.v.length = N at *
  go_enter Tryz.func17, Tryz.ntmps17
  have HR1 : Hid (RowC ((w.alloc (.cells #[.slice o1 M c1, .slice o3 N c3] 25)).alloc (.cells #[.slice o2 M c2, .slice o4 N c4] 25)) w.heap.size 25 [.slice o1 M c1, .slice o3 N c3]) := RowC.up (heap_alloc_new w _) (Up.alloc _ _)
  have HR2 : Hid (RowC ((w.alloc (.cells #[.slice o1 M c1, .slice o3 N c3] 25)).alloc (.cells #[.slice o2 M c2, .slice o4 N c4] 25)) (w.heap.size + 1) 25 [.slice o2 M c2, .slice o4 N c4]) := box_new w _ _ _ _
  have HW0 : Hid (Up w ((w.alloc (.cells #[.slice o1 M c1, .slice o3 N c3] 25)).alloc (.cells #[.slice o2 M c2, .slice o4 N c4] 25))) := (Up.alloc _ _).trans (Up.alloc _ _)
  go_wp2_with fail
  generalize ((w.alloc (.cells #[.slice o1 M c1, .slice o3 N c3] 25)).alloc (.cells #[.slice o2 M c2, .slice o4 N c4] 25)) = W0 at HR1 HR2 HW0 ⊢
  refine (HI.out _ HW0.out).mono ?_
  rintro e w1 ⟨rfl, u1⟩
  have x0 := (HR1.out.up u1).cell (j := 1) rfl
  have x1 := (HR2.out.up u1).cell (j := 1) rfl
  go_wp2_with fail
  refine (HV.out _ (HW0.out.trans u1)).mono ?_
  rintro e w2 ⟨rfl, u2⟩
  go_wp2_with fail
  go_ret
  exact ⟨rfl, (HW0.out.trans u1).trans u2⟩

set_option maxRecDepth 100000 in
set_option maxHeartbeats 400000 in
theorem told_yes (v1 v2 : Value) (st : Sta) (x : Int) (w : World) (h1 : Stat w v1 st) (h2 : Stat w v2 st) :
    Calls Tryz.prog 10 #[v1, .int .i64 x, v2, .int .i64 x] w fun e w' => e = .returned (.bool true) ∧ Up w w' := by
  have HS := Lib.hid (fun W (hW : Up w W) => same_yes v1 v2 st W (h1.up hW) (h2.up hW))
  obtain ⟨a1, b1, rfl, hi1, hv1⟩ := h1
  obtain ⟨a2, b2, rfl, hi2, hv2⟩ := h2
  obtain ⟨o1, c1, rfl, _⟩ := hi1.slice
  obtain ⟨o2, c2, rfl, _⟩ := hi2.slice
  obtain ⟨o3, c3, rfl, _, _⟩ := hv1.slice
  obtain ⟨o4, c4, rfl, _, _⟩ := hv2.slice
  clear hi1 hi2 hv1 hv2
  go_enter Tryz.func10, Tryz.ntmps10
  go_wp2_with fail
  refine (HS.out _ ((Up.alloc _ _).trans (Up.alloc _ _))).mono ?_
  rintro e w1 ⟨rfl, u1⟩
  go_wp2_with fail
  go_ret
  exact ⟨rfl, ((Up.alloc _ _).trans (Up.alloc _ _)).trans u1⟩

end Go.Proofs.YtcbppfndlagodaaGreatDoor

/-
  slices.Equal of two rows of ints that read alike; what the law DiffSays asks, in plain words. Conditions: as each says.
-/
namespace Go.Proofs.YtcbppfndlagodaaGreatDoor
open Go.RowKit
open Go.Proofs
open WoolBag
open WoolVol

theorem inL_at {l : List Int} {k : Nat} (h : k < l.length) : (inL l)[k]? = some (.int .i64 l[k]) := by
  unfold inL; rw [List.getElem?_map, List.getElem?_eq_getElem h]; rfl

set_option maxRecDepth 100000 in
set_option maxHeartbeats 400000 in
theorem equalN_yes (v1 v2 : Value) (l : List Int) (w : World) (h1 : Sl w 1 v1 l.length (inL l)) (h2 : Sl w 1 v2 l.length (inL l)) :
    Calls Tryz.prog 18 #[v1, v2] w fun e w' => e = .returned (.bool true) ∧ Up w w' := by
  obtain ⟨o1, c1, rfl, p1, p2⟩ := h1.slice
  obtain ⟨o2, c2, rfl, q1, q2⟩ := h2.slice
  have HP := Lib.hid h1
  have HQ := Lib.hid h2
  unfold maxLen at p2 q2
  clear h1 h2
  go_enter Tryz.func18, Tryz.ntmps18
  go_wp2_with fail
  go_loopw [13] (fun i wr => EqDRel l.length w i wr) (fun i _ => l.length - (intOf i).toNat)
  case atStart => exact ⟨0, Nat.zero_le _, rfl, Up.refl w⟩
  case round =>
    obtain ⟨k, hk, rfl, hu⟩ := hrel
    by_cases hlt : k < l.length
    · have hne : l.length ≠ 0 := by omega
      obtain ⟨b, off, rfl, h5⟩ := Sl.cells HP.out hne
      obtain ⟨b', off', rfl, h6⟩ := Sl.cells HQ.out hne
      have e1 := h5 k _ (inL_at hlt)
      have f1 := h6 k _ (inL_at hlt)
      rw [← hu.cell (World.block_lt_of_cell? w _ e1)] at e1
      rw [← hu.cell (World.block_lt_of_cell? w _ f1)] at f1
      generalize l[k] = x at e1 f1
      have HU := Lib.hid hu
      have d1 : decide (k < l.length) = true := decide_eq_true hlt
      clear h5 h6 hu hne
      go_wp2_with fail
      go_quiet (fail)
      go_wp2_with fail
      go_roundw
      case rel => exact ⟨k + 1, by omega, by go_num, HU.out.trans (Up.drewN _ _)⟩
      case measure => simp only [intOf]; omega
    · have d1 : decide (k < l.length) = false := decide_eq_false hlt
      go_wp2_with fail
      go_ret
      exact ⟨rfl, hu⟩

theorem txt_tx {st : Sta} (g : WoolVol.Good FP st) {k j : Nat} (hk : k < st.v.length) (hj : j < st.v[k].bl.length) {t : List UInt8} (h : txAt st k j = some t) : txt st.b st.v[k].bl[j] = 43 :: t := by
  have hb := blk_eq hk hj
  unfold txAt at h
  rw [hb] at h
  generalize st.v[k].bl[j] = i at h
  cases h1 : i.1 with
  | false => rw [h1] at h; simp at h
  | true =>
    rw [h1] at h
    simp only [if_true] at h
    unfold tx at h
    cases hi : it st.b i with
    | none => rw [hi] at h; simp at h
    | some x =>
      rw [hi] at h
      simp only [Option.some.injEq] at h
      obtain ⟨hx, he⟩ := (it_some g.bag).1 hi
      obtain ⟨m, hm, rfl⟩ := List.getElem_of_mem hx
      unfold txt
      rw [h1, if_pos rfl, he, g.bag.idx_id hm]
      show 43 :: (st.b[m]!).t = 43 :: t
      rw [getElem!_pos st.b m hm, h]

/-- the error of two names -/
def twoE (st : Sta) (a b : List UInt8) : Int := if chkS FP st ≠ 0 then chkS FP st else if (vix (nmB a) st.v).isNone || (vix (nmB b) st.v).isNone then 4 else 0

theorem vix_cases (p : Vo → Bool) (l : List Vo) : vix p l = none ∨ ∃ k, vix p l = some k := by
  cases vix p l with
  | none => exact .inl rfl
  | some k => exact .inr ⟨k, rfl⟩

theorem both_two (st : Sta) (a b : List UInt8) : (bothR st a b).2.2 = twoE st a b := by
  unfold bothR twoE blocks vfind
  by_cases hc : chkS FP st ≠ 0
  · simp only [if_pos hc]
  · simp only [if_neg hc]
    rcases vix_cases (nmB a) st.v with ha | ⟨k, ha⟩
    · rw [ha]; simp
    · rw [ha]
      rcases vix_cases (nmB b) st.v with hb | ⟨m, hb⟩
      · rw [hb]; simp
      · rw [hb]; simp

end Go.Proofs.YtcbppfndlagodaaGreatDoor
