/-
  What the reference's Trim returns. Conditions: a state of right sizes with a right bag; the place is there.
-/
import Derived.Test.YtcbppfndlagodaaGreatDoorJVolMakes32
import Derived.Test.YtcbppfndlagodaaGreatDoorJVolMakes24
import Derived.Test.YtcbppfndlagodaaGreatDoorJVolMakes35
namespace Go.Proofs.YtcbppfndlagodaaGreatDoor
open Go.RowKit
open Go.Proofs
open WoolBag
open WoolVol

theorem rel_one (l : List Itm) (i : Idn) : rel FP l [i] = if i.1 then (WoolBag.drop FP l i).1 else l := rfl

set_option maxRecDepth 100000 in
set_option maxHeartbeats 4000000 in
theorem refTrim_any (v : Value) (st : Sta) (k j : Nat) (w : World) (h : Stat w v st) (hs : Small st) (hg : Bag FP st.b) (hk : k < st.v.length) (hj : j < st.v[k].bl.length) :
    Calls Tryz.prog 32 #[v, .int .i64 (k : Int), .int .i64 (j : Int)] w (RdPost w ⟨rel FP st.b [st.v[k].bl[j]], setB st.v k j noId⟩) := by
  have HSET := Lib.hid (fun W (hW : Up w W) => refSet_any v st k j noId W (h.up hW) hs hk hj)
  obtain ⟨vb, vv, rfl, hb, hv⟩ := h
  obtain ⟨oB, cB, rfl, _⟩ := hb.slice
  obtain ⟨oV, cV, rfl, hV1, hV2⟩ := hv.slice
  obtain ⟨b, off, rfl, h5⟩ := hv.at (by intro e; rw [e] at hk; simp at hk)
  obtain ⟨a1, u0, a2, hids⟩ := h5 k hk
  obtain ⟨o', c', rfl, hc1, hc2⟩ := hids.slice
  obtain ⟨b', off', rfl, h6⟩ := hids.at (by intro e; rw [e] at hj; simp at hj)
  obtain ⟨i1, i2, i3⟩ := h6 j hj
  unfold maxLen at hV2 hc2
  unfold idV noId at HSET
  simp only at HSET
  obtain ⟨S1, hS1⟩ : ∃ S1 : Sta, (⟨st.b, setB st.v k j noId⟩ : Sta) = S1 := ⟨_, rfl⟩
  have HS1 := Lib.hid hS1
  have hS1' : (⟨st.b, setB st.v k j (false, 0, 0)⟩ : Sta) = S1 := hS1
  rw [hS1'] at HSET
  have HRES : Hid ((⟨rel FP st.b [st.v[k].bl[j]], setB st.v k j noId⟩ : Sta) = ⟨if st.v[k].bl[j].1 then (WoolBag.drop FP S1.b st.v[k].bl[j]).1 else S1.b, S1.v⟩) := by show _ = _; rw [← hS1, rel_one]
  rw [HRES.out]
  have hg1 : Bag FP S1.b := by rw [← hS1]; exact hg
  have HG1 := Lib.hid hg1
  clear hg1 hS1 hS1' HRES HS1
  obtain ⟨id, hid⟩ : ∃ id, st.v[k].bl[j] = id := ⟨_, rfl⟩
  rw [hid] at i1 i2 i3 ⊢
  obtain ⟨xb, xs, xn⟩ := id
  simp only at i1 i2 i3 ⊢
  obtain ⟨RS, hRS⟩ : ∃ RS : Sta, (⟨if xb = true then (WoolBag.drop FP S1.b (xb, xs, xn)).1 else S1.b, S1.v⟩ : Sta) = RS := ⟨_, rfl⟩
  rw [hRS]
  have HRS := Lib.hid hRS
  clear hRS
  have HW0 : Hid (Up w ((w.alloc (.cells #[.slice oB st.b.length cB, .slice (some ⟨b, off, none⟩) st.v.length cV] 25)).alloc (.cells #[.slice none 0 0, .slice none 0 0] 25))) := (Up.alloc _ _).trans (Up.alloc _ _)
  have e2 := (HW0.out.cell (World.block_lt_of_cell? w _ a2)).trans a2
  have f1 := (HW0.out.cell (World.block_lt_of_cell? w _ i1)).trans i1
  have f2 := (HW0.out.cell (World.block_lt_of_cell? w _ i2)).trans i2
  have f3 := (HW0.out.cell (World.block_lt_of_cell? w _ i3)).trans i3
  clear h5 h6 a1 a2 hids i1 i2 i3 hid hb hv hg hs
  obtain ⟨L, hL⟩ : ∃ L, st.v[k].bl.length = L := ⟨_, rfl⟩
  rw [hL] at hj hc1 e2
  clear hL
  generalize st.v.length = N at *
  generalize st.b.length = M at *
  go_enter Tryz.func32, Tryz.ntmps32
  go_upto_region 2 with (fail)
  have HRI : Hid (RowC (((w.alloc (.cells #[.slice oB M cB, .slice (some ⟨b, off, none⟩) N cV] 25)).alloc (.cells #[.slice none 0 0, .slice none 0 0] 25)).alloc (.cells #[.bool xb, .int .i64 xs, .int .i64 xn] 49)) (w.heap.size + 1 + 1) 49 [.bool xb, .int .i64 xs, .int .i64 xn]) := row_at (by simp) [.bool xb, .int .i64 xs, .int .i64 xn] 49
  have HRR : Hid (RowC (((w.alloc (.cells #[.slice oB M cB, .slice (some ⟨b, off, none⟩) N cV] 25)).alloc (.cells #[.slice none 0 0, .slice none 0 0] 25)).alloc (.cells #[.bool xb, .int .i64 xs, .int .i64 xn] 49)) (w.heap.size + 1) 25 [.slice none 0 0, .slice none 0 0]) := (row_at (by simp) [.slice none 0 0, .slice none 0 0] 25).up (Up.alloc _ _)
  have HRA : Hid (RowC (((w.alloc (.cells #[.slice oB M cB, .slice (some ⟨b, off, none⟩) N cV] 25)).alloc (.cells #[.slice none 0 0, .slice none 0 0] 25)).alloc (.cells #[.bool xb, .int .i64 xs, .int .i64 xn] 49)) w.heap.size 25 [.slice oB M cB, .slice (some ⟨b, off, none⟩) N cV]) := ((row_at rfl [.slice oB M cB, .slice (some ⟨b, off, none⟩) N cV] 25).up (Up.alloc _ _)).up (Up.alloc _ _)
  have HW1 : Hid (Up w (((w.alloc (.cells #[.slice oB M cB, .slice (some ⟨b, off, none⟩) N cV] 25)).alloc (.cells #[.slice none 0 0, .slice none 0 0] 25)).alloc (.cells #[.bool xb, .int .i64 xs, .int .i64 xn] 49))) := HW0.out.trans (Up.alloc _ _)
  clear HW0 e2 f1 f2 f3
  generalize (((w.alloc (.cells #[.slice oB M cB, .slice (some ⟨b, off, none⟩) N cV] 25)).alloc (.cells #[.slice none 0 0, .slice none 0 0] 25)).alloc (.cells #[.bool xb, .int .i64 xs, .int .i64 xn] 49)) = W1 at HRI HRR HRA HW1 ⊢
  have q0 := HRA.out.cell (j := 0) rfl
  have q1 := HRA.out.cell (j := 1) rfl
  go_wp2_with fail
  refine (HSET.out _ HW1.out).mono ?_
  rintro e w1 ⟨v1, rfl, hst1, u1⟩
  obtain ⟨vb1, vv1, rfl, hb1, hv1⟩ := hst1
  obtain ⟨o1, c1, rfl, hm1⟩ := hb1.slice
  obtain ⟨o2, c2, rfl, hm2, hm3⟩ := hv1.slice
  clear q0 q1
  go_upto_region 3 with (fail)
  have hal := Up.alloc w1 (.cells #[.slice o1 S1.b.length c1, .slice o2 S1.v.length c2] 25)
  have HX : Hid (RowC (w1.alloc (.cells #[.slice o1 S1.b.length c1, .slice o2 S1.v.length c2] 25)) w1.heap.size 25 [.slice o1 S1.b.length c1, .slice o2 S1.v.length c2]) := heap_alloc_new w1 _
  have HI2 := Lib.hid ((HRI.out.up u1).up hal)
  have HR2 := Lib.hid ((HRR.out.up u1).up hal)
  have HB2 := Lib.hid (hb1.up hal)
  have HV2 := Lib.hid (hv1.up hal)
  have HU2 := Lib.hid ((HW1.out.trans u1).trans hal)
  have hRX : w.heap.size + 1 ≠ w1.heap.size := by have := (HRR.out.up u1).lt; omega
  have hwX : w.heap.size ≤ w1.heap.size := (HW1.out.trans u1).size
  clear hal hb1 hv1 u1
  generalize (w1.alloc (.cells #[.slice o1 S1.b.length c1, .slice o2 S1.v.length c2] 25)) = W2 at HX HI2 HR2 HB2 HV2 HU2 ⊢
  obtain ⟨X, hX⟩ : ∃ X, w1.heap.size = X := ⟨_, rfl⟩
  rw [hX] at HX hRX hwX ⊢
  clear hX
  have x0 := HX.out.cell (j := 0) rfl
  have x1 := HX.out.cell (j := 1) rfl
  have y0 := HI2.out.cell (j := 0) rfl
  have y1 := HI2.out.cell (j := 1) rfl
  have y2 := HI2.out.cell (j := 2) rfl
  have r0 := HR2.out.frozen 0
  have r1 := HR2.out.frozen 1
  have r2 := HR2.out.cell (j := 0) rfl
  have r3 := HR2.out.cell (j := 1) rfl
  cases xb with
  | false =>
    have HRS2 : Hid (RS = S1) := by show _ = _; rw [← HRS.out]; rfl
    go_wp2_with fail
    have hz := (HR2.out.set 0 (.slice o1 S1.b.length c1)).set 1 (.slice o2 S1.v.length c2)
    have z0 := hz.cell (j := 0) rfl
    have z1 := hz.cell (j := 1) rfl
    have HST := Lib.hid (Stat.boxed (v := .agg #[.slice o1 S1.b.length c1, .slice o2 S1.v.length c2]) (x := .slice o1 S1.b.length c1) (y := .slice o2 S1.v.length c2) (st := S1) ⟨_, _, rfl, HB2.out, HV2.out⟩ HR2.out rfl rfl rfl)
    have HUZ : Hid (Up w ((W2.setCell ⟨w.heap.size + 1, 0, none⟩ (.slice o1 S1.b.length c1)).setCell ⟨w.heap.size + 1, 1, none⟩ (.slice o2 S1.v.length c2))) := up2 HU2.out (Nat.le_succ _)
    generalize (W2.setCell ⟨w.heap.size + 1, 0, none⟩ (.slice o1 S1.b.length c1)).setCell ⟨w.heap.size + 1, 1, none⟩ (.slice o2 S1.v.length c2) = WZ at z0 z1 HST HUZ ⊢
    exact bodyPost_ret (v := .agg #[.slice o1 S1.b.length c1, .slice o2 S1.v.length c2]) (by simp [results, Tryz.results32, go_sem, z0, z1]) rfl ⟨_, rfl, by rw [HRS2.out]; exact HST.out, HUZ.out⟩
  | true =>
    have HLE := Lib.hid (fun W (hW : Up W2 W) => refLess_any _ S1.b true xs xn W (HB2.out.up hW) HG1.out)
    unfold LessPost at HLE
    obtain ⟨l', hl'⟩ : ∃ l', (WoolBag.drop FP S1.b (true, xs, xn)).1 = l' := ⟨_, rfl⟩
    rw [hl'] at HLE
    have HRS2 : Hid (RS = ⟨l', S1.v⟩) := by show _ = _; rw [← HRS.out, ← hl']; rfl
    clear hl'
    go_wp2_with fail
    refine (HLE.out _ (Up.refl _)).mono ?_
    rintro e w3 ⟨o3, c3, rfl, hit3, u3⟩
    have hX3 := HX.out.up u3
    have hR3 := HR2.out.up u3
    have s0 := hX3.cell (j := 0) rfl
    have s1 := hX3.cell (j := 1) rfl
    have s2 := hX3.frozen 0
    have HX4 : Hid (RowC (w3.setCell ⟨X, 0, none⟩ (.slice o3 l'.length c3)) X 25 [.slice o3 l'.length c3, .slice o2 S1.v.length c2]) := hX3.set 0 _
    have HR4 := Lib.hid (hR3.other hRX 0 (.slice o3 l'.length c3))
    have HS4 : Hid (Stat (w3.setCell ⟨X, 0, none⟩ (.slice o3 l'.length c3)) (.agg #[.slice o3 l'.length c3, .slice o2 S1.v.length c2]) ⟨l', S1.v⟩) := ⟨_, _, rfl, hit3.setS hX3 rfl rfl, (HV2.out.up u3).setS hX3 rfl rfl⟩
    have HU4 : Hid (Up w (w3.setCell ⟨X, 0, none⟩ (.slice o3 l'.length c3))) := Below.setCell (show Below w.heap.size w w3 from HU2.out.trans u3) (p := ⟨X, 0, none⟩) hwX _
    clear hX3 hR3 hit3 u3 x0 x1 y0 y1 y2 r0 r1 r2 r3
    go_upto_region 5 with (fail)
    generalize (w3.setCell ⟨X, 0, none⟩ (.slice o3 l'.length c3)) = W4 at HX4 HR4 HS4 HU4 ⊢
    clear s0 s1 s2
    have s0 := HX4.out.cell (j := 0) rfl
    have s1 := HX4.out.cell (j := 1) rfl
    have r0 := HR4.out.frozen 0
    have r1 := HR4.out.frozen 1
    have r2 := HR4.out.cell (j := 0) rfl
    have r3 := HR4.out.cell (j := 1) rfl
    go_wp2_with fail
    have hz := (HR4.out.set 0 (.slice o3 l'.length c3)).set 1 (.slice o2 S1.v.length c2)
    have z0 := hz.cell (j := 0) rfl
    have z1 := hz.cell (j := 1) rfl
    have HST := Lib.hid (Stat.boxed (x := .slice o3 l'.length c3) (y := .slice o2 S1.v.length c2) HS4.out HR4.out rfl rfl rfl)
    have HUZ : Hid (Up w ((W4.setCell ⟨w.heap.size + 1, 0, none⟩ (.slice o3 l'.length c3)).setCell ⟨w.heap.size + 1, 1, none⟩ (.slice o2 S1.v.length c2))) := up2 HU4.out (Nat.le_succ _)
    generalize (W4.setCell ⟨w.heap.size + 1, 0, none⟩ (.slice o3 l'.length c3)).setCell ⟨w.heap.size + 1, 1, none⟩ (.slice o2 S1.v.length c2) = WZ at z0 z1 HST HUZ ⊢
    exact bodyPost_ret (v := .agg #[.slice o3 l'.length c3, .slice o2 S1.v.length c2]) (by simp [results, Tryz.results32, go_sem, z0, z1]) rfl ⟨_, rfl, by rw [HRS2.out]; exact HST.out, HUZ.out⟩

end Go.Proofs.YtcbppfndlagodaaGreatDoor
