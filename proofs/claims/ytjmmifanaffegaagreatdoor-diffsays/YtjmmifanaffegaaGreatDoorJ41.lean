/-
  The texts RefVol7, ShelfS, one behind the other; each says below what it holds and on what conditions.
-/
import Derived.Test.YtjmmifanaffegaaGreatDoorJ32
import Derived.Test.YtjmmifanaffegaaGreatDoorJ24
import Derived.Test.YtjmmifanaffegaaGreatDoorJ35
import Derived.Ground.GgsProg
import Derived.Shelf.GgSortFunc.Tiny
import Derived.Shelf.SlSortFuncK.WholeK
import Derived.Test.YtjmmifanaffegaaGreatDoorProg

/-
  What the reference's Trim returns. Conditions: a state of right sizes with a right bag; the place is there.
-/
namespace Go.Proofs.YtjmmifanaffegaaGreatDoor
open Go.RowKit
open Go.Proofs
open WoolBag
open WoolVol

theorem rel_one (l : List Itm) (i : Idn) : rel FP l [i] = if i.1 then (WoolBag.drop FP l i).1 else l := rfl

set_option maxRecDepth 100000 in
set_option maxHeartbeats 4000000 in
theorem refTrim_any (v : Value) (st : Sta) (k j : Nat) (w : World) (h : Stat w v st) (hs : Small st) (hg : Bag FP st.b) (hk : k < st.v.length) (hj : j < st.v[k].bl.length) :
    Calls Tryz.prog 32 #[v, .int .i64 (k : Int), .int .i64 (j : Int)] w (RdPost w ⟨rel FP st.b [st.v[k].bl[j]], setB st.v k j noId⟩) := by
  have HSET := Lib.hid (fun W (hW : Up w W) => refSet_any v st k j noId W (h.up hW) hs hk hj)
  obtain ⟨vb, vv, rfl, hb, hv⟩ := h
  obtain ⟨oB, cB, rfl, _⟩ := hb.slice
  obtain ⟨oV, cV, rfl, hV1, hV2⟩ := hv.slice
  obtain ⟨b, off, rfl, h5⟩ := hv.at (by intro e; rw [e] at hk; simp at hk)
  obtain ⟨a1, u0, a2, hids⟩ := h5 k hk
  obtain ⟨o', c', rfl, hc1, hc2⟩ := hids.slice
  obtain ⟨b', off', rfl, h6⟩ := hids.at (by intro e; rw [e] at hj; simp at hj)
  obtain ⟨i1, i2, i3⟩ := h6 j hj
  unfold maxLen at hV2 hc2
  unfold idV noId at HSET
  simp only at HSET
  obtain ⟨S1, hS1⟩ : ∃ S1 : Sta, (⟨st.b, setB st.v k j noId⟩ : Sta) = S1 := ⟨_, rfl⟩
  have HS1 := Lib.hid hS1
  have hS1' : (⟨st.b, setB st.v k j (false, 0, 0)⟩ : Sta) = S1 := hS1
  rw [hS1'] at HSET
  have HRES : Hid ((⟨rel FP st.b [st.v[k].bl[j]], setB st.v k j noId⟩ : Sta) = ⟨if st.v[k].bl[j].1 then (WoolBag.drop FP S1.b st.v[k].bl[j]).1 else S1.b, S1.v⟩) := by show _ = _; rw [← hS1, rel_one]
  rw [HRES.out]
  have hg1 : Bag FP S1.b := by rw [← hS1]; exact hg
  have HG1 := Lib.hid hg1
  clear hg1 hS1 hS1' HRES HS1
  obtain ⟨id, hid⟩ : ∃ id, st.v[k].bl[j] = id := ⟨_, rfl⟩
  rw [hid] at i1 i2 i3 ⊢
  obtain ⟨xb, xs, xn⟩ := id
  simp only at i1 i2 i3 ⊢
  obtain ⟨RS, hRS⟩ : ∃ RS : Sta, (⟨if xb = true then (WoolBag.drop FP S1.b (xb, xs, xn)).1 else S1.b, S1.v⟩ : Sta) = RS := ⟨_, rfl⟩
  rw [hRS]
  have HRS := Lib.hid hRS
  clear hRS
  have HW0 : Hid (Up w ((w.alloc (.cells #[.slice oB st.b.length cB, .slice (some ⟨b, off, none⟩) st.v.length cV] 25)).alloc (.cells #[.slice none 0 0, .slice none 0 0] 25))) := (Up.alloc _ _).trans (Up.alloc _ _)
  have e2 := (HW0.out.cell (World.block_lt_of_cell? w _ a2)).trans a2
  have f1 := (HW0.out.cell (World.block_lt_of_cell? w _ i1)).trans i1
  have f2 := (HW0.out.cell (World.block_lt_of_cell? w _ i2)).trans i2
  have f3 := (HW0.out.cell (World.block_lt_of_cell? w _ i3)).trans i3
  clear h5 h6 a1 a2 hids i1 i2 i3 hid hb hv hg hs
  obtain ⟨L, hL⟩ : ∃ L, st.v[k].bl.length = L := ⟨_, rfl⟩
  rw [hL] at hj hc1 e2
  clear hL
  generalize st.v.length = N at *
  generalize st.b.length = M at *
  go_enter Tryz.func32, Tryz.ntmps32
  go_upto_region 2 with (fail)
  have HRI : Hid (RowC (((w.alloc (.cells #[.slice oB M cB, .slice (some ⟨b, off, none⟩) N cV] 25)).alloc (.cells #[.slice none 0 0, .slice none 0 0] 25)).alloc (.cells #[.bool xb, .int .i64 xs, .int .i64 xn] 49)) (w.heap.size + 1 + 1) 49 [.bool xb, .int .i64 xs, .int .i64 xn]) := row_at (by simp) [.bool xb, .int .i64 xs, .int .i64 xn] 49
  have HRR : Hid (RowC (((w.alloc (.cells #[.slice oB M cB, .slice (some ⟨b, off, none⟩) N cV] 25)).alloc (.cells #[.slice none 0 0, .slice none 0 0] 25)).alloc (.cells #[.bool xb, .int .i64 xs, .int .i64 xn] 49)) (w.heap.size + 1) 25 [.slice none 0 0, .slice none 0 0]) := (row_at (by simp) [.slice none 0 0, .slice none 0 0] 25).up (Up.alloc _ _)
  have HRA : Hid (RowC (((w.alloc (.cells #[.slice oB M cB, .slice (some ⟨b, off, none⟩) N cV] 25)).alloc (.cells #[.slice none 0 0, .slice none 0 0] 25)).alloc (.cells #[.bool xb, .int .i64 xs, .int .i64 xn] 49)) w.heap.size 25 [.slice oB M cB, .slice (some ⟨b, off, none⟩) N cV]) := ((row_at rfl [.slice oB M cB, .slice (some ⟨b, off, none⟩) N cV] 25).up (Up.alloc _ _)).up (Up.alloc _ _)
  have HW1 : Hid (Up w (((w.alloc (.cells #[.slice oB M cB, .slice (some ⟨b, off, none⟩) N cV] 25)).alloc (.cells #[.slice none 0 0, .slice none 0 0] 25)).alloc (.cells #[.bool xb, .int .i64 xs, .int .i64 xn] 49))) := HW0.out.trans (Up.alloc _ _)
  clear HW0 e2 f1 f2 f3
  generalize (((w.alloc (.cells #[.slice oB M cB, .slice (some ⟨b, off, none⟩) N cV] 25)).alloc (.cells #[.slice none 0 0, .slice none 0 0] 25)).alloc (.cells #[.bool xb, .int .i64 xs, .int .i64 xn] 49)) = W1 at HRI HRR HRA HW1 ⊢
  have q0 := HRA.out.cell (j := 0) rfl
  have q1 := HRA.out.cell (j := 1) rfl
  go_wp2_with fail
  refine (HSET.out _ HW1.out).mono ?_
  rintro e w1 ⟨v1, rfl, hst1, u1⟩
  obtain ⟨vb1, vv1, rfl, hb1, hv1⟩ := hst1
  obtain ⟨o1, c1, rfl, hm1⟩ := hb1.slice
  obtain ⟨o2, c2, rfl, hm2, hm3⟩ := hv1.slice
  clear q0 q1
  go_upto_region 3 with (fail)
  have hal := Up.alloc w1 (.cells #[.slice o1 S1.b.length c1, .slice o2 S1.v.length c2] 25)
  have HX : Hid (RowC (w1.alloc (.cells #[.slice o1 S1.b.length c1, .slice o2 S1.v.length c2] 25)) w1.heap.size 25 [.slice o1 S1.b.length c1, .slice o2 S1.v.length c2]) := heap_alloc_new w1 _
  have HI2 := Lib.hid ((HRI.out.up u1).up hal)
  have HR2 := Lib.hid ((HRR.out.up u1).up hal)
  have HB2 := Lib.hid (hb1.up hal)
  have HV2 := Lib.hid (hv1.up hal)
  have HU2 := Lib.hid ((HW1.out.trans u1).trans hal)
  have hRX : w.heap.size + 1 ≠ w1.heap.size := by have := (HRR.out.up u1).lt; omega
  have hwX : w.heap.size ≤ w1.heap.size := (HW1.out.trans u1).size
  clear hal hb1 hv1 u1
  generalize (w1.alloc (.cells #[.slice o1 S1.b.length c1, .slice o2 S1.v.length c2] 25)) = W2 at HX HI2 HR2 HB2 HV2 HU2 ⊢
  obtain ⟨X, hX⟩ : ∃ X, w1.heap.size = X := ⟨_, rfl⟩
  rw [hX] at HX hRX hwX ⊢
  clear hX
  have x0 := HX.out.cell (j := 0) rfl
  have x1 := HX.out.cell (j := 1) rfl
  have y0 := HI2.out.cell (j := 0) rfl
  have y1 := HI2.out.cell (j := 1) rfl
  have y2 := HI2.out.cell (j := 2) rfl
  have r0 := HR2.out.frozen 0
  have r1 := HR2.out.frozen 1
  have r2 := HR2.out.cell (j := 0) rfl
  have r3 := HR2.out.cell (j := 1) rfl
  cases xb with
  | false =>
    have HRS2 : Hid (RS = S1) := by show _ = _; rw [← HRS.out]; rfl
    go_wp2_with fail
    have hz := (HR2.out.set 0 (.slice o1 S1.b.length c1)).set 1 (.slice o2 S1.v.length c2)
    have z0 := hz.cell (j := 0) rfl
    have z1 := hz.cell (j := 1) rfl
    have HST := Lib.hid (Stat.boxed (v := .agg #[.slice o1 S1.b.length c1, .slice o2 S1.v.length c2]) (x := .slice o1 S1.b.length c1) (y := .slice o2 S1.v.length c2) (st := S1) ⟨_, _, rfl, HB2.out, HV2.out⟩ HR2.out rfl rfl rfl)
    have HUZ : Hid (Up w ((W2.setCell ⟨w.heap.size + 1, 0, none⟩ (.slice o1 S1.b.length c1)).setCell ⟨w.heap.size + 1, 1, none⟩ (.slice o2 S1.v.length c2))) := up2 HU2.out (Nat.le_succ _)
    generalize (W2.setCell ⟨w.heap.size + 1, 0, none⟩ (.slice o1 S1.b.length c1)).setCell ⟨w.heap.size + 1, 1, none⟩ (.slice o2 S1.v.length c2) = WZ at z0 z1 HST HUZ ⊢
    exact bodyPost_ret (v := .agg #[.slice o1 S1.b.length c1, .slice o2 S1.v.length c2]) (by simp [results, Tryz.results32, go_sem, z0, z1]) rfl ⟨_, rfl, by rw [HRS2.out]; exact HST.out, HUZ.out⟩
  | true =>
    have HLE := Lib.hid (fun W (hW : Up W2 W) => refLess_any _ S1.b true xs xn W (HB2.out.up hW) HG1.out)
    unfold LessPost at HLE
    obtain ⟨l', hl'⟩ : ∃ l', (WoolBag.drop FP S1.b (true, xs, xn)).1 = l' := ⟨_, rfl⟩
    rw [hl'] at HLE
    have HRS2 : Hid (RS = ⟨l', S1.v⟩) := by show _ = _; rw [← HRS.out, ← hl']; rfl
    clear hl'
    go_wp2_with fail
    refine (HLE.out _ (Up.refl _)).mono ?_
    rintro e w3 ⟨o3, c3, rfl, hit3, u3⟩
    have hX3 := HX.out.up u3
    have hR3 := HR2.out.up u3
    have s0 := hX3.cell (j := 0) rfl
    have s1 := hX3.cell (j := 1) rfl
    have s2 := hX3.frozen 0
    have HX4 : Hid (RowC (w3.setCell ⟨X, 0, none⟩ (.slice o3 l'.length c3)) X 25 [.slice o3 l'.length c3, .slice o2 S1.v.length c2]) := hX3.set 0 _
    have HR4 := Lib.hid (hR3.other hRX 0 (.slice o3 l'.length c3))
    have HS4 : Hid (Stat (w3.setCell ⟨X, 0, none⟩ (.slice o3 l'.length c3)) (.agg #[.slice o3 l'.length c3, .slice o2 S1.v.length c2]) ⟨l', S1.v⟩) := ⟨_, _, rfl, hit3.setS hX3 rfl rfl, (HV2.out.up u3).setS hX3 rfl rfl⟩
    have HU4 : Hid (Up w (w3.setCell ⟨X, 0, none⟩ (.slice o3 l'.length c3))) := Below.setCell (show Below w.heap.size w w3 from HU2.out.trans u3) (p := ⟨X, 0, none⟩) hwX _
    clear hX3 hR3 hit3 u3 x0 x1 y0 y1 y2 r0 r1 r2 r3
    go_upto_region 5 with (fail)
    generalize (w3.setCell ⟨X, 0, none⟩ (.slice o3 l'.length c3)) = W4 at HX4 HR4 HS4 HU4 ⊢
    clear s0 s1 s2
    have s0 := HX4.out.cell (j := 0) rfl
    have s1 := HX4.out.cell (j := 1) rfl
    have r0 := HR4.out.frozen 0
    have r1 := HR4.out.frozen 1
    have r2 := HR4.out.cell (j := 0) rfl
    have r3 := HR4.out.cell (j := 1) rfl
    go_wp2_with fail
    have hz := (HR4.out.set 0 (.slice o3 l'.length c3)).set 1 (.slice o2 S1.v.length c2)
    have z0 := hz.cell (j := 0) rfl
    have z1 := hz.cell (j := 1) rfl
    have HST := Lib.hid (Stat.boxed (x := .slice o3 l'.length c3) (y := .slice o2 S1.v.length c2) HS4.out HR4.out rfl rfl rfl)
    have HUZ : Hid (Up w ((W4.setCell ⟨w.heap.size + 1, 0, none⟩ (.slice o3 l'.length c3)).setCell ⟨w.heap.size + 1, 1, none⟩ (.slice o2 S1.v.length c2))) := up2 HU4.out (Nat.le_succ _)
    generalize (W4.setCell ⟨w.heap.size + 1, 0, none⟩ (.slice o3 l'.length c3)).setCell ⟨w.heap.size + 1, 1, none⟩ (.slice o2 S1.v.length c2) = WZ at z0 z1 HST HUZ ⊢
    exact bodyPost_ret (v := .agg #[.slice o3 l'.length c3, .slice o2 S1.v.length c2]) (by simp [results, Tryz.results32, go_sem, z0, z1]) rfl ⟨_, rfl, by rw [HRS2.out]; exact HST.out, HUZ.out⟩

end Go.Proofs.YtjmmifanaffegaaGreatDoor

/-
  Contracts of library functions at this program, each one application of a theorem of the library: what is proved is what each says. Conditions: as each says.
-/
namespace Go.Proofs
open Go.Shelf
def Tryz.laysGg6_ren : Go.Shelf.Ren := ⟨fun | 6 => 62 | 10 => 87 | 11 => 88 | 12 => 89 | 13 => 90 | 14 => 91 | 24 => 122 | 25 => 123 | 26 => 124 | 27 => 125 | 28 => 126 | 29 => 127 | 30 => 128 | 31 => 129 | 32 => 130 | 33 => 131 | 34 => 144 | 35 => 145 | 36 => 146 | 37 => 147 | 38 => 148 | 39 => 156 | n => n, fun | 20 => 20 | 26 => 100 | 35 => 126 | 0 => 0 | 37 => 128 | 3 => 3 | 41 => 132 | 44 => 135 | 49 => 160 | 51 => 162 | 4 => 4 | 54 => 165 | 53 => 164 | 58 => 153 | 5 => 5 | 9 => 9 | 60 => 178 | 64 => 182 | 66 => 188 | 67 => 189 | 17 => 17 | 32 => 123 | 33 => 124 | 82 => 218 | 12 => 12 | 75 => 212 | 76 => 213 | 77 => 214 | 78 => 155 | 79 => 215 | 80 => 216 | n => n, fun | n => n⟩
theorem Tryz.laysGg6 : Go.Proofs.LaysGg.n6 Tryz.prog Tryz.laysGg6_ren := {
  mixed := by kernel_rfl
  f6 := Tryz.func62.trans (congrArg some (by kernel_rfl))
  f10 := Tryz.func87.trans (congrArg some (by kernel_rfl))
  f11 := Tryz.func88.trans (congrArg some (by kernel_rfl))
  f12 := Tryz.func89.trans (congrArg some (by kernel_rfl))
  f13 := Tryz.func90.trans (congrArg some (by kernel_rfl))
  f14 := Tryz.func91.trans (congrArg some (by kernel_rfl))
  f24 := Tryz.func122.trans (congrArg some (by kernel_rfl))
  f25 := Tryz.func123.trans (congrArg some (by kernel_rfl))
  f26 := Tryz.func124.trans (congrArg some (by kernel_rfl))
  f27 := Tryz.func125.trans (congrArg some (by kernel_rfl))
  f28 := Tryz.func126.trans (congrArg some (by kernel_rfl))
  f29 := Tryz.func127.trans (congrArg some (by kernel_rfl))
  f30 := Tryz.func128.trans (congrArg some (by kernel_rfl))
  f31 := Tryz.func129.trans (congrArg some (by kernel_rfl))
  f32 := Tryz.func130.trans (congrArg some (by kernel_rfl))
  f33 := Tryz.func131.trans (congrArg some (by kernel_rfl))
  f34 := Tryz.func144.trans (congrArg some (by kernel_rfl))
  f35 := Tryz.func145.trans (congrArg some (by kernel_rfl))
  f36 := Tryz.func146.trans (congrArg some (by kernel_rfl))
  f37 := Tryz.func147.trans (congrArg some (by kernel_rfl))
  f38 := Tryz.func148.trans (congrArg some (by kernel_rfl))
  f39 := Tryz.func156.trans (congrArg some (by kernel_rfl))
  t0 := Tryz.underlying0
  a0 := Tryz.isAgg0
  z0 := Tryz.sizeOf0
  v0 := Tryz.zeroValue0
  i0 := by kernel_rfl
  t3 := Tryz.underlying3
  a3 := Tryz.isAgg3
  z3 := Tryz.sizeOf3
  v3 := Tryz.zeroValue3
  i3 := by kernel_rfl
  t4 := Tryz.underlying4
  a4 := Tryz.isAgg4
  z4 := Tryz.sizeOf4
  v4 := Tryz.zeroValue4
  i4 := by kernel_rfl
  t5 := Tryz.underlying5
  a5 := Tryz.isAgg5
  z5 := Tryz.sizeOf5
  v5 := Tryz.zeroValue5
  i5 := by kernel_rfl
  t9 := Tryz.underlying9
  a9 := Tryz.isAgg9
  z9 := Tryz.sizeOf9
  v9 := Tryz.zeroValue9
  i9 := by kernel_rfl
  t12 := Tryz.underlying12
  a12 := Tryz.isAgg12
  z12 := Tryz.sizeOf12
  v12 := Tryz.zeroValue12
  i12 := by kernel_rfl
  t17 := Tryz.underlying17
  a17 := Tryz.isAgg17
  z17 := Tryz.sizeOf17
  v17 := Tryz.zeroValue17
  i17 := by kernel_rfl
  t20 := Tryz.underlying20
  a20 := Tryz.isAgg20
  z20 := Tryz.sizeOf20
  v20 := Tryz.zeroValue20
  i20 := by kernel_rfl
  t26 := Tryz.underlying100
  a26 := Tryz.isAgg100
  z26 := Tryz.sizeOf100
  v26 := Tryz.zeroValue100
  i26 := by kernel_rfl
  t32 := Tryz.underlying123
  a32 := Tryz.isAgg123
  z32 := Tryz.sizeOf123
  v32 := Tryz.zeroValue123
  i32 := by kernel_rfl
  t33 := Tryz.underlying124
  a33 := Tryz.isAgg124
  z33 := Tryz.sizeOf124
  v33 := Tryz.zeroValue124
  i33 := by kernel_rfl
  t35 := Tryz.underlying126
  a35 := Tryz.isAgg126
  z35 := Tryz.sizeOf126
  v35 := Tryz.zeroValue126
  i35 := by kernel_rfl
  t37 := Tryz.underlying128
  a37 := Tryz.isAgg128
  z37 := Tryz.sizeOf128
  v37 := Tryz.zeroValue128
  i37 := by kernel_rfl
  t41 := Tryz.underlying132
  a41 := Tryz.isAgg132
  z41 := Tryz.sizeOf132
  v41 := Tryz.zeroValue132
  i41 := by kernel_rfl
  t44 := Tryz.underlying135
  a44 := Tryz.isAgg135
  z44 := Tryz.sizeOf135
  v44 := Tryz.zeroValue135
  i44 := by kernel_rfl
  t49 := Tryz.underlying160
  a49 := Tryz.isAgg160
  z49 := Tryz.sizeOf160
  v49 := Tryz.zeroValue160
  i49 := by kernel_rfl
  t51 := Tryz.underlying162
  a51 := Tryz.isAgg162
  z51 := Tryz.sizeOf162
  v51 := Tryz.zeroValue162
  i51 := by kernel_rfl
  t53 := Tryz.underlying164
  a53 := Tryz.isAgg164
  z53 := Tryz.sizeOf164
  v53 := Tryz.zeroValue164
  i53 := by kernel_rfl
  t54 := Tryz.underlying165
  a54 := Tryz.isAgg165
  z54 := Tryz.sizeOf165
  v54 := Tryz.zeroValue165
  i54 := by kernel_rfl
  t58 := Tryz.underlying153
  a58 := Tryz.isAgg153
  z58 := Tryz.sizeOf153
  v58 := Tryz.zeroValue153
  i58 := by kernel_rfl
  t60 := Tryz.underlying178
  a60 := Tryz.isAgg178
  z60 := Tryz.sizeOf178
  v60 := Tryz.zeroValue178
  i60 := by kernel_rfl
  t64 := Tryz.underlying182
  a64 := Tryz.isAgg182
  z64 := Tryz.sizeOf182
  v64 := Tryz.zeroValue182
  i64 := by kernel_rfl
  t66 := Tryz.underlying188
  a66 := Tryz.isAgg188
  z66 := Tryz.sizeOf188
  v66 := Tryz.zeroValue188
  i66 := by kernel_rfl
  t67 := Tryz.underlying189
  a67 := Tryz.isAgg189
  z67 := Tryz.sizeOf189
  v67 := Tryz.zeroValue189
  i67 := by kernel_rfl
  t75 := Tryz.underlying212
  a75 := Tryz.isAgg212
  z75 := Tryz.sizeOf212
  v75 := Tryz.zeroValue212
  i75 := by kernel_rfl
  t76 := Tryz.underlying213
  a76 := Tryz.isAgg213
  z76 := Tryz.sizeOf213
  v76 := Tryz.zeroValue213
  i76 := by kernel_rfl
  t77 := Tryz.underlying214
  a77 := Tryz.isAgg214
  z77 := Tryz.sizeOf214
  v77 := Tryz.zeroValue214
  i77 := by kernel_rfl
  t78 := Tryz.underlying155
  a78 := Tryz.isAgg155
  z78 := Tryz.sizeOf155
  v78 := Tryz.zeroValue155
  i78 := by kernel_rfl
  t79 := Tryz.underlying215
  a79 := Tryz.isAgg215
  z79 := Tryz.sizeOf215
  v79 := Tryz.zeroValue215
  i79 := by kernel_rfl
  t80 := Tryz.underlying216
  a80 := Tryz.isAgg216
  z80 := Tryz.sizeOf216
  v80 := Tryz.zeroValue216
  i80 := by kernel_rfl
  t82 := Tryz.underlying218
  a82 := Tryz.isAgg218
  z82 := Tryz.sizeOf218
  v82 := Tryz.zeroValue218
  i82 := by kernel_rfl }
end Go.Proofs
