/-
  The texts RefVol7, ShelfS, BagSort, one behind the other; each says below what it holds and on what conditions.
-/
import Derived.Test.YtakbmbiebkgkiaaGreatDoorJB33
import Derived.Test.YtakbmbiebkgkiaaGreatDoorJB21
import Derived.Test.YtakbmbiebkgkiaaGreatDoorJB34
import Derived.Ground.GgsProg
import Derived.Shelf.GgSortFunc.Tiny
import Derived.Shelf.SlSortFuncK.WholeK
import Derived.Test.YtakbmbiebkgkiaaGreatDoorProg
import Derived.Test.YtakbmbiebkgkiaaGreatDoorJB16
import Derived.Deep.QuietTactic
import Derived.BigQuiet

/-
  What the reference's Trim returns. Conditions: a state of right sizes with a right bag; the place is there.
-/
namespace Go.Proofs.YtakbmbiebkgkiaaGreatDoor
open Go.RowKit
open Go.Proofs
open WoolBag
open WoolVol

theorem rel_one (l : List Itm) (i : Idn) : rel FP l [i] = if i.1 then (WoolBag.drop FP l i).1 else l := rfl

set_option maxRecDepth 100000 in
set_option maxHeartbeats 4000000 in
theorem refTrim_any (v : Value) (st : Sta) (k j : Nat) (w : World) (h : Stat w v st) (hs : Small st) (hg : Bag FP st.b) (hk : k < st.v.length) (hj : j < st.v[k].bl.length) :
    Calls Tryz.prog 27 #[v, .int .i64 (k : Int), .int .i64 (j : Int)] w (RdPost w ⟨rel FP st.b [st.v[k].bl[j]], setB st.v k j noId⟩) := by
  have HSET := Lib.hid (fun W (hW : Up w W) => refSet_any v st k j noId W (h.up hW) hs hk hj)
  obtain ⟨vb, vv, rfl, hb, hv⟩ := h
  obtain ⟨oB, cB, rfl, _⟩ := hb.slice
  obtain ⟨oV, cV, rfl, hV1, hV2⟩ := hv.slice
  obtain ⟨b, off, rfl, h5⟩ := hv.at (by intro e; rw [e] at hk; simp at hk)
  obtain ⟨a1, u0, a2, hids⟩ := h5 k hk
  obtain ⟨o', c', rfl, hc1, hc2⟩ := hids.slice
  obtain ⟨b', off', rfl, h6⟩ := hids.at (by intro e; rw [e] at hj; simp at hj)
  obtain ⟨i1, i2, i3⟩ := h6 j hj
  unfold maxLen at hV2 hc2
  unfold idV noId at HSET
  simp only at HSET
  obtain ⟨S1, hS1⟩ : ∃ S1 : Sta, (⟨st.b, setB st.v k j noId⟩ : Sta) = S1 := ⟨_, rfl⟩
  have HS1 := Lib.hid hS1
  have hS1' : (⟨st.b, setB st.v k j (false, 0, 0)⟩ : Sta) = S1 := hS1
  rw [hS1'] at HSET
  have HRES : Hid ((⟨rel FP st.b [st.v[k].bl[j]], setB st.v k j noId⟩ : Sta) = ⟨if st.v[k].bl[j].1 then (WoolBag.drop FP S1.b st.v[k].bl[j]).1 else S1.b, S1.v⟩) := by show _ = _; rw [← hS1, rel_one]
  rw [HRES.out]
  have hg1 : Bag FP S1.b := by rw [← hS1]; exact hg
  have HG1 := Lib.hid hg1
  clear hg1 hS1 hS1' HRES HS1
  obtain ⟨id, hid⟩ : ∃ id, st.v[k].bl[j] = id := ⟨_, rfl⟩
  rw [hid] at i1 i2 i3 ⊢
  obtain ⟨xb, xs, xn⟩ := id
  simp only at i1 i2 i3 ⊢
  obtain ⟨RS, hRS⟩ : ∃ RS : Sta, (⟨if xb = true then (WoolBag.drop FP S1.b (xb, xs, xn)).1 else S1.b, S1.v⟩ : Sta) = RS := ⟨_, rfl⟩
  rw [hRS]
  have HRS := Lib.hid hRS
  clear hRS
  have HW0 : Hid (Up w ((w.alloc (.cells #[.slice oB st.b.length cB, .slice (some ⟨b, off, none⟩) st.v.length cV] 25)).alloc (.cells #[.slice none 0 0, .slice none 0 0] 25))) := (Up.alloc _ _).trans (Up.alloc _ _)
  have e2 := (HW0.out.cell (World.block_lt_of_cell? w _ a2)).trans a2
  have f1 := (HW0.out.cell (World.block_lt_of_cell? w _ i1)).trans i1
  have f2 := (HW0.out.cell (World.block_lt_of_cell? w _ i2)).trans i2
  have f3 := (HW0.out.cell (World.block_lt_of_cell? w _ i3)).trans i3
  clear h5 h6 a1 a2 hids i1 i2 i3 hid hb hv hg hs
  obtain ⟨L, hL⟩ : ∃ L, st.v[k].bl.length = L := ⟨_, rfl⟩
  rw [hL] at hj hc1 e2
  clear hL
  generalize st.v.length = N at *
  generalize st.b.length = M at *
  go_enter Tryz.func27, Tryz.ntmps27
  go_upto_region 2 with (fail)
  have HRI : Hid (RowC (((w.alloc (.cells #[.slice oB M cB, .slice (some ⟨b, off, none⟩) N cV] 25)).alloc (.cells #[.slice none 0 0, .slice none 0 0] 25)).alloc (.cells #[.bool xb, .int .i64 xs, .int .i64 xn] 63)) (w.heap.size + 1 + 1) 63 [.bool xb, .int .i64 xs, .int .i64 xn]) := row_at (by simp) [.bool xb, .int .i64 xs, .int .i64 xn] 63
  have HRR : Hid (RowC (((w.alloc (.cells #[.slice oB M cB, .slice (some ⟨b, off, none⟩) N cV] 25)).alloc (.cells #[.slice none 0 0, .slice none 0 0] 25)).alloc (.cells #[.bool xb, .int .i64 xs, .int .i64 xn] 63)) (w.heap.size + 1) 25 [.slice none 0 0, .slice none 0 0]) := (row_at (by simp) [.slice none 0 0, .slice none 0 0] 25).up (Up.alloc _ _)
  have HRA : Hid (RowC (((w.alloc (.cells #[.slice oB M cB, .slice (some ⟨b, off, none⟩) N cV] 25)).alloc (.cells #[.slice none 0 0, .slice none 0 0] 25)).alloc (.cells #[.bool xb, .int .i64 xs, .int .i64 xn] 63)) w.heap.size 25 [.slice oB M cB, .slice (some ⟨b, off, none⟩) N cV]) := ((row_at rfl [.slice oB M cB, .slice (some ⟨b, off, none⟩) N cV] 25).up (Up.alloc _ _)).up (Up.alloc _ _)
  have HW1 : Hid (Up w (((w.alloc (.cells #[.slice oB M cB, .slice (some ⟨b, off, none⟩) N cV] 25)).alloc (.cells #[.slice none 0 0, .slice none 0 0] 25)).alloc (.cells #[.bool xb, .int .i64 xs, .int .i64 xn] 63))) := HW0.out.trans (Up.alloc _ _)
  clear HW0 e2 f1 f2 f3
  generalize (((w.alloc (.cells #[.slice oB M cB, .slice (some ⟨b, off, none⟩) N cV] 25)).alloc (.cells #[.slice none 0 0, .slice none 0 0] 25)).alloc (.cells #[.bool xb, .int .i64 xs, .int .i64 xn] 63)) = W1 at HRI HRR HRA HW1 ⊢
  have q0 := HRA.out.cell (j := 0) rfl
  have q1 := HRA.out.cell (j := 1) rfl
  go_wp2_with fail
  refine (HSET.out _ HW1.out).mono ?_
  rintro e w1 ⟨v1, rfl, hst1, u1⟩
  obtain ⟨vb1, vv1, rfl, hb1, hv1⟩ := hst1
  obtain ⟨o1, c1, rfl, hm1⟩ := hb1.slice
  obtain ⟨o2, c2, rfl, hm2, hm3⟩ := hv1.slice
  clear q0 q1
  go_upto_region 3 with (fail)
  have hal := Up.alloc w1 (.cells #[.slice o1 S1.b.length c1, .slice o2 S1.v.length c2] 25)
  have HX : Hid (RowC (w1.alloc (.cells #[.slice o1 S1.b.length c1, .slice o2 S1.v.length c2] 25)) w1.heap.size 25 [.slice o1 S1.b.length c1, .slice o2 S1.v.length c2]) := heap_alloc_new w1 _
  have HI2 := Lib.hid ((HRI.out.up u1).up hal)
  have HR2 := Lib.hid ((HRR.out.up u1).up hal)
  have HB2 := Lib.hid (hb1.up hal)
  have HV2 := Lib.hid (hv1.up hal)
  have HU2 := Lib.hid ((HW1.out.trans u1).trans hal)
  have hRX : w.heap.size + 1 ≠ w1.heap.size := by have := (HRR.out.up u1).lt; omega
  have hwX : w.heap.size ≤ w1.heap.size := (HW1.out.trans u1).size
  clear hal hb1 hv1 u1
  generalize (w1.alloc (.cells #[.slice o1 S1.b.length c1, .slice o2 S1.v.length c2] 25)) = W2 at HX HI2 HR2 HB2 HV2 HU2 ⊢
  obtain ⟨X, hX⟩ : ∃ X, w1.heap.size = X := ⟨_, rfl⟩
  rw [hX] at HX hRX hwX ⊢
  clear hX
  have x0 := HX.out.cell (j := 0) rfl
  have x1 := HX.out.cell (j := 1) rfl
  have y0 := HI2.out.cell (j := 0) rfl
  have y1 := HI2.out.cell (j := 1) rfl
  have y2 := HI2.out.cell (j := 2) rfl
  have r0 := HR2.out.frozen 0
  have r1 := HR2.out.frozen 1
  have r2 := HR2.out.cell (j := 0) rfl
  have r3 := HR2.out.cell (j := 1) rfl
  cases xb with
  | false =>
    have HRS2 : Hid (RS = S1) := by show _ = _; rw [← HRS.out]; rfl
    go_wp2_with fail
    have hz := (HR2.out.set 0 (.slice o1 S1.b.length c1)).set 1 (.slice o2 S1.v.length c2)
    have z0 := hz.cell (j := 0) rfl
    have z1 := hz.cell (j := 1) rfl
    have HST := Lib.hid (Stat.boxed (v := .agg #[.slice o1 S1.b.length c1, .slice o2 S1.v.length c2]) (x := .slice o1 S1.b.length c1) (y := .slice o2 S1.v.length c2) (st := S1) ⟨_, _, rfl, HB2.out, HV2.out⟩ HR2.out rfl rfl rfl)
    have HUZ : Hid (Up w ((W2.setCell ⟨w.heap.size + 1, 0, none⟩ (.slice o1 S1.b.length c1)).setCell ⟨w.heap.size + 1, 1, none⟩ (.slice o2 S1.v.length c2))) := up2 HU2.out (Nat.le_succ _)
    generalize (W2.setCell ⟨w.heap.size + 1, 0, none⟩ (.slice o1 S1.b.length c1)).setCell ⟨w.heap.size + 1, 1, none⟩ (.slice o2 S1.v.length c2) = WZ at z0 z1 HST HUZ ⊢
    exact bodyPost_ret (v := .agg #[.slice o1 S1.b.length c1, .slice o2 S1.v.length c2]) (by simp [results, Tryz.results27, go_sem, z0, z1]) rfl ⟨_, rfl, by rw [HRS2.out]; exact HST.out, HUZ.out⟩
  | true =>
    have HLE := Lib.hid (fun W (hW : Up W2 W) => refLess_any _ S1.b true xs xn W (HB2.out.up hW) HG1.out)
    unfold LessPost at HLE
    obtain ⟨l', hl'⟩ : ∃ l', (WoolBag.drop FP S1.b (true, xs, xn)).1 = l' := ⟨_, rfl⟩
    rw [hl'] at HLE
    have HRS2 : Hid (RS = ⟨l', S1.v⟩) := by show _ = _; rw [← HRS.out, ← hl']; rfl
    clear hl'
    go_wp2_with fail
    refine (HLE.out _ (Up.refl _)).mono ?_
    rintro e w3 ⟨o3, c3, rfl, hit3, u3⟩
    have hX3 := HX.out.up u3
    have hR3 := HR2.out.up u3
    have s0 := hX3.cell (j := 0) rfl
    have s1 := hX3.cell (j := 1) rfl
    have s2 := hX3.frozen 0
    have HX4 : Hid (RowC (w3.setCell ⟨X, 0, none⟩ (.slice o3 l'.length c3)) X 25 [.slice o3 l'.length c3, .slice o2 S1.v.length c2]) := hX3.set 0 _
    have HR4 := Lib.hid (hR3.other hRX 0 (.slice o3 l'.length c3))
    have HS4 : Hid (Stat (w3.setCell ⟨X, 0, none⟩ (.slice o3 l'.length c3)) (.agg #[.slice o3 l'.length c3, .slice o2 S1.v.length c2]) ⟨l', S1.v⟩) := ⟨_, _, rfl, hit3.setS hX3 rfl rfl, (HV2.out.up u3).setS hX3 rfl rfl⟩
    have HU4 : Hid (Up w (w3.setCell ⟨X, 0, none⟩ (.slice o3 l'.length c3))) := Below.setCell (show Below w.heap.size w w3 from HU2.out.trans u3) (p := ⟨X, 0, none⟩) hwX _
    clear hX3 hR3 hit3 u3 x0 x1 y0 y1 y2 r0 r1 r2 r3
    go_upto_region 5 with (fail)
    generalize (w3.setCell ⟨X, 0, none⟩ (.slice o3 l'.length c3)) = W4 at HX4 HR4 HS4 HU4 ⊢
    clear s0 s1 s2
    have s0 := HX4.out.cell (j := 0) rfl
    have s1 := HX4.out.cell (j := 1) rfl
    have r0 := HR4.out.frozen 0
    have r1 := HR4.out.frozen 1
    have r2 := HR4.out.cell (j := 0) rfl
    have r3 := HR4.out.cell (j := 1) rfl
    go_wp2_with fail
    have hz := (HR4.out.set 0 (.slice o3 l'.length c3)).set 1 (.slice o2 S1.v.length c2)
    have z0 := hz.cell (j := 0) rfl
    have z1 := hz.cell (j := 1) rfl
    have HST := Lib.hid (Stat.boxed (x := .slice o3 l'.length c3) (y := .slice o2 S1.v.length c2) HS4.out HR4.out rfl rfl rfl)
    have HUZ : Hid (Up w ((W4.setCell ⟨w.heap.size + 1, 0, none⟩ (.slice o3 l'.length c3)).setCell ⟨w.heap.size + 1, 1, none⟩ (.slice o2 S1.v.length c2))) := up2 HU4.out (Nat.le_succ _)
    generalize (W4.setCell ⟨w.heap.size + 1, 0, none⟩ (.slice o3 l'.length c3)).setCell ⟨w.heap.size + 1, 1, none⟩ (.slice o2 S1.v.length c2) = WZ at z0 z1 HST HUZ ⊢
    exact bodyPost_ret (v := .agg #[.slice o3 l'.length c3, .slice o2 S1.v.length c2]) (by simp [results, Tryz.results27, go_sem, z0, z1]) rfl ⟨_, rfl, by rw [HRS2.out]; exact HST.out, HUZ.out⟩

end Go.Proofs.YtakbmbiebkgkiaaGreatDoor

/-
  Contracts of library functions at this program, each one application of a theorem of the library: what is proved is what each says. Conditions: as each says.
-/
namespace Go.Proofs
open Go.Shelf
def Tryz.laysGg6_ren : Go.Shelf.Ren := ⟨fun | 6 => 65 | 10 => 104 | 11 => 105 | 12 => 106 | 13 => 107 | 14 => 108 | 24 => 144 | 25 => 145 | 26 => 146 | 27 => 147 | 28 => 148 | 29 => 149 | 30 => 150 | 31 => 151 | 32 => 152 | 33 => 153 | 34 => 168 | 35 => 169 | 36 => 170 | 37 => 171 | 38 => 172 | 39 => 184 | n => n, fun | 20 => 20 | 26 => 110 | 35 => 147 | 0 => 0 | 37 => 149 | 3 => 3 | 41 => 153 | 44 => 156 | 49 => 183 | 51 => 185 | 4 => 4 | 54 => 188 | 53 => 187 | 58 => 192 | 5 => 5 | 9 => 9 | 60 => 200 | 64 => 204 | 66 => 218 | 67 => 219 | 17 => 17 | 32 => 144 | 33 => 145 | 82 => 238 | 12 => 12 | 75 => 232 | 76 => 233 | 77 => 234 | 78 => 119 | 79 => 235 | 80 => 236 | n => n, fun | n => n⟩
theorem Tryz.laysGg6 : Go.Proofs.LaysGg.n6 Tryz.prog Tryz.laysGg6_ren := {
  mixed := by kernel_rfl
  f6 := Tryz.func65.trans (congrArg some (by kernel_rfl))
  f10 := Tryz.func104.trans (congrArg some (by kernel_rfl))
  f11 := Tryz.func105.trans (congrArg some (by kernel_rfl))
  f12 := Tryz.func106.trans (congrArg some (by kernel_rfl))
  f13 := Tryz.func107.trans (congrArg some (by kernel_rfl))
  f14 := Tryz.func108.trans (congrArg some (by kernel_rfl))
  f24 := Tryz.func144.trans (congrArg some (by kernel_rfl))
  f25 := Tryz.func145.trans (congrArg some (by kernel_rfl))
  f26 := Tryz.func146.trans (congrArg some (by kernel_rfl))
  f27 := Tryz.func147.trans (congrArg some (by kernel_rfl))
  f28 := Tryz.func148.trans (congrArg some (by kernel_rfl))
  f29 := Tryz.func149.trans (congrArg some (by kernel_rfl))
  f30 := Tryz.func150.trans (congrArg some (by kernel_rfl))
  f31 := Tryz.func151.trans (congrArg some (by kernel_rfl))
  f32 := Tryz.func152.trans (congrArg some (by kernel_rfl))
  f33 := Tryz.func153.trans (congrArg some (by kernel_rfl))
  f34 := Tryz.func168.trans (congrArg some (by kernel_rfl))
  f35 := Tryz.func169.trans (congrArg some (by kernel_rfl))
  f36 := Tryz.func170.trans (congrArg some (by kernel_rfl))
  f37 := Tryz.func171.trans (congrArg some (by kernel_rfl))
  f38 := Tryz.func172.trans (congrArg some (by kernel_rfl))
  f39 := Tryz.func184.trans (congrArg some (by kernel_rfl))
  t0 := Tryz.underlying0
  a0 := Tryz.isAgg0
  z0 := Tryz.sizeOf0
  v0 := Tryz.zeroValue0
  i0 := by kernel_rfl
  t3 := Tryz.underlying3
  a3 := Tryz.isAgg3
  z3 := Tryz.sizeOf3
  v3 := Tryz.zeroValue3
  i3 := by kernel_rfl
  t4 := Tryz.underlying4
  a4 := Tryz.isAgg4
  z4 := Tryz.sizeOf4
  v4 := Tryz.zeroValue4
  i4 := by kernel_rfl
  t5 := Tryz.underlying5
  a5 := Tryz.isAgg5
  z5 := Tryz.sizeOf5
  v5 := Tryz.zeroValue5
  i5 := by kernel_rfl
  t9 := Tryz.underlying9
  a9 := Tryz.isAgg9
  z9 := Tryz.sizeOf9
  v9 := Tryz.zeroValue9
  i9 := by kernel_rfl
  t12 := Tryz.underlying12
  a12 := Tryz.isAgg12
  z12 := Tryz.sizeOf12
  v12 := Tryz.zeroValue12
  i12 := by kernel_rfl
  t17 := Tryz.underlying17
  a17 := Tryz.isAgg17
  z17 := Tryz.sizeOf17
  v17 := Tryz.zeroValue17
  i17 := by kernel_rfl
  t20 := Tryz.underlying20
  a20 := Tryz.isAgg20
  z20 := Tryz.sizeOf20
  v20 := Tryz.zeroValue20
  i20 := by kernel_rfl
  t26 := Tryz.underlying110
  a26 := Tryz.isAgg110
  z26 := Tryz.sizeOf110
  v26 := Tryz.zeroValue110
  i26 := by kernel_rfl
  t32 := Tryz.underlying144
  a32 := Tryz.isAgg144
  z32 := Tryz.sizeOf144
  v32 := Tryz.zeroValue144
  i32 := by kernel_rfl
  t33 := Tryz.underlying145
  a33 := Tryz.isAgg145
  z33 := Tryz.sizeOf145
  v33 := Tryz.zeroValue145
  i33 := by kernel_rfl
  t35 := Tryz.underlying147
  a35 := Tryz.isAgg147
  z35 := Tryz.sizeOf147
  v35 := Tryz.zeroValue147
  i35 := by kernel_rfl
  t37 := Tryz.underlying149
  a37 := Tryz.isAgg149
  z37 := Tryz.sizeOf149
  v37 := Tryz.zeroValue149
  i37 := by kernel_rfl
  t41 := Tryz.underlying153
  a41 := Tryz.isAgg153
  z41 := Tryz.sizeOf153
  v41 := Tryz.zeroValue153
  i41 := by kernel_rfl
  t44 := Tryz.underlying156
  a44 := Tryz.isAgg156
  z44 := Tryz.sizeOf156
  v44 := Tryz.zeroValue156
  i44 := by kernel_rfl
  t49 := Tryz.underlying183
  a49 := Tryz.isAgg183
  z49 := Tryz.sizeOf183
  v49 := Tryz.zeroValue183
  i49 := by kernel_rfl
  t51 := Tryz.underlying185
  a51 := Tryz.isAgg185
  z51 := Tryz.sizeOf185
  v51 := Tryz.zeroValue185
  i51 := by kernel_rfl
  t53 := Tryz.underlying187
  a53 := Tryz.isAgg187
  z53 := Tryz.sizeOf187
  v53 := Tryz.zeroValue187
  i53 := by kernel_rfl
  t54 := Tryz.underlying188
  a54 := Tryz.isAgg188
  z54 := Tryz.sizeOf188
  v54 := Tryz.zeroValue188
  i54 := by kernel_rfl
  t58 := Tryz.underlying192
  a58 := Tryz.isAgg192
  z58 := Tryz.sizeOf192
  v58 := Tryz.zeroValue192
  i58 := by kernel_rfl
  t60 := Tryz.underlying200
  a60 := Tryz.isAgg200
  z60 := Tryz.sizeOf200
  v60 := Tryz.zeroValue200
  i60 := by kernel_rfl
  t64 := Tryz.underlying204
  a64 := Tryz.isAgg204
  z64 := Tryz.sizeOf204
  v64 := Tryz.zeroValue204
  i64 := by kernel_rfl
  t66 := Tryz.underlying218
  a66 := Tryz.isAgg218
  z66 := Tryz.sizeOf218
  v66 := Tryz.zeroValue218
  i66 := by kernel_rfl
  t67 := Tryz.underlying219
  a67 := Tryz.isAgg219
  z67 := Tryz.sizeOf219
  v67 := Tryz.zeroValue219
  i67 := by kernel_rfl
  t75 := Tryz.underlying232
  a75 := Tryz.isAgg232
  z75 := Tryz.sizeOf232
  v75 := Tryz.zeroValue232
  i75 := by kernel_rfl
  t76 := Tryz.underlying233
  a76 := Tryz.isAgg233
  z76 := Tryz.sizeOf233
  v76 := Tryz.zeroValue233
  i76 := by kernel_rfl
  t77 := Tryz.underlying234
  a77 := Tryz.isAgg234
  z77 := Tryz.sizeOf234
  v77 := Tryz.zeroValue234
  i77 := by kernel_rfl
  t78 := Tryz.underlying119
  a78 := Tryz.isAgg119
  z78 := Tryz.sizeOf119
  v78 := Tryz.zeroValue119
  i78 := by kernel_rfl
  t79 := Tryz.underlying235
  a79 := Tryz.isAgg235
  z79 := Tryz.sizeOf235
  v79 := Tryz.zeroValue235
  i79 := by kernel_rfl
  t80 := Tryz.underlying236
  a80 := Tryz.isAgg236
  z80 := Tryz.sizeOf236
  v80 := Tryz.zeroValue236
  i80 := by kernel_rfl
  t82 := Tryz.underlying238
  a82 := Tryz.isAgg238
  z82 := Tryz.sizeOf238
  v82 := Tryz.zeroValue238
  i82 := by kernel_rfl }
end Go.Proofs

/-
  sort.Slice of a row of items by the reference's own closure: a permutation, each item behind the one before or alike. Conditions: the row is known whole; the closure's variable holds the slice.
-/
namespace Go.Proofs.YtakbmbiebkgkiaaGreatDoor
open Go.RowKit
open Go.Proofs
open WoolBag
open Go.Shelf Go.Lib Go.Sort

noncomputable def siT : TypeInfo := (Tryz.prog.info? 22).get (by kernel_rfl)
noncomputable def siE : TypeInfo := (Tryz.prog.info? 66).get (by kernel_rfl)

theorem siK (n : Nat) (h2 : 2 ≤ n) : Lib.swapperK n siE 25 = 9 := by
  have a : siE.hasPointers = true := by kernel_rfl
  have b : siE.bytes = 40 := by kernel_rfl
  have c : (n == 0) = false := by simp; omega
  have d : (n == 1) = false := by simp; omega
  simp [Lib.swapperK, a, b, c, d]

theorem swo_beh : SWO behB where
  irrefl := fun x => by unfold behB; simp
  trans := fun x y z h1 h2 => by rw [beh_iff] at *; exact h1.trans h2
  ntrans := fun x y z h1 h2 => by
    rw [Bool.eq_false_iff, Ne, beh_iff] at *
    unfold Beh at *
    omega

set_option maxRecDepth 100000 in
set_option maxHeartbeats 2000000 in
theorem lessI (blk c Bs size : Nat) (W : World) (dk : Nat → Itm) (hs : W.cell? ⟨Bs, 0, none⟩ = some (.slice (some ⟨blk, 0, none⟩) size c))
    (hc0 : ∀ t, t < size → W.cell? ⟨blk, t * 4, none⟩ = some (.int .i64 (dk t).s)) (hc1 : ∀ t, t < size → W.cell? ⟨blk, t * 4 + 1, none⟩ = some (.int .i64 (dk t).n)) (i j : Nat) (hi : i < size) (hj : j < size) (_hsz : size < 4611686018427387904) :
    Calls Tryz.prog 112 #[.int .i64 i, .int .i64 j, .pointer (some ⟨Bs, 0, none⟩)] W fun e w' => e = .returned (.bool (behB (dk i) (dk j))) ∧ ∃ q, w' = W.drewN q := by
  have ci := hc0 i hi
  have cj := hc0 j hj
  have di := hc1 i hi
  have dj := hc1 j hj
  have hb : behB (dk i) (dk j) = (decide ((dk i).s < (dk j).s) || ((dk j).s == (dk i).s && decide ((dk i).n < (dk j).n))) := rfl
  obtain ⟨R, hR⟩ : ∃ R, behB (dk i) (dk j) = R := ⟨_, rfl⟩
  rw [hR]
  rw [hb] at hR
  generalize (dk i).s = a at *
  generalize (dk j).s = b at *
  generalize (dk i).n = p at *
  generalize (dk j).n = q at *
  clear hc0 hc1 hb
  by_cases r1 : a < b
  · have t1 : decide (a < b) = true := decide_eq_true r1
    have HV : Hid (R = true) := by show _ = _; rw [← hR, t1]; rfl
    clear hR
    go_enter Tryz.func112, Tryz.ntmps112
    go_wp2_with fail
    go_quiet (fail)
    go_wp2_with fail
    go_ret
    exact ⟨by rw [HV.out]; rfl, nq, rfl⟩
  have t1 : decide (a < b) = false := decide_eq_false r1
  by_cases r2 : a = b
  · have t2 : (a == b) = true := by simpa using r2
    by_cases r3 : p < q
    · have t3 : decide (p < q) = true := decide_eq_true r3
      have HV : Hid (R = true) := by show _ = _; rw [← hR, r2, t3]; simp
      clear hR r2
      go_enter Tryz.func112, Tryz.ntmps112
      go_wp2_with fail
      go_quiet (fail)
      go_wp2_with fail
      go_ret
      exact ⟨by rw [HV.out]; rfl, nq, rfl⟩
    · have t3 : decide (p < q) = false := decide_eq_false r3
      have HV : Hid (R = false) := by show _ = _; rw [← hR, r2, t3]; simp
      clear hR r2
      go_enter Tryz.func112, Tryz.ntmps112
      go_wp2_with fail
      go_quiet (fail)
      go_wp2_with fail
      go_ret
      exact ⟨by rw [HV.out]; rfl, nq, rfl⟩
  · have t2 : (a == b) = false := by simpa using r2
    have t2' : (b == a) = false := by simpa using fun h => r2 h.symm
    have HV : Hid (R = false) := by show _ = _; rw [← hR, t1, t2']; rfl
    clear hR r2 t2'
    go_enter Tryz.func112, Tryz.ntmps112
    go_wp2_with fail
    go_quiet (fail)
    go_wp2_with fail
    go_ret
    exact ⟨by rw [HV.out]; rfl, nq, rfl⟩

theorem flat_itL (d : List Itm) : (flatK itC 4 d.toArray).toList = itL d := by
  apply List.ext_getElem
  · rw [Array.length_toList, size_flatK, itL_length]; simp
  · intro t h1 h2
    rw [itL_length] at h2
    have ht : t < d.toArray.size * 4 := by simpa using h2
    have e := get_flatK itC 4 d.toArray t ht
    have e1 : (flatK itC 4 d.toArray).toList[t] = (flatK itC 4 d.toArray)[t]! := by
      rw [Array.length_toList] at h1
      rw [getElem!_pos _ t h1]; rfl
    rw [e1, e]
    have hd : t / 4 < d.length := by omega
    have e2 : d.toArray[t / 4]! = d[t / 4] := by rw [getElem!_pos d.toArray (t / 4) (by simpa using hd)]; simp
    rw [e2]
    obtain ⟨b1, b2, b3, b4⟩ := itL_get d (t / 4) hd
    have hm : t % 4 < 4 := Nat.mod_lt _ (by omega)
    have hg : (itL d)[t]? = some ((itC d[t / 4])[t % 4]!) := by
      rcases Nat.lt_or_ge (t % 4) 1 with m0 | m0
      · rw [show t % 4 = 0 by omega]; rw [show t / 4 * 4 = t by omega] at b1; exact b1
      rcases Nat.lt_or_ge (t % 4) 2 with m1 | m1
      · rw [show t % 4 = 1 by omega]; rw [show t / 4 * 4 + 1 = t by omega] at b2; exact b2
      rcases Nat.lt_or_ge (t % 4) 3 with m2 | m2
      · rw [show t % 4 = 2 by omega]; rw [show t / 4 * 4 + 2 = t by omega] at b3; exact b3
      · rw [show t % 4 = 3 by omega]; rw [show t / 4 * 4 + 3 = t by omega] at b4; exact b4
    rw [List.getElem?_eq_getElem (by rw [itL_length]; exact h2)] at hg
    exact (Option.some.inj hg).symm

theorem holds_row {w : World} {blk : Nat} {d : List Itm} {sp : List Value} (h : RowI w blk (itL d ++ sp)) : HoldsK itC 4 w blk 0 d.toArray := by
  intro t ht
  rw [size_flatK] at ht
  have ht' : t < d.length * 4 := by simpa using ht
  rw [Nat.zero_add]
  refine ⟨h.cell ?_, h.frozen t⟩
  have e : (flatK itC 4 d.toArray)[t]! = (itL d)[t]'(by rw [itL_length]; exact ht') := by
    have h1 : (flatK itC 4 d.toArray).toList[t]'(by rw [flat_itL, itL_length]; exact ht') = (itL d)[t]'(by rw [itL_length]; exact ht') := by simp only [flat_itL]
    rw [← h1, getElem!_pos _ t (by rw [size_flatK]; exact ht)]; rfl
  rw [List.getElem?_append_left (by rw [itL_length]; exact ht'), e]
  exact List.getElem?_eq_getElem _

/-- what sort.Slice leaves -/
def SortPost (blk c : Nat) (d : List Itm) (w : World) (e : Ending) (w' : World) : Prop :=
  e = .returned (.tuple #[]) ∧ ∃ d' : List Itm, d'.Perm d ∧ d'.Pairwise (fun a b => behB b a = false) ∧ Items w' (.slice (some ⟨blk, 0, none⟩) d.length c) d' ∧ w.grownBy w' (some blk)

theorem grown_grow (w : World) (os : Array Obj) (row : Option Nat) : w.grownBy (Go.Sort.grow w os) row :=
  ⟨rfl, rfl, rfl, by rw [size_grow]; omega, fun k hk _ => heap_grow_old w os hk⟩

theorem grown_put (w : World) (n blk off : Nat) (d : Array Itm) : w.grownBy (putRowK itC 4 (Sort.ahead w n) blk off d) (some blk) := by
  refine ⟨rfl, rfl, rfl, by unfold putRowK; rw [size_putRow]; exact Nat.le_refl _, fun k hk hne => ?_⟩
  have hkb : blk ≠ k := fun e => hne (by rw [e])
  unfold putRowK putRow mapBlock
  simp [Array.getElem?_modify, hkb, Sort.ahead]

set_option maxHeartbeats 4000000 in
theorem sortI (blk c Bs : Nat) (d : List Itm) (sp : List Value) (w : World) (hrow : RowI w blk (itL d ++ sp)) (hs : w.cell? ⟨Bs, 0, none⟩ = some (.slice (some ⟨blk, 0, none⟩) d.length c)) (hne : Bs ≠ blk) (hd : d.length ≤ 100) (h1 : 1 ≤ d.length) (hc : d.length ≤ c) (hcm : c ≤ maxLen) :
    Calls Tryz.prog 65 #[.iface 22 (.slice (some ⟨blk, 0, none⟩) d.length c), .func (.func 112) #[] #[.pointer (some ⟨Bs, 0, none⟩)]] w (SortPost blk c d w) := by
  have hBs : Bs < w.heap.size := World.block_lt_of_cell? w _ hs
  by_cases h2 : d.length = 1
  · have ht := Any.sort_Slice_tiny Tryz.laysGg6 22 66 siT siE (by kernel_rfl) (by kernel_rfl) (by kernel_rfl) (by kernel_rfl) 25 (fun _ => by kernel_rfl) (some ⟨blk, 0, none⟩) d.length c (by omega) 136
      (by rw [h2]; kernel_rfl) (.func 112) #[] #[.pointer (some ⟨Bs, 0, none⟩)] w
    change Calls Tryz.prog 65 _ _ _ at ht
    refine ht.mono ?_
    rintro e w' ⟨rfl, os, rfl⟩
    have hg := grown_grow w os (some blk)
    refine ⟨rfl, d, List.Perm.refl _, ?_, ?_, hg⟩
    · exact List.pairwise_iff_getElem.2 (fun i j hi hj hij => by omega)
    · refine ⟨_, c, rfl, hc, hcm, .inr ⟨blk, 0, rfl, fun k hk => ?_⟩⟩
      obtain ⟨b1, b2, b3, b4⟩ := itL_get d k hk
      have hcell : ∀ j v, (itL d)[j]? = some v → (Go.Sort.grow w os).cell? ⟨blk, 0 + j, none⟩ = some v := fun j v hv => by
        rw [Nat.zero_add, cell?_grow _ _ _ hrow.lt]
        exact hrow.cell (get_app hv)
      exact ⟨hcell _ _ b1, hcell _ _ b2, hcell _ _ b3, hcell _ _ b4⟩
  · have hH := holds_row hrow
    have hb := hrow.lt
    have hless : LessReadsK Tryz.prog 112 #[.pointer (some ⟨Bs, 0, none⟩)] itC 4 behB blk 0 d.toArray.size w := by
      intro m os dk hsz i j hi hj
      have e : sortWorldK itC 4 w blk 0 m dk os = putRowK itC 4 (Go.Sort.grow (Sort.ahead w m) os) blk 0 dk := by
        unfold sortWorldK; rw [putRowK_grow _ _ (Sort.ahead w m) _ blk 0 _ hb]
      have hHg : HoldsK itC 4 (Go.Sort.grow (Sort.ahead w m) os) blk 0 d.toArray := holdsK_grow _ _ _ _ blk 0 _ hb (holdsK_ahead _ _ _ _ _ _ _ hH)
      have hcc := holdsK_putRowK _ _ _ blk 0 d.toArray dk hHg hsz
      refine lessI blk c Bs d.toArray.size _ (fun t => dk[t]!) ?_ (fun t ht => ?_) (fun t ht => ?_) i j hi hj (by simp; omega)
      · rw [e, cell?_putRowK_other _ _ _ blk 0 dk _ hne, cell?_grow _ _ _ hBs]
        rw [List.size_toArray]
        exact hs
      · rw [e]
        have := (hcc.cell (i := t) (c := 0) (by omega) (by omega)).1
        rw [Nat.zero_add, Nat.add_zero] at this
        exact this
      · rw [e]
        have := (hcc.cell (i := t) (c := 1) (by omega) (by omega)).1
        rw [Nat.zero_add] at this
        exact this
    have hS := Any.sort_Slice_cells_sorted Tryz.laysGg6 22 66 siT siE (by kernel_rfl) (by kernel_rfl) (by kernel_rfl) (by kernel_rfl) 25 (fun _ => by kernel_rfl) itC 4 (fun _ => rfl) (by kernel_rfl) (fun _ => by kernel_rfl)
      (fun x v hv => by unfold itC at hv; simp at hv; rcases hv with rfl | rfl | rfl | rfl <;> rfl) behB swo_beh 112 #[.pointer (some ⟨Bs, 0, none⟩)]
      (enters_of Tryz.func112 (by kernel_rfl) rfl) blk 0 c d.toArray (by simp; omega) (by simp; omega) 143 (by rw [siK _ (by simp; omega)]; kernel_rfl) false
      (fun args W => run_callFunc_extern Tryz.func143 (by kernel_rfl) (by kernel_rfl) (by kernel_rfl) (e := Extern.ReflectliteSwapper.swap false) (by kernel_rfl) args W) w hless hH hb
    change Calls Tryz.prog 65 _ _ _ at hS
    rw [List.size_toArray] at hS
    refine hS.mono ?_
    rintro e w' ⟨rfl, d', n, os, hP, hSo, rfl⟩
    obtain ⟨hsz, _, hperm⟩ := hP
    have hsz' : d'.size = d.length := by simpa using hsz
    have hsl : d'.toList.length = d.length := by rw [Array.length_toList]; exact hsz'
    refine ⟨rfl, d'.toList, ?_, ?_, ?_, ?_⟩
    · have e1 : (d'.extract 0 d.length).toList = d'.toList := by rw [← hsz', Array.extract_size]
      have e2 : (d.toArray.extract 0 d.length).toList = d := by
        have : d.length = d.toArray.size := by simp
        rw [this, Array.extract_size]
      rw [e1, e2] at hperm
      exact hperm
    · rw [List.pairwise_iff_getElem]
      intro i j hi hj hij
      have := hSo i j (Nat.zero_le _) hij (by rw [← hsl]; exact hj)
      rw [getElem!_pos d' j (by rw [hsz']; rw [hsl] at hj; exact hj), getElem!_pos d' i (by rw [hsz']; rw [hsl] at hi; exact hi)] at this
      exact this
    · refine ⟨_, c, by rw [hsl], by rw [hsl]; exact hc, hcm, .inr ⟨blk, 0, rfl, fun k hk => ?_⟩⟩
      rw [hsl] at hk
      have hbp : blk < (putRowK itC 4 (Sort.ahead w n) blk 0 d').heap.size := by unfold putRowK; rw [size_putRow]; exact hb
      have hcc := holdsK_putRowK itC 4 (Sort.ahead w n) blk 0 d.toArray d' (holdsK_ahead _ _ _ _ _ _ _ hH) hsz
      have hget : d'[k]! = d'.toList[k]'(by rw [hsl]; exact hk) := by rw [getElem!_pos d' k (by rw [hsz']; exact hk)]; rfl
      have hcell : ∀ q v, q < 4 → (itC d'[k]!)[q]! = v → (Go.Sort.grow (putRowK itC 4 (Sort.ahead w n) blk 0 d') os).cell? ⟨blk, 0 + k * 4 + q, none⟩ = some v := fun q v hq hv => by
        rw [cell?_grow _ _ _ hbp, ← hv]
        exact (hcc.cell (i := k) (c := q) (by rw [hsz']; exact hk) hq).1
      rw [← hget]
      exact ⟨hcell 0 _ (by omega) rfl, hcell 1 _ (by omega) rfl, hcell 2 _ (by omega) rfl, hcell 3 _ (by omega) rfl⟩
    · have h1 := grown_put w n blk 0 d'
      have h2 := grown_grow (putRowK itC 4 (Sort.ahead w n) blk 0 d') os (some blk)
      exact ⟨h1.os, h1.tape, h1.output, Nat.le_trans h1.size h2.size, fun k hk hne => (h2.block k (Nat.lt_of_lt_of_le hk h1.size) hne).trans (h1.block k hk hne)⟩

end Go.Proofs.YtakbmbiebkgkiaaGreatDoor
