/-
  The texts LawVol5, ItemRow, one behind the other; each says below what it holds and on what conditions.
-/
import Derived.Test.YtcbppfndlagodaaGreatDoorJVolMakes43
import Derived.Test.YtcbppfndlagodaaGreatDoorJVolMakes45
import Derived.Test.YtcbppfndlagodaaGreatDoorJVolMakes46
import Derived.Test.YtcbppfndlagodaaGreatDoorJVolMakes48
import Derived.Test.YtcbppfndlagodaaGreatDoorJVolMakes02
import Derived.Deep.Slices
import Derived.Deep.Fields
import Derived.ChangeSame

/-
  The law VolMakes: whatever is handed in, Make, Drop and Clone answer what the document says. Conditions: a state that can be read.
-/
namespace Go.Proofs.YtcbppfndlagodaaGreatDoor
open Go.RowKit
open Go.Proofs
open WoolBag
open WoolVol

theorem empty_bs4 : bs [] = ⟨#[]⟩ := rfl

def ShPost (w : World) (r : Sta × Int) (e : Ending) (w' : World) : Prop := ∃ o c p d, e = .returned (.tuple #[.agg #[.slice o r.1.b.length c, .slice p r.1.v.length d], .int .i64 r.2]) ∧ Stat w' (.agg #[.slice o r.1.b.length c, .slice p r.1.v.length d]) r.1 ∧ Up w w'

theorem sh_of {w : World} {r : Sta × Int} {e : Ending} {w' : World} (h : RdEPost w r e w') : ShPost w r e w' := by
  obtain ⟨v, rfl, h1, h2⟩ := h
  obtain ⟨o, c, p, d, rfl⟩ := h1.shape
  exact ⟨o, c, p, d, rfl, h1, h2⟩

set_option maxRecDepth 100000 in
set_option maxHeartbeats 2000000 in
theorem volMakes_walk (a0 : Value) (s0 : Sta) (a1 a2 : ByteArray) (a3 : Int) (w : World) (w0 : Stat w a0 s0 ∧ WfS s0) (w1 : a1.size ≤ 140737488351232) (w2 : a2.size ≤ 140737488351232) (_w3 : (Lit.int .i64 a3).wf = true) :
    Calls Tryz.prog 3 #[a0, .string a1, .string a2, .int .i64 a3] w fun e w' => e = .returned (.bool true) ∧ Up w w' := by
  obtain ⟨hst, hwf⟩ := w0
  obtain ⟨n, rfl⟩ : ∃ n, a1 = bs n := ⟨a1.data.toList, (bs_of a1).symm⟩
  obtain ⟨t, rfl⟩ : ∃ t, a2 = bs t := ⟨a2.data.toList, (bs_of a2).symm⟩
  rw [bs_size] at w1 w2
  have HQ1 : Hid (∀ W, Up w W → Calls Tryz.prog 6 #[a0, .string (bs n), .int .i64 a3] W (ShPost W (make FP s0 n a3))) := fun W hW => (make_any a0 s0 n a3 W (hst.up hW) hwf (by omega)).mono (fun _ _ => sh_of)
  have HQ2 : Hid (∀ W, Up w W → Calls Tryz.prog 7 #[a0, .string (bs n)] W (ShPost W (vdrop FP s0 n))) := fun W hW => (vdrop_any a0 s0 n W (hst.up hW) hwf).mono (fun _ _ => sh_of)
  have HQ3 : Hid (∀ W, Up w W → Calls Tryz.prog 8 #[a0, .string (bs n), .string (bs t)] W (ShPost W (clone FP s0 n t))) := fun W hW => (vclone_any a0 s0 n t W (hst.up hW) hwf (by omega)).mono (fun _ _ => sh_of)
  have HQ4 : Hid (∀ W, Up w W → Calls Tryz.prog 9 #[a0, .agg #[.int .i64 1, .string (bs n), .string ⟨#[]⟩, .int .i64 a3, .string ⟨#[]⟩]] W (ShPost W (make FP s0 n a3))) := by
    intro W hW
    have h9 := refDo1 a0 s0 n [] [] a3 W (hst.up hW) hwf (by omega)
    unfold opV at h9
    rw [empty_bs4] at h9
    exact h9.mono (fun _ _ => sh_of)
  have HQ5 : Hid (∀ W, Up w W → Calls Tryz.prog 9 #[a0, .agg #[.int .i64 2, .string (bs n), .string ⟨#[]⟩, .int .i64 0, .string ⟨#[]⟩]] W (ShPost W (vdrop FP s0 n))) := by
    intro W hW
    have h9 := refDo2 a0 s0 n [] [] 0 W (hst.up hW) hwf
    unfold opV at h9
    rw [empty_bs4] at h9
    exact h9.mono (fun _ _ => sh_of)
  have HQ6 : Hid (∀ W, Up w W → Calls Tryz.prog 9 #[a0, .agg #[.int .i64 5, .string (bs n), .string (bs t), .int .i64 0, .string ⟨#[]⟩]] W (ShPost W (clone FP s0 n t))) := by
    intro W hW
    have h9 := refDo5 a0 s0 n t [] 0 W (hst.up hW) hwf (by omega)
    unfold opV at h9
    rw [empty_bs4] at h9
    exact h9.mono (fun _ _ => sh_of)
  obtain ⟨vb, vv, rfl, hb, hv⟩ := hst
  obtain ⟨oB, cB, rfl, _⟩ := hb.slice
  obtain ⟨oV, cV, rfl, _, _⟩ := hv.slice
  clear hb hv hwf
  obtain ⟨R1, hR1⟩ : ∃ R, make FP s0 n a3 = R := ⟨_, rfl⟩
  obtain ⟨R2, hR2⟩ : ∃ R, vdrop FP s0 n = R := ⟨_, rfl⟩
  obtain ⟨R3, hR3⟩ : ∃ R, clone FP s0 n t = R := ⟨_, rfl⟩
  rw [hR1] at HQ1 HQ4
  rw [hR2] at HQ2 HQ5
  rw [hR3] at HQ3 HQ6
  clear hR1 hR2 hR3
  unfold ShPost at HQ1 HQ2 HQ3 HQ4 HQ5 HQ6
  generalize s0.b.length = M at *
  generalize s0.v.length = N at *
  have HA0 : Hid (RowC (w.alloc (.cells #[.slice oB M cB, .slice oV N cV] 25)) w.heap.size 25 [.slice oB M cB, .slice oV N cV]) := heap_alloc_new w _
  have HU0 : Hid (Up w (w.alloc (.cells #[.slice oB M cB, .slice oV N cV] 25))) := Up.alloc _ _
  go_enter Tryz.func3, Tryz.ntmps3
  go_upto_region 1 with (fail)
  generalize (w.alloc (.cells #[.slice oB M cB, .slice oV N cV] 25)) = W0 at HA0 HU0 ⊢
  generalize w.heap.size = A at HA0 ⊢
  have q0 := HA0.out.cell (j := 0) rfl
  have q1 := HA0.out.cell (j := 1) rfl
  go_wp2_with fail
  refine (HQ1.out _ HU0.out).mono ?_
  rintro e w1 ⟨o1, c1, p1, d1, rfl, hs1, u1⟩
  clear q0 q1
  go_upto_region 2 with (fail)
  have hal := Up.alloc w1 (.cells #[.slice o1 R1.1.b.length c1, .slice p1 R1.1.v.length d1] 25)
  have HX1_1 : Hid (RowC (w1.alloc (.cells #[.slice o1 R1.1.b.length c1, .slice p1 R1.1.v.length d1] 25)) w1.heap.size 25 [.slice o1 R1.1.b.length c1, .slice p1 R1.1.v.length d1]) := heap_alloc_new w1 _
  have HS1_1 := Lib.hid (hs1.up hal)
  have HA1 := Lib.hid ((HA0.out.up u1).up hal)
  have HU1 := Lib.hid ((HU0.out.trans u1).trans hal)
  clear hal u1 hs1 HA0 HU0 
  generalize w1.alloc (.cells #[.slice o1 R1.1.b.length c1, .slice p1 R1.1.v.length d1] 25) = W1 at HX1_1 HS1_1 HA1 HU1 ⊢
  generalize w1.heap.size = X1 at HX1_1 ⊢
  have q0 := HA1.out.cell (j := 0) rfl
  have q1 := HA1.out.cell (j := 1) rfl
  go_wp2_with fail
  refine (HQ2.out _ HU1.out).mono ?_
  rintro e w2 ⟨o2, c2, p2, d2, rfl, hs2, u2⟩
  clear q0 q1
  go_upto_region 3 with (fail)
  have hal := Up.alloc w2 (.cells #[.slice o2 R2.1.b.length c2, .slice p2 R2.1.v.length d2] 25)
  have HX2_2 : Hid (RowC (w2.alloc (.cells #[.slice o2 R2.1.b.length c2, .slice p2 R2.1.v.length d2] 25)) w2.heap.size 25 [.slice o2 R2.1.b.length c2, .slice p2 R2.1.v.length d2]) := heap_alloc_new w2 _
  have HS2_2 := Lib.hid (hs2.up hal)
  have HA2 := Lib.hid ((HA1.out.up u2).up hal)
  have HU2 := Lib.hid ((HU1.out.trans u2).trans hal)
  have HX1_2 := Lib.hid (HX1_1.out.up (u2.trans hal))
  have HS1_2 := Lib.hid (HS1_1.out.up (u2.trans hal))
  clear hal u2 hs2 HA1 HU1 HX1_1 HS1_1
  generalize w2.alloc (.cells #[.slice o2 R2.1.b.length c2, .slice p2 R2.1.v.length d2] 25) = W2 at HX1_2 HS1_2 HX2_2 HS2_2 HA2 HU2 ⊢
  generalize w2.heap.size = X2 at HX2_2 ⊢
  have q0 := HA2.out.cell (j := 0) rfl
  have q1 := HA2.out.cell (j := 1) rfl
  go_wp2_with fail
  refine (HQ3.out _ HU2.out).mono ?_
  rintro e w3 ⟨o3, c3, p3, d3, rfl, hs3, u3⟩
  clear q0 q1
  go_upto_region 4 with (fail)
  have hal := Up.alloc w3 (.cells #[.slice o3 R3.1.b.length c3, .slice p3 R3.1.v.length d3] 25)
  have HX3_3 : Hid (RowC (w3.alloc (.cells #[.slice o3 R3.1.b.length c3, .slice p3 R3.1.v.length d3] 25)) w3.heap.size 25 [.slice o3 R3.1.b.length c3, .slice p3 R3.1.v.length d3]) := heap_alloc_new w3 _
  have HS3_3 := Lib.hid (hs3.up hal)
  have HA3 := Lib.hid ((HA2.out.up u3).up hal)
  have HU3 := Lib.hid ((HU2.out.trans u3).trans hal)
  have HX1_3 := Lib.hid (HX1_2.out.up (u3.trans hal))
  have HS1_3 := Lib.hid (HS1_2.out.up (u3.trans hal))
  have HX2_3 := Lib.hid (HX2_2.out.up (u3.trans hal))
  have HS2_3 := Lib.hid (HS2_2.out.up (u3.trans hal))
  clear hal u3 hs3 HA2 HU2 HX1_2 HS1_2 HX2_2 HS2_2
  generalize w3.alloc (.cells #[.slice o3 R3.1.b.length c3, .slice p3 R3.1.v.length d3] 25) = W3 at HX1_3 HS1_3 HX2_3 HS2_3 HX3_3 HS3_3 HA3 HU3 ⊢
  generalize w3.heap.size = X3 at HX3_3 ⊢
  have q0 := HA3.out.cell (j := 0) rfl
  have q1 := HA3.out.cell (j := 1) rfl
  go_wp2_with fail
  refine (HQ4.out _ HU3.out).mono ?_
  rintro e w4 ⟨o4, c4, p4, d4, rfl, hs4, u4⟩
  clear q0 q1
  go_upto_region 5 with (fail)
  have hal := Up.alloc w4 (.cells #[.slice o4 R1.1.b.length c4, .slice p4 R1.1.v.length d4] 25)
  have HX4_4 : Hid (RowC (w4.alloc (.cells #[.slice o4 R1.1.b.length c4, .slice p4 R1.1.v.length d4] 25)) w4.heap.size 25 [.slice o4 R1.1.b.length c4, .slice p4 R1.1.v.length d4]) := heap_alloc_new w4 _
  have HS4_4 := Lib.hid (hs4.up hal)
  have HA4 := Lib.hid ((HA3.out.up u4).up hal)
  have HU4 := Lib.hid ((HU3.out.trans u4).trans hal)
  have HX1_4 := Lib.hid (HX1_3.out.up (u4.trans hal))
  have HS1_4 := Lib.hid (HS1_3.out.up (u4.trans hal))
  have HX2_4 := Lib.hid (HX2_3.out.up (u4.trans hal))
  have HS2_4 := Lib.hid (HS2_3.out.up (u4.trans hal))
  have HX3_4 := Lib.hid (HX3_3.out.up (u4.trans hal))
  have HS3_4 := Lib.hid (HS3_3.out.up (u4.trans hal))
  clear hal u4 hs4 HA3 HU3 HX1_3 HS1_3 HX2_3 HS2_3 HX3_3 HS3_3
  generalize w4.alloc (.cells #[.slice o4 R1.1.b.length c4, .slice p4 R1.1.v.length d4] 25) = W4 at HX1_4 HS1_4 HX2_4 HS2_4 HX3_4 HS3_4 HX4_4 HS4_4 HA4 HU4 ⊢
  generalize w4.heap.size = X4 at HX4_4 ⊢
  have q0 := HA4.out.cell (j := 0) rfl
  have q1 := HA4.out.cell (j := 1) rfl
  go_wp2_with fail
  refine (HQ5.out _ HU4.out).mono ?_
  rintro e w5 ⟨o5, c5, p5, d5, rfl, hs5, u5⟩
  clear q0 q1
  go_upto_region 6 with (fail)
  have hal := Up.alloc w5 (.cells #[.slice o5 R2.1.b.length c5, .slice p5 R2.1.v.length d5] 25)
  have HX5_5 : Hid (RowC (w5.alloc (.cells #[.slice o5 R2.1.b.length c5, .slice p5 R2.1.v.length d5] 25)) w5.heap.size 25 [.slice o5 R2.1.b.length c5, .slice p5 R2.1.v.length d5]) := heap_alloc_new w5 _
  have HS5_5 := Lib.hid (hs5.up hal)
  have HA5 := Lib.hid ((HA4.out.up u5).up hal)
  have HU5 := Lib.hid ((HU4.out.trans u5).trans hal)
  have HX1_5 := Lib.hid (HX1_4.out.up (u5.trans hal))
  have HS1_5 := Lib.hid (HS1_4.out.up (u5.trans hal))
  have HX2_5 := Lib.hid (HX2_4.out.up (u5.trans hal))
  have HS2_5 := Lib.hid (HS2_4.out.up (u5.trans hal))
  have HX3_5 := Lib.hid (HX3_4.out.up (u5.trans hal))
  have HS3_5 := Lib.hid (HS3_4.out.up (u5.trans hal))
  have HX4_5 := Lib.hid (HX4_4.out.up (u5.trans hal))
  have HS4_5 := Lib.hid (HS4_4.out.up (u5.trans hal))
  clear hal u5 hs5 HA4 HU4 HX1_4 HS1_4 HX2_4 HS2_4 HX3_4 HS3_4 HX4_4 HS4_4
  generalize w5.alloc (.cells #[.slice o5 R2.1.b.length c5, .slice p5 R2.1.v.length d5] 25) = W5 at HX1_5 HS1_5 HX2_5 HS2_5 HX3_5 HS3_5 HX4_5 HS4_5 HX5_5 HS5_5 HA5 HU5 ⊢
  generalize w5.heap.size = X5 at HX5_5 ⊢
  have q0 := HA5.out.cell (j := 0) rfl
  have q1 := HA5.out.cell (j := 1) rfl
  go_wp2_with fail
  refine (HQ6.out _ HU5.out).mono ?_
  rintro e w6 ⟨o6, c6, p6, d6, rfl, hs6, u6⟩
  clear q0 q1
  go_upto_region 7 with (fail)
  have hal := Up.alloc w6 (.cells #[.slice o6 R3.1.b.length c6, .slice p6 R3.1.v.length d6] 25)
  have HX6_6 : Hid (RowC (w6.alloc (.cells #[.slice o6 R3.1.b.length c6, .slice p6 R3.1.v.length d6] 25)) w6.heap.size 25 [.slice o6 R3.1.b.length c6, .slice p6 R3.1.v.length d6]) := heap_alloc_new w6 _
  have HS6_6 := Lib.hid (hs6.up hal)
  have HA6 := Lib.hid ((HA5.out.up u6).up hal)
  have HU6 := Lib.hid ((HU5.out.trans u6).trans hal)
  have HX1_6 := Lib.hid (HX1_5.out.up (u6.trans hal))
  have HS1_6 := Lib.hid (HS1_5.out.up (u6.trans hal))
  have HX2_6 := Lib.hid (HX2_5.out.up (u6.trans hal))
  have HS2_6 := Lib.hid (HS2_5.out.up (u6.trans hal))
  have HX3_6 := Lib.hid (HX3_5.out.up (u6.trans hal))
  have HS3_6 := Lib.hid (HS3_5.out.up (u6.trans hal))
  have HX4_6 := Lib.hid (HX4_5.out.up (u6.trans hal))
  have HS4_6 := Lib.hid (HS4_5.out.up (u6.trans hal))
  have HX5_6 := Lib.hid (HX5_5.out.up (u6.trans hal))
  have HS5_6 := Lib.hid (HS5_5.out.up (u6.trans hal))
  clear hal u6 hs6 HA5 HU5 HX1_5 HS1_5 HX2_5 HS2_5 HX3_5 HS3_5 HX4_5 HS4_5 HX5_5 HS5_5
  generalize w6.alloc (.cells #[.slice o6 R3.1.b.length c6, .slice p6 R3.1.v.length d6] 25) = W6 at HX1_6 HS1_6 HX2_6 HS2_6 HX3_6 HS3_6 HX4_6 HS4_6 HX5_6 HS5_6 HX6_6 HS6_6 HA6 HU6 ⊢
  generalize w6.heap.size = X6 at HX6_6 ⊢
  have HT1 := Lib.hid (fun W (hW : Up W6 W) => told_yes _ _ R1.1 R1.2 W (HS1_6.out.up hW) (HS4_6.out.up hW))
  have HT2 := Lib.hid (fun W (hW : Up W6 W) => told_yes _ _ R2.1 R2.2 W (HS2_6.out.up hW) (HS5_6.out.up hW))
  have HT3 := Lib.hid (fun W (hW : Up W6 W) => told_yes _ _ R3.1 R3.2 W (HS3_6.out.up hW) (HS6_6.out.up hW))
  have x0 := HX1_6.out.cell (j := 0) rfl
  have x1 := HX1_6.out.cell (j := 1) rfl
  have x2 := HX4_6.out.cell (j := 0) rfl
  have x3 := HX4_6.out.cell (j := 1) rfl
  go_wp2_with fail
  refine (HT1.out _ (Up.refl _)).mono ?_
  rintro e w7 ⟨rfl, u7⟩
  have HU7 := Lib.hid u7
  clear x0 x1 x2 x3 u7
  have x0 := (HX2_6.out.up HU7.out).cell (j := 0) rfl
  have x1 := (HX2_6.out.up HU7.out).cell (j := 1) rfl
  have x2 := (HX5_6.out.up HU7.out).cell (j := 0) rfl
  have x3 := (HX5_6.out.up HU7.out).cell (j := 1) rfl
  go_wp2_with fail
  refine (HT2.out _ HU7.out).mono ?_
  rintro e w8 ⟨rfl, u8⟩
  have HU8 := Lib.hid (HU7.out.trans u8)
  clear x0 x1 x2 x3 u8
  have x0 := (HX3_6.out.up HU8.out).cell (j := 0) rfl
  have x1 := (HX3_6.out.up HU8.out).cell (j := 1) rfl
  have x2 := (HX6_6.out.up HU8.out).cell (j := 0) rfl
  have x3 := (HX6_6.out.up HU8.out).cell (j := 1) rfl
  go_wp2_with fail
  refine (HT3.out _ HU8.out).mono ?_
  rintro e w9 ⟨rfl, u9⟩
  have HU9 := Lib.hid ((HU6.out.trans HU8.out).trans u9)
  clear x0 x1 x2 x3 u9
  go_wp2_with fail
  go_ret
  exact ⟨rfl, HU9.out⟩

end Go.Proofs.YtcbppfndlagodaaGreatDoor

/-
  A slice of items of a bag that came in reads as a list of items. Conditions: it can be read as data.
-/
namespace Go.Proofs.YtcbppfndlagodaaGreatDoor
open Go.RowKit
open Go.Proofs
open Go.ChangeShapes Go.WideShapes Go.Deep
open WoolBag

theorem add_noneI (b off j : Nat) : (⟨b, off, none⟩ : Addr).add j = ⟨b, off + j, none⟩ := by
  unfold Addr.add
  split
  · rename_i e; subst e; rfl
  · rfl

theorem cellsItm : Tryz.prog.cellsOf 70 = 4 := by kernel_rfl
theorem cellsIntI : Tryz.prog.cellsOf 3 = 1 := by kernel_rfl
theorem cellsStrI : Tryz.prog.cellsOf 9 = 1 := by kernel_rfl
theorem bytesItm : Tryz.prog.bytesOf 70 = 40 := by kernel_rfl

section
variable {H : Type} {enc : TypeId × Value → H} {w : World} {base : Nat} {spare : Nat → Bool} {held : Bool}

set_option maxRecDepth 100000 in
/-- four cells that read as an item -/
theorem itm_cells {n : Nat} {cs : List Value} {y : DataW H × List MemPlace} (h : DataW.trod enc Tryz.prog w base spare held n 70 cs = some y) : ∃ x : Itm, cs = itC x := by
  obtain ⟨xs, m, _, _, hl, hxl, hf⟩ := DataW.trod_struct Tryz.underlying70 h
  rw [cellsItm] at hl
  match cs, hl with
  | [c0, c1, c2, c3], _ =>
    match xs, hxl with
    | [x0, x1, x2, x3], _ =>
      have f0 : DataW.trod enc Tryz.prog w base spare held m 3 [c0] = some x0 := by simpa [cellsIntI, cellsStrI] using hf 0 _ rfl
      have f1 : DataW.trod enc Tryz.prog w base spare held m 3 [c1] = some x1 := by simpa [cellsIntI, cellsStrI] using hf 1 _ rfl
      have f2 : DataW.trod enc Tryz.prog w base spare held m 9 [c2] = some x2 := by simpa [cellsIntI, cellsStrI] using hf 2 _ rfl
      have f3 : DataW.trod enc Tryz.prog w base spare held m 3 [c3] = some x3 := by simpa [cellsIntI, cellsStrI] using hf 3 _ rfl
      obtain ⟨s, hs, _⟩ := DataW.trod_int Tryz.underlying3 f0
      obtain ⟨n, hn, _⟩ := DataW.trod_int Tryz.underlying3 f1
      obtain ⟨t, ht, _⟩ := DataW.trod_string Tryz.underlying9 f2
      obtain ⟨r, hr, _⟩ := DataW.trod_int Tryz.underlying3 f3
      refine ⟨⟨s, n, t.data.toList, r⟩, ?_⟩
      simp at hs hn ht hr
      unfold itC
      simp only
      rw [hs, hn, ht, hr, bs_of]

theorem open_items {fuel : Nat} {cs : List Value} {x : DataW H × List MemPlace} (h : DataW.trod enc Tryz.prog w base (fun _ => true) held fuel 22 cs = some x) :
    ∃ (o : Option Addr) (len cap : Nat) (l : List Itm), cs = [.slice o len cap] ∧ Items w (.slice o len cap) l := by
  rcases open_slice Tryz.underlying22 h with ⟨rfl, _⟩ | ⟨a, len, cap, m, n, D, Pl, rfl, _, hl, hm, hmm, _, hi⟩
  · exact ⟨none, 0, 0, [], rfl, Items.nil w⟩
  · rw [if_pos rfl] at hmm
    obtain rfl : cap = m := hmm.symm
    rw [cellsItm] at hi
    have hex : ∀ i, ∃ x : Itm, i < cap → ∀ j u, (itC x)[j]? = some u → w.cell? ((a.add (i * 4)).add j) = some u := by
      intro i
      by_cases hic : i < cap
      · obtain ⟨cs', hc, ht⟩ := hi i hic
        obtain ⟨x, rfl⟩ := itm_cells ht
        obtain ⟨_, _, hat⟩ := World.cells?_some hc
        refine ⟨x, fun _ j u hu => ?_⟩
        have hj : j < 4 := by
          have := (List.getElem?_eq_some_iff.1 hu).1
          simpa [itC] using this
        rw [hat j hj]
        exact hu
      · exact ⟨default, fun h => absurd h hic⟩
    obtain ⟨f, hf⟩ := Classical.axiomOfChoice hex
    have hlen : ((List.range len).map f).length = len := by rw [List.length_map, List.length_range]
    refine ⟨some a, len, cap, (List.range len).map f, rfl, some a, cap, by rw [hlen], by rw [hlen]; exact hl, hm, ?_⟩
    by_cases h0 : len = 0
    · left; subst h0; rfl
    · right
      obtain ⟨b, off, spot⟩ := a
      have hs0 := hf 0 (by omega) 0 _ rfl
      have hspot : spot = none := by simpa [Addr.add] using World.cell?_spot hs0
      subst hspot
      refine ⟨b, off, rfl, fun k hk => ?_⟩
      rw [hlen] at hk
      have e0 := hf k (by omega) 0 _ rfl
      have e1 := hf k (by omega) 1 _ rfl
      have e2 := hf k (by omega) 2 _ rfl
      have e3 := hf k (by omega) 3 _ rfl
      rw [add_noneI, add_noneI] at e0 e1 e2 e3
      have hg : ((List.range len).map f)[k]'(by rw [hlen]; exact hk) = f k := by rw [List.getElem_map, List.getElem_range]
      rw [hg]
      exact ⟨e0, e1, e2, e3⟩

/-- how many places were read -/
theorem items_data {fuel : Nat} {cs : List Value} {x : DataW H × List MemPlace} (h : DataW.trod enc Tryz.prog w base (fun _ => true) held fuel 22 cs = some x) :
    ∃ (o : Option Addr) (len cap : Nat), cs = [.slice o len cap] ∧ (cap = 0 ∨ ∃ es sp, x.1 = .slice es sp ∧ es.length + sp.length = cap) := by
  rcases open_slice Tryz.underlying22 h with ⟨rfl, _⟩ | ⟨a, len, cap, m, n, D, Pl, rfl, _, hl, hm, hmm, hx, hi⟩
  · exact ⟨none, 0, 0, rfl, .inl rfl⟩
  · rw [if_pos rfl] at hmm
    refine ⟨some a, len, cap, rfl, .inr ⟨_, _, congrArg Prod.fst hx, ?_⟩⟩
    rw [List.length_map, List.length_map, List.length_range, List.length_range, hmm]
    omega

end

end Go.Proofs.YtcbppfndlagodaaGreatDoor
