/-
  What apply of package lz returns: the bytes so far and those of the token. Conditions: as each says.
-/
import Derived.Test.YtloiciinmdmdkaaGreatDoorLz1
import Derived.Test.YtloiciinmdmdkaaGreatDoorByteS
namespace Go.Proofs.YtloiciinmdmdkaaGreatDoor
open Go.RowKit
open Go.Proofs
open WoolLz

/-- a block of three cells -/
def Box3 (W : World) (B : Nat) (t : TypeId) (x y z : Value) : Prop := W.heap[B]? = some (.cells #[x, y, z] t (0, 0))

theorem Box3.lt {W : World} {B : Nat} {t : TypeId} {x y z : Value} (h : Box3 W B t x y z) : B < W.heap.size := (Array.getElem?_eq_some_iff.1 h).1
theorem Box3.cells {W : World} {B : Nat} {t : TypeId} {x y z : Value} (h : Box3 W B t x y z) : W.cell? ⟨B, 0, none⟩ = some x ∧ W.cell? ⟨B, 1, none⟩ = some y ∧ W.cell? ⟨B, 2, none⟩ = some z :=
  ⟨cell_of_row _ _ 0 _ _ _ h, cell_of_row _ _ 1 _ _ _ h, cell_of_row _ _ 2 _ _ _ h⟩
theorem Box3.new (W : World) (t : TypeId) (x y z : Value) : Box3 (W.alloc (.cells #[x, y, z] t)) W.heap.size t x y z := heap_alloc_new W _
theorem Box3.kept {W W' : World} {row : Option Nat} {B : Nat} {t : TypeId} {x y z : Value} (h : Box3 W B t x y z) (hg : W.grownBy W' row) (hne : some B ≠ row) : Box3 W' B t x y z := (hg.block B h.lt hne).trans h
theorem Box3.alloc {W : World} {B : Nat} {t : TypeId} {x y z : Value} (h : Box3 W B t x y z) (o : Obj) : Box3 (W.alloc o) B t x y z := h.kept (World.grownBy_alloc W o none) (by simp)
theorem Box3.below {W W' : World} {n B : Nat} {t : TypeId} {x y z : Value} (h : Box3 W B t x y z) (hb : Below n W W') (hB : B < n) : Box3 W' B t x y z := (hb.block B hB).trans h
theorem Box3.not_row {W : World} {B : Nat} {t e : TypeId} {x y z : Value} (h : Box3 W B t x y z) (hte : t ≠ e) {base size k : Nat} {v : Value} {xs : List Value} (hr : W.ownsRow base e size v k xs) : some B ≠ v.ownBlock := by
  rcases hr.2 with ⟨rfl, _⟩ | ⟨g, cap, cur, rfl, _, hgb, _⟩
  · simp [Value.ownBlock]
  · intro e'
    obtain rfl : B = g := by simpa [Value.ownBlock] using e'
    have := (show W.heap[B]? = _ from h).symm.trans hgb
    simp at this
    exact hte this.2

theorem Box3.appended {W w1 : World} {B : Nat} {t e : TypeId} {x y z : Value} {base size k : Nat} {v : Value} {xs : List Value} {o : Obj} (h : Box3 W B t x y z) (hte : t ≠ e) (hrow : W.ownsRow base e size v k xs) (hg : (W.alloc o).grownBy w1 v.ownBlock) : Box3 w1 B t x y z :=
  (h.alloc o).kept hg (h.not_row hte hrow)

theorem Box3.set {W : World} {B : Nat} {t : TypeId} {x y z : Value} (h : Box3 W B t x y z) (x' y' z' : Value) : Box3 (((W.setCell ⟨B, 0, none⟩ x').setCell ⟨B, 1, none⟩ y').setCell ⟨B, 2, none⟩ z') B t x' y' z' := by
  unfold Box3 at h ⊢
  simp [World.setCell, Array.getElem?_modify, h]

theorem set3_up {w w1 : World} (h : Up w w1) (x' y' z' : Value) : Up w (((w1.setCell ⟨w.heap.size, 0, none⟩ x').setCell ⟨w.heap.size, 1, none⟩ y').setCell ⟨w.heap.size, 2, none⟩ z') :=
  ((Below.setCell h (p := ⟨w.heap.size, 0, none⟩) (Nat.le_refl _) _).setCell (p := ⟨w.heap.size, 1, none⟩) (Nat.le_refl _) _).setCell (p := ⟨w.heap.size, 2, none⟩) (Nat.le_refl _) _

/-- what an append onto an own row leaves below its base -/
theorem grown_below {n : Nat} {w wr w' : World} {v : Value} {k : Nat} {xs : List Value} {e : TypeId} {size : Nat} (hu : Below n w wr) (hn : n ≤ wr.heap.size) (hown : wr.ownsRow n e size v k xs) (hg : wr.grownBy w' v.ownBlock) : Below n w w' :=
  Below.grown hu hg hn (fun j hj => by
    rcases hown.2 with ⟨rfl, _⟩ | ⟨g, cap, cur, rfl, hb, _⟩
    · simp [Value.ownBlock] at hj
    · obtain rfl : g = j := by simpa [Value.ownBlock] using hj
      exact hb)

def ApplyPost (base : Nat) (w : World) (L : List UInt8) (e : Ending) (w' : World) : Prop :=
  ∃ v', e = .returned v' ∧ Bytes w' base v' L ∧ Below base w w'

theorem u8_ofNat (b : Int) (h0 : 0 ≤ b) (h1 : b ≤ 255) : ((UInt8.ofNat b.toNat).toNat : Int) = b := by
  rw [UInt8.toNat_ofNat']
  omega

set_option maxRecDepth 100000 in
set_option maxHeartbeats 400000 in
theorem apply_lit (v : Value) (bl : List UInt8) (base : Nat) (d b : Int) (w : World) (hb : Bytes w base v bl) (hbase : base ≤ w.heap.size) (hlen : bl.length ≤ 600) (h0 : 0 ≤ b) (h1 : b ≤ 255) :
    Calls Tryz.prog 58 #[v, .agg #[.int .i64 d, .int .i64 0, .int .i64 b]] w (ApplyPost base w (bl ++ [UInt8.ofNat b.toNat])) := by
  obtain ⟨i0, hi, hz0, hz1, hz2⟩ := info_parts byteInfo
  have HI := Lib.hid hi
  have HZ0 := Lib.hid hz0
  have HZ1 := Lib.hid hz1
  have HZ2 := Lib.hid hz2
  have HX := Lib.hid (u8_ofNat b h0 h1)
  have HB := Lib.hid (World.ownsRow.alloc hb (.cells #[.int .i64 d, .int .i64 0, .int .i64 b] 55))
  have hc := cell_one_new (w.alloc (.cells #[.int .i64 d, .int .i64 0, .int .i64 b] 55)) (.int .u8 b) 5
  rw [World.size_alloc] at hc
  have HC := Lib.hid hc
  clear hc
  clear hi hz0 hz1 hz2 hb
  go_enter Tryz.func58, Tryz.ntmps58
  go_wp2_with (at_builtin; refine wpList_append_own _ rfl _ _ 34 rfl base 5 i0 (.int .u8 0) 1 1 Tryz.underlying34 HI.out HZ0.out HZ1.out HZ2.out rfl (by decide) _ _ _ rfl (World.ownsRow.alloc HB.out _) ⟨w.heap.size + 1, 0, none⟩ 1 1 [.int .u8 b] rfl rfl HC.out (one_memB _ rfl) (by unfold maxLen; omega) (by omega) (by simp; omega) ?_; intro v' w3 hown hgrow _)
  have hown2 : Bytes w3 base v' (bl ++ [UInt8.ofNat b.toNat]) := by
    unfold Bytes
    rw [byteL_snoc, HX.out, List.length_append]
    exact hown
  have hbl : Below base w w3 := grown_below (((Below.refl base w).alloc hbase _).alloc (by simp; omega) _) (by simp; omega) (World.ownsRow.alloc HB.out _) hgrow
  go_wp2_with fail
  go_ret
  exact ⟨_, rfl, hown2, hbl⟩

def CpyRel (bl : List UInt8) (base D N : Nat) (B : Nat) (x y z : Value) (w : World) (b i : Value) (wr : World) : Prop :=
  ∃ k : Nat, k ≤ N ∧ i = .int .i64 k ∧ Bytes wr base b (cpy bl D k) ∧ Below base w wr ∧ Box3 wr B 55 x y z ∧ base ≤ wr.heap.size

theorem Bytes.shape {w : World} {base : Nat} {v : Value} {l : List UInt8} (h : Bytes w base v l) (hn : 0 < l.length) : ∃ g c, v = .slice (some ⟨g, 0, none⟩) l.length c ∧ base ≤ g ∧ g < w.heap.size ∧ l.length ≤ c ∧ c ≤ maxLen := by
  rcases h.2 with ⟨rfl, h0⟩ | ⟨g, cap, cur, rfl, h2, h3, h4, h5, _⟩
  · omega
  · refine ⟨g, cap, rfl, h2, ?_, h4, h5⟩
    rcases Nat.lt_or_ge g w.heap.size with hlt | hge
    · exact hlt
    · rw [Array.getElem?_eq_none hge] at h3; cases h3

theorem Bytes.cell {w : World} {base g c : Nat} {l : List UInt8} (h : Bytes w base (.slice (some ⟨g, 0, none⟩) l.length c) l) (j : Nat) (hj : j < l.length) : w.cell? ⟨g, j, none⟩ = some (.int .u8 ((l[j].toNat : Nat) : Int)) :=
  (World.ownsRow.cellAt h j (by omega)).trans (byteL_get l j hj)

theorem cpy_next (bl : List UInt8) (d k : Nat) (h : (cpy bl d k).length - d < (cpy bl d k).length) : cpy bl d (k + 1) = cpy bl d k ++ [(cpy bl d k)[(cpy bl d k).length - d]] := by
  conv => lhs; unfold cpy
  rw [List.getElem?_eq_getElem h, Option.getD_some]

set_option maxRecDepth 100000 in
set_option maxHeartbeats 400000 in
theorem apply_cpy (v : Value) (bl : List UInt8) (base : Nat) (D N : Nat) (b : Int) (w : World) (hb : Bytes w base v bl) (hbase : base ≤ w.heap.size) (hlen : bl.length ≤ 600) (h1 : 1 ≤ N) (h2 : N ≤ 64) (h3 : 1 ≤ D) (h4 : D ≤ bl.length) :
    Calls Tryz.prog 58 #[v, .agg #[.int .i64 (D : Int), .int .i64 (N : Int), .int .i64 b]] w (ApplyPost base w (cpy bl D N)) := by
  obtain ⟨i0, hi, hz0, hz1, hz2⟩ := info_parts byteInfo
  have HI := Lib.hid hi
  have HZ0 := Lib.hid hz0
  have HZ1 := Lib.hid hz1
  have HZ2 := Lib.hid hz2
  have g1 : ((N : Int) == 0) = false := by rw [beq_eq_false_iff_ne]; omega
  have HB := Lib.hid (World.ownsRow.alloc hb (.cells #[.int .i64 (D : Int), .int .i64 (N : Int), .int .i64 b] 55))
  clear hi hz0 hz1 hz2 hb
  go_enter Tryz.func58, Tryz.ntmps58
  go_wp2_with fail
  go_loopw [0, 16] (fun v i wr => CpyRel bl base D N w.heap.size (.int .i64 (D : Int)) (.int .i64 (N : Int)) (.int .i64 b) w v i wr) (fun _ i _ => N - (intOf i).toNat)
  case atStart => exact ⟨0, by omega, rfl, HB.out, (Below.refl base w).alloc hbase _, Box3.new w _ _ _ _, by simp; omega⟩
  case round =>
    obtain ⟨k, hk, rfl, hby, hbe, hbx, hbs⟩ := hrel
    have HBE := Lib.hid hbe
    have HBX := Lib.hid hbx
    have HBY := Lib.hid hby
    obtain ⟨c0, c1, c2⟩ := hbx.cells
    have hcl := cpy_length bl D k
    clear hbe hbx
    by_cases hlt : k < N
    · have d1 : decide (k < N) = true := decide_eq_true hlt
      obtain ⟨g, c, rfl, hg1, hg2, hc1, hc2⟩ := hby.shape (by omega)
      unfold maxLen at hc2
      have hidx : (cpy bl D k).length - D < (cpy bl D k).length := by omega
      have hcell := hby.cell ((cpy bl D k).length - D) hidx
      have hnx := cpy_next bl D k hidx
      obtain ⟨x, hx⟩ : ∃ x, (cpy bl D k)[(cpy bl D k).length - D] = x := ⟨_, rfl⟩
      rw [hx] at hcell hnx
      obtain ⟨L, hL⟩ : ∃ L, cpy bl D k = L := ⟨_, rfl⟩
      rw [hL] at hcl hidx hcell hnx hc1 ⊢
      rw [hL] at HBY
      clear hby hx hL
      obtain ⟨M, hM⟩ : ∃ M, L.length = M := ⟨_, rfl⟩
      have HM := Lib.hid hM
      rw [hM] at hcl hidx hcell hc1 HBY ⊢
      have HNX := Lib.hid hnx
      clear hM hnx
      have hMb : M ≤ 664 := by omega
      have hMD : D ≤ M := by omega
      clear hcl
      have w1 : IntKind.i64.wrap ((M : Int) - (D : Int)) = (M : Int) - (D : Int) := IntWalk.i64_in _ (by omega)
      have t1 : ((M : Int) - (D : Int)).toNat = M - D := by omega
      go_wp2_with (at_builtin; refine wpList_append_own _ rfl _ _ 34 rfl base 5 i0 (.int .u8 0) 1 1 Tryz.underlying34 HI.out HZ0.out HZ1.out HZ2.out rfl (by decide) _ _ _ rfl (World.ownsRow.alloc HBY.out _) ⟨wr.heap.size, 0, none⟩ 1 1 [.int .u8 (x.toNat : Int)] rfl rfl (cell_one_new _ _ _) (one_memB _ rfl) (by have := HM.out; unfold maxLen; omega) (by have := HM.out; omega) (by simp; omega) ?_; intro v' w3 hown hgrow _)
      have hB3 : Bytes w3 base v' (cpy bl D (k + 1)) := by
        unfold Bytes
        rw [HNX.out, byteL_snoc, List.length_append]
        exact hown
      have hbe3 : Below base w w3 := grown_below (HBE.out.alloc hbs _) (by simp; omega) (World.ownsRow.alloc HBY.out _) hgrow
      have hbx3 : Box3 w3 w.heap.size 55 (.int .i64 (D : Int)) (.int .i64 (N : Int)) (.int .i64 b) := HBX.out.appended (by decide) HBY.out hgrow
      have hs3 : base ≤ w3.heap.size := by have := hgrow.size; simp at this; omega
      have H1 := Lib.hid hB3
      have H2 := Lib.hid hbe3
      have H3 := Lib.hid hbx3
      clear hB3 hbe3 hbx3 hown hgrow
      go_roundw
      case rel => exact ⟨k + 1, by omega, by go_num, H1.out, H2.out, H3.out, hs3⟩
      case measure => simp only [intOf]; omega
    · have d1 : decide (k < N) = false := decide_eq_false hlt
      obtain rfl : k = N := by omega
      clear hby
      go_wp2_with fail
      go_ret
      exact ⟨_, rfl, HBY.out, HBE.out⟩

end Go.Proofs.YtloiciinmdmdkaaGreatDoor
