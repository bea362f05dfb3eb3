/-
  What apply of package lz returns: the bytes so far and those of the token. Conditions: as each says.
-/
import Derived.Test.YtemineffflodcaaJListsOwn33
namespace Go.Proofs.Ytemineffflodcaa
open Go.RowKit
open Go.Proofs
open WoolLz

/-- a block of three cells -/
def Box3 (W : World) (B : Nat) (t : TypeId) (x y z : Value) : Prop := W.heap[B]? = some (.cells #[x, y, z] t (0, 0))

theorem Box3.lt {W : World} {B : Nat} {t : TypeId} {x y z : Value} (h : Box3 W B t x y z) : B < W.heap.size := (Array.getElem?_eq_some_iff.1 h).1
theorem Box3.cells {W : World} {B : Nat} {t : TypeId} {x y z : Value} (h : Box3 W B t x y z) : W.cell? ⟨B, 0, none⟩ = some x ∧ W.cell? ⟨B, 1, none⟩ = some y ∧ W.cell? ⟨B, 2, none⟩ = some z :=
  ⟨cell_of_row _ _ 0 _ _ _ h, cell_of_row _ _ 1 _ _ _ h, cell_of_row _ _ 2 _ _ _ h⟩
theorem Box3.new (W : World) (t : TypeId) (x y z : Value) : Box3 (W.alloc (.cells #[x, y, z] t)) W.heap.size t x y z := heap_alloc_new W _
theorem Box3.kept {W W' : World} {row : Option Nat} {B : Nat} {t : TypeId} {x y z : Value} (h : Box3 W B t x y z) (hg : W.grownBy W' row) (hne : some B ≠ row) : Box3 W' B t x y z := (hg.block B h.lt hne).trans h
theorem Box3.alloc {W : World} {B : Nat} {t : TypeId} {x y z : Value} (h : Box3 W B t x y z) (o : Obj) : Box3 (W.alloc o) B t x y z := h.kept (World.grownBy_alloc W o none) (by simp)
theorem Box3.below {W W' : World} {n B : Nat} {t : TypeId} {x y z : Value} (h : Box3 W B t x y z) (hb : Below n W W') (hB : B < n) : Box3 W' B t x y z := (hb.block B hB).trans h
theorem Box3.not_row {W : World} {B : Nat} {t e : TypeId} {x y z : Value} (h : Box3 W B t x y z) (hte : t ≠ e) {base size k : Nat} {v : Value} {xs : List Value} (hr : W.ownsRow base e size v k xs) : some B ≠ v.ownBlock := by
  rcases hr.2 with ⟨rfl, _⟩ | ⟨g, cap, cur, rfl, _, hgb, _⟩
  · simp [Value.ownBlock]
  · intro e'
    obtain rfl : B = g := by simpa [Value.ownBlock] using e'
    have := (show W.heap[B]? = _ from h).symm.trans hgb
    simp at this
    exact hte this.2

theorem Box3.appended {W w1 : World} {B : Nat} {t e : TypeId} {x y z : Value} {base size k : Nat} {v : Value} {xs : List Value} {o : Obj} (h : Box3 W B t x y z) (hte : t ≠ e) (hrow : W.ownsRow base e size v k xs) (hg : (W.alloc o).grownBy w1 v.ownBlock) : Box3 w1 B t x y z :=
  (h.alloc o).kept hg (h.not_row hte hrow)

theorem Box3.set {W : World} {B : Nat} {t : TypeId} {x y z : Value} (h : Box3 W B t x y z) (x' y' z' : Value) : Box3 (((W.setCell ⟨B, 0, none⟩ x').setCell ⟨B, 1, none⟩ y').setCell ⟨B, 2, none⟩ z') B t x' y' z' := by
  unfold Box3 at h ⊢
  simp [World.setCell, Array.getElem?_modify, h]

theorem set3_up {w w1 : World} (h : Up w w1) (x' y' z' : Value) : Up w (((w1.setCell ⟨w.heap.size, 0, none⟩ x').setCell ⟨w.heap.size, 1, none⟩ y').setCell ⟨w.heap.size, 2, none⟩ z') :=
  ((Below.setCell h (p := ⟨w.heap.size, 0, none⟩) (Nat.le_refl _) _).setCell (p := ⟨w.heap.size, 1, none⟩) (Nat.le_refl _) _).setCell (p := ⟨w.heap.size, 2, none⟩) (Nat.le_refl _) _

/-- what an append onto an own row leaves below its base -/
theorem grown_below {n : Nat} {w wr w' : World} {v : Value} {k : Nat} {xs : List Value} {e : TypeId} {size : Nat} (hu : Below n w wr) (hn : n ≤ wr.heap.size) (hown : wr.ownsRow n e size v k xs) (hg : wr.grownBy w' v.ownBlock) : Below n w w' :=
  Below.grown hu hg hn (fun j hj => by
    rcases hown.2 with ⟨rfl, _⟩ | ⟨g, cap, cur, rfl, hb, _⟩
    · simp [Value.ownBlock] at hj
    · obtain rfl : g = j := by simpa [Value.ownBlock] using hj
      exact hb)

def ApplyPost (base : Nat) (w : World) (L : List UInt8) (e : Ending) (w' : World) : Prop :=
  ∃ v', e = .returned v' ∧ Bytes w' base v' L ∧ Below base w w'

theorem u8_ofNat (b : Int) (h0 : 0 ≤ b) (h1 : b ≤ 255) : ((UInt8.ofNat b.toNat).toNat : Int) = b := by
  rw [UInt8.toNat_ofNat']
  omega

def CpyRel (bl : List UInt8) (base D N : Nat) (B : Nat) (x y z : Value) (w : World) (b i : Value) (wr : World) : Prop :=
  ∃ k : Nat, k ≤ N ∧ i = .int .i64 k ∧ Bytes wr base b (cpy bl D k) ∧ Below base w wr ∧ Box3 wr B 49 x y z ∧ base ≤ wr.heap.size

theorem Bytes.shape {w : World} {base : Nat} {v : Value} {l : List UInt8} (h : Bytes w base v l) (hn : 0 < l.length) : ∃ g c, v = .slice (some ⟨g, 0, none⟩) l.length c ∧ base ≤ g ∧ g < w.heap.size ∧ l.length ≤ c ∧ c ≤ maxLen := by
  rcases h.2 with ⟨rfl, h0⟩ | ⟨g, cap, cur, rfl, h2, h3, h4, h5, _⟩
  · omega
  · refine ⟨g, cap, rfl, h2, ?_, h4, h5⟩
    rcases Nat.lt_or_ge g w.heap.size with hlt | hge
    · exact hlt
    · rw [Array.getElem?_eq_none hge] at h3; cases h3

theorem Bytes.cell {w : World} {base g c : Nat} {l : List UInt8} (h : Bytes w base (.slice (some ⟨g, 0, none⟩) l.length c) l) (j : Nat) (hj : j < l.length) : w.cell? ⟨g, j, none⟩ = some (.int .u8 ((l[j].toNat : Nat) : Int)) :=
  (World.ownsRow.cellAt h j (by omega)).trans (byteL_get l j hj)

theorem cpy_next (bl : List UInt8) (d k : Nat) (h : (cpy bl d k).length - d < (cpy bl d k).length) : cpy bl d (k + 1) = cpy bl d k ++ [(cpy bl d k)[(cpy bl d k).length - d]] := by
  conv => lhs; unfold cpy
  rw [List.getElem?_eq_getElem h, Option.getD_some]

end Go.Proofs.Ytemineffflodcaa
