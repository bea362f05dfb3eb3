/-
  What tokenAt of package lz returns: the token of the greedy parse at a place. Conditions: as it says.
-/
import Derived.Test.YtemineffflodcaaJListsOwn34
import Derived.Test.YtemineffflodcaaJListsOwn35
namespace Go.Proofs.Ytemineffflodcaa
open Go.RowKit
open Go.Proofs
open WoolLz
open WoolMatch

theorem wrap_byte (x : UInt8) : wrap64 (x.toNat : Int) = (x.toNat : Int) := by
  have := UInt8.toNat_lt x
  unfold wrap64
  omega

set_option maxRecDepth 100000 in
set_option maxHeartbeats 400000 in
theorem tokenAt_any (s : ByteArray) (i W : Nat) (w : World) (hs : s.size ≤ 600) (hi : i < s.size) (h1 : 1 ≤ W) (h2 : W ≤ 256) :
    Calls Try.prog 49 #[.string s, .int .i64 (i : Int), .int .i64 (W : Int)] w fun e w' =>
      e = .returned (.agg #[.int .i64 (tokAt s.data.toList i W).d, .int .i64 (tokAt s.data.toList i W).l, .int .i64 (tokAt s.data.toList i W).b]) ∧ Up w w' := by
  obtain ⟨x, q1⟩ : ∃ x, s.data.toList[i]? = some x := ⟨_, list_at s i hi⟩
  have r1 := str_index s (i : Int) i x rfl q1
  have hwx := wrap_byte x
  have ht : tokAt s.data.toList i W = if (long s.data.toList i W).2 < 2 then ⟨0, 0, (x.toNat : Int)⟩ else ⟨(long s.data.toList i W).1, (long s.data.toList i W).2, 0⟩ := by
    unfold tokAt byt
    rw [q1]
    rfl
  generalize tokAt s.data.toList i W = T at *
  have HT := Lib.hid ht
  clear ht q1
  go_enter Try.func49, Try.ntmps49
  go_wp2_with fail
  refine (longest_ok s i W _ hs (by omega) h1 h2).mono ?_
  rintro e w1 ⟨rfl, u1⟩
  have hsz : w.heap.size < w1.heap.size := by have := u1.size; simp at this; omega
  have hbx : Box3 w1 w.heap.size 49 (.int .i64 0) (.int .i64 0) (.int .i64 0) := Box3.below (Box3.new w _ _ _ _) u1 (by simp)
  have U1 := Lib.hid (Up.after _ _ _ u1)
  have hfz : ∀ k, w1.frozen? ⟨w.heap.size, k, none⟩ = false := fun k => by
    unfold Box3 at hbx
    simp [World.frozen?, hbx]
  obtain ⟨c0, c1, c2⟩ := hbx.cells
  clear u1
  have ht := HT.out
  clear HT
  obtain ⟨X, hX⟩ : ∃ X, (long s.data.toList i W).1 = X := ⟨_, rfl⟩
  obtain ⟨Y, hY⟩ : ∃ Y, (long s.data.toList i W).2 = Y := ⟨_, rfl⟩
  rw [hX, hY] at ht ⊢
  clear hX hY
  by_cases h0 : Y < 2
  · have g0 : decide ((Y : Int) < 2) = true := by rw [decide_eq_true_iff]; omega
    rw [if_pos h0] at ht
    subst ht
    go_wp2_with fail
    have hb2 := hbx.set (.int .i64 0) (.int .i64 0) (.int .i64 (x.toNat : Int))
    have hu2 := set3_up U1.out (.int .i64 0) (.int .i64 0) (.int .i64 (x.toNat : Int))
    obtain ⟨w2, hw2⟩ : ∃ w2, ((w1.setCell ⟨w.heap.size, 0, none⟩ (.int .i64 0)).setCell ⟨w.heap.size, 1, none⟩ (.int .i64 0)).setCell ⟨w.heap.size, 2, none⟩ (.int .i64 (x.toNat : Int)) = w2 := ⟨_, rfl⟩
    rw [hw2] at hb2 hu2 ⊢
    obtain ⟨e0, e1, e2⟩ := hb2.cells
    exact bodyPost_ret (v := .agg #[.int .i64 0, .int .i64 0, .int .i64 (x.toNat : Int)]) (by simp [results, Try.results49, go_sem, e0, e1, e2]) rfl ⟨rfl, hu2⟩
  · have g0 : decide ((Y : Int) < 2) = false := by rw [decide_eq_false_iff_not]; omega
    rw [if_neg h0] at ht
    subst ht
    go_wp2_with fail
    have hb2 := hbx.set (.int .i64 (X : Int)) (.int .i64 (Y : Int)) (.int .i64 0)
    have hu2 := set3_up U1.out (.int .i64 (X : Int)) (.int .i64 (Y : Int)) (.int .i64 0)
    obtain ⟨w2, hw2⟩ : ∃ w2, ((w1.setCell ⟨w.heap.size, 0, none⟩ (.int .i64 (X : Int))).setCell ⟨w.heap.size, 1, none⟩ (.int .i64 (Y : Int))).setCell ⟨w.heap.size, 2, none⟩ (.int .i64 0) = w2 := ⟨_, rfl⟩
    rw [hw2] at hb2 hu2 ⊢
    obtain ⟨e0, e1, e2⟩ := hb2.cells
    exact bodyPost_ret (v := .agg #[.int .i64 (X : Int), .int .i64 (Y : Int), .int .i64 0]) (by simp [results, Try.results49, go_sem, e0, e1, e2]) rfl ⟨rfl, hu2⟩

end Go.Proofs.Ytemineffflodcaa
