/-
  What the helpers of the laws on bags return: two, refs, used, and slices.Equal of two rows of items that read alike. Conditions: as each says.
-/
import Derived.Test.YtjklecglecpflaaGreatDoorBagC
import Derived.Test.YtjklecglecpflaaGreatDoorBagP
namespace Go.Proofs.YtjklecglecpflaaGreatDoor
open Go.RowKit
open Go.Proofs
open WoolBag

/-- the two blocks -/
def one1 : List Itm := (WoolBag.put FP [] [97]).1
def twoL : List Itm := (WoolBag.put FP one1 [98]).1

theorem one_put : ∃ i, WoolBag.put FP [] [97] = (one1, i, 0) ∧ ∀ x ∈ one1, x.t = [97] := by
  have h := put_new (F := FP) (l := []) (t := [97]) Bag.nil (by simp) (by simp) (by simp)
  refine ⟨idOf (new FP [] [97]), ?_, ?_⟩
  · unfold one1; rw [h]
  · unfold one1; rw [h]
    intro x hx
    rcases mem_ins.1 hx with rfl | hx
    · rfl
    · simp at hx

theorem one_len : one1.length = 1 := by
  obtain ⟨i, h, _⟩ := one_put
  rw [length_put h, if_neg (by simp)]; rfl

theorem two_put : ∃ i, WoolBag.put FP one1 [98] = (twoL, i, 0) := by
  obtain ⟨i, h, ht⟩ := one_put
  have h2 := put_new (F := FP) (l := one1) (t := [98]) (put_spec h).1 (by simp) (fun x hx e => by rw [ht x hx] at e; cases e) (by rw [one_len]; omega)
  exact ⟨idOf (new FP one1 [98]), by unfold twoL; rw [h2]⟩

theorem two_bag : Bag FP twoL := by
  obtain ⟨i, h⟩ := two_put
  exact (put_spec h).1

theorem two_len : twoL.length = 2 := by
  obtain ⟨i, h⟩ := two_put
  obtain ⟨j, h1, ht⟩ := one_put
  rw [length_put h, one_len, if_neg (by rintro ⟨x, hx, e⟩; rw [ht x hx] at e; cases e)]

def EqIRel (N : Nat) (w : World) (i : Value) (wr : World) : Prop := ∃ k : Nat, k ≤ N ∧ i = .int .i64 k ∧ Up w wr

set_option maxRecDepth 100000 in
set_option maxHeartbeats 400000 in
theorem equalI_yes (v1 v2 : Value) (l : List Itm) (w : World) (h1 : Items w v1 l) (h2 : Items w v2 l) :
    Calls Tryz.prog 38 #[v1, v2] w fun e w' => e = .returned (.bool true) ∧ Up w w' := by
  obtain ⟨o1, c1, rfl, p1, p2, p3⟩ := h1
  obtain ⟨o2, c2, rfl, q1, q2, q3⟩ := h2
  have HP := Lib.hid p3
  have HQ := Lib.hid q3
  unfold maxLen at p2 q2
  clear p3 q3
  go_enter Tryz.func38, Tryz.ntmps38
  go_wp2_with fail
  go_loopw [13] (fun i wr => EqIRel l.length w i wr) (fun i _ => l.length - (intOf i).toNat)
  case atStart => exact ⟨0, Nat.zero_le _, rfl, Up.refl w⟩
  case round =>
    obtain ⟨k, hk, rfl, hu⟩ := hrel
    by_cases hlt : k < l.length
    · rcases HP.out with h5 | ⟨b, off, rfl, h5⟩
      · rw [h5] at hlt; simp at hlt
      · rcases HQ.out with h6 | ⟨b', off', rfl, h6⟩
        · rw [h6] at hlt; simp at hlt
        · obtain ⟨e1, e2, e3, e4⟩ := h5 k hlt
          rw [← hu.cell (World.block_lt_of_cell? w _ e1)] at e1
          rw [← hu.cell (World.block_lt_of_cell? w _ e2)] at e2
          rw [← hu.cell (World.block_lt_of_cell? w _ e3)] at e3
          rw [← hu.cell (World.block_lt_of_cell? w _ e4)] at e4
          obtain ⟨f1, f2, f3, f4⟩ := h6 k hlt
          rw [← hu.cell (World.block_lt_of_cell? w _ f1)] at f1
          rw [← hu.cell (World.block_lt_of_cell? w _ f2)] at f2
          rw [← hu.cell (World.block_lt_of_cell? w _ f3)] at f3
          rw [← hu.cell (World.block_lt_of_cell? w _ f4)] at f4
          generalize l[k].s = xs at e1 f1
          generalize l[k].n = xn at e2 f2
          generalize bs l[k].t = xt at e3 f3
          generalize l[k].r = xr at e4 f4
          have HU := Lib.hid hu
          have d1 : decide (k < l.length) = true := decide_eq_true hlt
          clear h5 h6 hu
          go_wp2_with fail
          go_quiet (fail)
          go_wp2_with fail
          go_roundw
          case rel => exact ⟨k + 1, by omega, by go_num, HU.out.trans (Up.drewN _ _)⟩
          case measure => simp only [intOf]; omega
    · have d1 : decide (k < l.length) = false := decide_eq_false hlt
      go_wp2_with fail
      go_ret
      exact ⟨rfl, hu⟩

def RefsRel (l : List Itm) (w : World) (n i : Value) (wr : World) : Prop :=
  ∃ k : Nat, k ≤ l.length ∧ i = .int .i64 k ∧ n = .int .i64 (refs (l.take k)) ∧ Up w wr

def UsedRel (l : List Itm) (u : List UInt8) (w : World) (i : Value) (wr : World) : Prop :=
  ∃ k : Nat, k ≤ l.length ∧ i = .int .i64 k ∧ Up w wr ∧ ∀ j (h : j < l.length), j < k → txtB u l[j] = false

end Go.Proofs.YtjklecglecpflaaGreatDoor
