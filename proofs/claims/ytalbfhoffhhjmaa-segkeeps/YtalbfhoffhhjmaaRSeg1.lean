/-
  What the reference's Takes and Segs return. Conditions: the rows can be read, and their lengths fit.
-/
import Derived.Test.YtalbfhoffhhjmaaSegB
namespace Go.Proofs.Ytalbfhoffhhjmaa
open Go.RowKit
open Go.Proofs
open WoolBag
open WoolSeg

def sumT (s : List Rc) : Nat := (s.map fun r => r.2.length).sum
theorem sumT_step {s : List Rc} {k : Nat} (h : k < s.length) : sumT (s.take (k + 1)) = sumT (s.take k) + s[k].2.length := by
  unfold sumT
  rw [List.take_succ_eq_append_getElem h, List.map_append, List.sum_append]
  simp
theorem sumT_le (s : List Rc) (k : Nat) : sumT (s.take k) ≤ sumT s := by
  unfold sumT
  conv => rhs; rw [← List.take_append_drop k s, List.map_append, List.sum_append]
  omega

def TkRel (s : List Rc) (w : World) (n i : Value) (wr : World) : Prop :=
  ∃ k : Nat, k ≤ s.length ∧ i = .int .i64 (k : Int) ∧ n = .int .i64 ((8 * s.length + sumT (s.take k) : Nat) : Int) ∧ Up w wr

set_option maxRecDepth 100000 in
set_option maxHeartbeats 1000000 in
theorem refTakes_any (v : Value) (s : List Rc) (w : World) (h : Recs w v s) (ht : takes s ≤ 4611686018427387904) :
    Calls Try.prog 13 #[v] w fun e w' => e = .returned (.int .i64 ((takes s : Nat) : Int)) ∧ Up w w' := by
  have HX := Lib.hid h
  obtain ⟨o, c, rfl, h2, h3⟩ := h.slice
  unfold maxLen at h3
  obtain ⟨T, hT⟩ : ∃ T, takes s = T := ⟨_, rfl⟩
  rw [hT] at ht ⊢
  have hform := takes_form s
  rw [hT] at hform
  have HTF : Hid (T = 8 * s.length + sumT s) := hform
  have hform2 : T = 8 * s.length + sumT s := hform
  have p0 : IntKind.i64.wrap (8 * (s.length : Int)) = ((8 * s.length : Nat) : Int) := by rw [show (8 : Int) * (s.length : Int) = ((8 * s.length : Nat) : Int) by omega]; exact IntWalk.i64_in _ (by omega)
  have hst0 : sumT (s.take 0) = 0 := rfl
  have HS0 := Lib.hid hst0
  clear h hT hform hst0
  go_enter Try.func13, Try.ntmps13
  go_wp2_with fail
  go_loopw [3, 11] (fun n i wr => TkRel s w n i wr) (fun _ i _ => s.length - (intOf i).toNat)
  case atStart => exact ⟨0, Nat.zero_le _, rfl, congrArg (Value.int IntKind.i64) (by rw [HS0.out]; omega), Up.refl w⟩
  case round =>
    obtain ⟨k, hk, rfl, rfl, hu⟩ := hrel
    by_cases hlt : k < s.length
    · obtain ⟨b, off, rfl, hat⟩ := HX.out.at (by rintro rfl; simp at hlt)
      obtain ⟨a0, a1, a2, a3⟩ := hat k hlt
      rw [← hu.cell (World.block_lt_of_cell? w _ a0)] at a0
      rw [← hu.cell (World.block_lt_of_cell? w _ a1)] at a1
      rw [← hu.cell (World.block_lt_of_cell? w _ a2)] at a2
      rw [← hu.cell (World.block_lt_of_cell? w _ a3)] at a3
      have hst := sumT_step hlt
      have hle := sumT_le s (k + 1)
      have hsz := bs_size s[k].2
      have d1 : decide (k < s.length) = true := decide_eq_true hlt
      have HU := Lib.hid hu
      obtain ⟨q, hq⟩ : ∃ q, 8 * s.length + sumT (s.take k) = q := ⟨_, rfl⟩
      obtain ⟨q1, hq1⟩ : ∃ q1, 8 * s.length + sumT (s.take (k + 1)) = q1 := ⟨_, rfl⟩
      have HQ1 := Lib.hid hq1
      obtain ⟨L, hL⟩ : ∃ L, s[k].2.length = L := ⟨_, rfl⟩
      rw [hL] at hst hsz
      have hqq : q1 = q + L := by omega
      have hq1T : q1 ≤ T := by omega
      rw [hq]
      generalize s[k].1.1 = x0 at a0
      generalize s[k].1.2.1 = x1 at a1
      generalize s[k].1.2.2 = x2 at a2
      generalize bs s[k].2 = x3 at a3 hsz
      have p2 : IntKind.i64.wrap ((q : Int) + (x3.size : Int)) = (q1 : Int) := by rw [hsz, show (q : Int) + (L : Int) = (q1 : Int) by omega]; exact IntWalk.i64_in _ (by omega)
      clear hu hat hq hq1 hL hst hle hform2 p0
      go_wp2_with fail
      go_roundw
      case rel => exact ⟨k + 1, by omega, by go_num, congrArg (Value.int IntKind.i64) (by rw [HQ1.out]; omega), HU.out.trans (Up.alloc _ _)⟩
      case measure => simp only [intOf]; omega
    · have d1 : decide (k < s.length) = false := decide_eq_false hlt
      have hks : s.take k = s := List.take_of_length_le (by omega)
      rw [hks, ← HTF.out]
      clear hks hform2 p0
      go_wp2_with fail
      go_ret
      exact ⟨rfl, hu⟩

def RsRel (l : List (List Rc)) (w : World) (i : Value) (wr : World) : Prop :=
  ∃ k : Nat, k ≤ l.length ∧ i = .int .i64 (k : Int) ∧ Up w wr ∧ errSs l = errSs (l.drop k)

theorem errR_form {r : Rc} (h : r.1.1 = false) : errR r = 3 := by unfold errR; rw [if_pos h]
theorem errR_large {r : Rc} (h : r.1.1 = true) (h2 : 64 < r.2.length) : errR r = 2 := by unfold errR; rw [if_neg (by simp [h]), if_pos h2]

end Go.Proofs.Ytalbfhoffhhjmaa
