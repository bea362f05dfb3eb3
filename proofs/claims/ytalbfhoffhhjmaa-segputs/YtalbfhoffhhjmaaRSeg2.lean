/-
  slices.Equal of records, slices.EqualFunc of segments and the reference's SameSegs, where both read alike. Condition: the rows can be read.
-/
import Derived.Test.YtalbfhoffhhjmaaSegB
import Derived.Deep.QuietTactic
import Derived.BigQuiet
import Derived.Shelf.Abstract
namespace Go.Proofs.Ytalbfhoffhhjmaa
open Go.RowKit
open Go.Proofs
open WoolBag
open WoolSeg
open Go.Shelf

def EqRel (s : List Rc) (w : World) (i : Value) (wr : World) : Prop := ∃ k : Nat, k ≤ s.length ∧ i = .int .i64 (k : Int) ∧ Up w wr

set_option maxRecDepth 100000 in
set_option maxHeartbeats 2000000 in
theorem equalR_yes (v u : Value) (s : List Rc) (w : World) (h : Recs w v s) (hu : Recs w u s) :
    Calls Try.prog 15 #[v, u] w fun e w' => e = .returned (.bool true) ∧ Up w w' := by
  have HX := Lib.hid h
  have HY := Lib.hid hu
  obtain ⟨o, c, rfl, h2, h3⟩ := h.slice
  obtain ⟨o', c', rfl, h2', h3'⟩ := hu.slice
  unfold maxLen at h3 h3'
  obtain ⟨n, hn⟩ : ∃ n, s.length = n := ⟨_, rfl⟩
  have HN := Lib.hid hn
  rw [hn] at h2 h2' HX HY ⊢
  clear h hu hn
  go_enter Try.func15, Try.ntmps15
  go_wp2_with fail
  go_loopw [5, 13] (fun _ i wr => EqRel s w i wr) (fun _ i _ => n - (intOf i).toNat)
  case atStart => exact ⟨0, Nat.zero_le _, rfl, Up.refl w⟩
  case round =>
    obtain ⟨k, hk, rfl, hup⟩ := hrel
    rw [HN.out] at hk
    have HU := Lib.hid hup
    by_cases hlt : k < n
    · have hks : k < s.length := by rw [HN.out]; exact hlt
      obtain ⟨b, off, rfl, hat⟩ := HX.out.at (by rintro rfl; simp at hks)
      obtain ⟨b', off', rfl, hat'⟩ := HY.out.at (by rintro rfl; simp at hks)
      obtain ⟨a0, a1, a2, a3⟩ := hat k hks
      obtain ⟨c0, c1, c2, c3⟩ := hat' k hks
      rw [← hup.cell (World.block_lt_of_cell? w _ a0)] at a0
      rw [← hup.cell (World.block_lt_of_cell? w _ a1)] at a1
      rw [← hup.cell (World.block_lt_of_cell? w _ a2)] at a2
      rw [← hup.cell (World.block_lt_of_cell? w _ a3)] at a3
      rw [← hup.cell (World.block_lt_of_cell? w _ c0)] at c0
      rw [← hup.cell (World.block_lt_of_cell? w _ c1)] at c1
      rw [← hup.cell (World.block_lt_of_cell? w _ c2)] at c2
      rw [← hup.cell (World.block_lt_of_cell? w _ c3)] at c3
      generalize s[k].1.1 = x0 at a0 c0
      generalize s[k].1.2.1 = x1 at a1 c1
      generalize s[k].1.2.2 = x2 at a2 c2
      generalize bs s[k].2 = x3 at a3 c3
      have d1 : decide (k < n) = true := decide_eq_true hlt
      have hk0 : (0 : Int) ≤ (k : Int) := Int.natCast_nonneg _
      have hkn : (k : Int) < (n : Int) := by omega
      clear hat hat' hup hks
      go_wp2_with fail
      go_quiet (fail)
      all_goals
        go_wp2_with fail
        go_roundw
        case rel => exact ⟨k + 1, by rw [HN.out]; omega, by go_num, HU.out.trans (Up.drewN _ _)⟩
        case measure => simp only [intOf]; omega
    · have d1 : decide (k < n) = false := decide_eq_false hlt
      clear hup
      go_wp2_with fail
      go_ret
      exact ⟨rfl, HU.out⟩

theorem sameSegs_in (v u : Value) (s : List Rc) (w : World) (h : Recs w v s) (hu : Recs w u s) :
    Calls Try.prog 46 #[v, u] w fun e w' => e = .returned (.bool true) ∧ Up w w' := by
  have HE := Lib.hid (equalR_yes v u s w h hu)
  obtain ⟨o, c, rfl, _, _⟩ := h.slice
  obtain ⟨o', c', rfl, _, _⟩ := hu.slice
  generalize s.length = n at HE ⊢
  clear h hu
  go_enter Try.func46, Try.ntmps46
  go_wp2_with fail
  refine HE.out.mono ?_
  rintro e w1 ⟨rfl, u1⟩
  go_wp2_with fail
  go_ret
  exact ⟨rfl, u1⟩

theorem eg_same : ∀ args w, (callFunc 46 args).run Try.prog w = .ok (.enter 46 args) w := enters_of Try.func46 (by kernel_rfl) rfl

def EfRel (l : List (List Rc)) (w : World) (i : Value) (wr : World) : Prop := ∃ k : Nat, k ≤ l.length ∧ i = .int .i64 (k : Int) ∧ Up w wr

set_option maxRecDepth 100000 in
set_option maxHeartbeats 2000000 in
theorem equalF_yes (v u : Value) (l : List (List Rc)) (w : World) (h : Sgs w v l) (hu : Sgs w u l) :
    Calls Try.prog 45 #[v, u, .func (.func 46) #[] #[]] w fun e w' => e = .returned (.bool true) ∧ Up w w' := by
  have eg := eg_same
  have HX := Lib.hid h
  have HY := Lib.hid hu
  obtain ⟨o, c, rfl, h2, h3⟩ := h.slice
  obtain ⟨o', c', rfl, h2', h3'⟩ := hu.slice
  unfold maxLen at h3 h3'
  obtain ⟨n, hn⟩ : ∃ n, l.length = n := ⟨_, rfl⟩
  have HN := Lib.hid hn
  rw [hn] at h2 h2' HX HY ⊢
  clear h hu hn
  go_enter Try.func45, Try.ntmps45
  go_wp2_with fail
  go_loopw [7, 17] (fun _ i wr => EfRel l w i wr) (fun _ i _ => n - (intOf i).toNat)
  case atStart => exact ⟨0, Nat.zero_le _, rfl, Up.refl w⟩
  case round =>
    obtain ⟨k, hk, rfl, hup⟩ := hrel
    rw [HN.out] at hk
    have HU := Lib.hid hup
    by_cases hlt : k < n
    · have hks : k < l.length := by rw [HN.out]; exact hlt
      obtain ⟨b, off, rfl, hat⟩ := HX.out.at (by rintro rfl; simp at hks)
      obtain ⟨b', off', rfl, hat'⟩ := HY.out.at (by rintro rfl; simp at hks)
      obtain ⟨x, a0, hx⟩ := hat k hks
      obtain ⟨y, c0, hy⟩ := hat' k hks
      rw [← hup.cell (World.block_lt_of_cell? w _ a0)] at a0
      rw [← hup.cell (World.block_lt_of_cell? w _ c0)] at c0
      have HIN := Lib.hid (sameSegs_in x y l[k] wr (hx.up hup) (hy.up hup))
      obtain ⟨ox, cx, hxv, _, _⟩ := hx.slice
      obtain ⟨oy, cy, hyv, _, _⟩ := hy.slice
      generalize l[k].length = m at hxv hyv
      subst hxv hyv
      have d1 : decide (k < n) = true := decide_eq_true hlt
      clear hat hat' hup hx hy
      go_wp2_with fail
      refine HIN.out.mono ?_
      rintro e w1 ⟨rfl, u1⟩
      have HU1 := Lib.hid (HU.out.trans u1)
      clear u1
      go_wp2_with fail
      go_roundw
      case rel => exact ⟨k + 1, by rw [HN.out]; omega, by go_num, HU1.out⟩
      case measure => simp only [intOf]; omega
    · have d1 : decide (k < n) = false := decide_eq_false hlt
      clear hup
      go_wp2_with fail
      go_ret
      exact ⟨rfl, HU.out⟩

set_option maxRecDepth 100000 in
theorem sameSegs_yes (v u : Value) (l : List (List Rc)) (w : World) (h : Sgs w v l) (hu : Sgs w u l) :
    Calls Try.prog 25 #[v, u] w fun e w' => e = .returned (.bool true) ∧ Up w w' := by
  have HE := Lib.hid (equalF_yes v u l w h hu)
  obtain ⟨o, c, rfl, _, _⟩ := h.slice
  obtain ⟨o', c', rfl, _, _⟩ := hu.slice
  generalize l.length = n at HE ⊢
  clear h hu
  go_enter Try.func25, Try.ntmps25
  go_wp2_with fail
  refine HE.out.mono ?_
  rintro e w1 ⟨rfl, u1⟩
  go_wp2_with fail
  go_ret
  exact ⟨rfl, u1⟩

end Go.Proofs.Ytalbfhoffhhjmaa
