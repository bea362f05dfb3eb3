/-
  slices.Equal of ints that are alike; the law SegKeeps's sum. Conditions: the rows can be read.
-/
import Derived.Test.YtalbfhoffhhjmaaSegQ
import Derived.Deep.QuietTactic
import Derived.BigQuiet
namespace Go.Proofs.Ytalbfhoffhhjmaa
open Go.RowKit
open Go.Proofs
open WoolBag
open WoolSeg

def EnRelN (A : List Nat) (w : World) (i : Value) (wr : World) : Prop := ∃ k : Nat, k ≤ A.length ∧ i = .int .i64 (k : Int) ∧ Up w wr

set_option maxRecDepth 100000 in
set_option maxHeartbeats 2000000 in
theorem equalN_yes (v u : Value) (A : List Nat) (w : World) (h : Ns w v A) (hu : Ns w u A) (hl : A.length ≤ 100) :
    Calls Try.prog 10 #[v, u] w fun e w' => e = .returned (.bool true) ∧ Up w w' := by
  have HX := Lib.hid h
  have HY := Lib.hid hu
  obtain ⟨o, c, rfl, h2, h3⟩ := h.slice
  obtain ⟨o', c', rfl, h2', h3'⟩ := hu.slice
  obtain ⟨n, hn⟩ : ∃ n, A.length = n := ⟨_, rfl⟩
  have HN := Lib.hid hn
  rw [hn] at h2 h2' hl HX HY ⊢
  clear h hu hn h3 h3'
  go_enter Try.func10, Try.ntmps10
  go_wp2_with fail
  go_loopw [5, 13] (fun _ i wr => EnRelN A w i wr) (fun _ i _ => n - (intOf i).toNat)
  case atStart => exact ⟨0, Nat.zero_le _, rfl, Up.refl w⟩
  case round =>
    obtain ⟨k, hk, rfl, hup⟩ := hrel
    rw [HN.out] at hk
    have HU := Lib.hid hup
    by_cases hlt : k < n
    · have hks : k < A.length := by rw [HN.out]; exact hlt
      obtain ⟨b, off, rfl, hat⟩ := HX.out.at (by rintro rfl; simp at hks)
      obtain ⟨b', off', rfl, hat'⟩ := HY.out.at (by rintro rfl; simp at hks)
      have a0 := hat k hks
      have c0 := hat' k hks
      rw [← hup.cell (World.block_lt_of_cell? w _ a0)] at a0
      rw [← hup.cell (World.block_lt_of_cell? w _ c0)] at c0
      generalize A[k] = x at a0 c0
      have d1 : decide (k < n) = true := decide_eq_true hlt
      have hk0 : (0 : Int) ≤ (k : Int) := Int.natCast_nonneg _
      have hkn : (k : Int) < (n : Int) := by omega
      clear hat hat' hup
      go_wp2_with fail
      first
        | (go_roundw
           case rel => exact ⟨k + 1, by rw [HN.out]; omega, by go_num, HU.out⟩
           case measure => simp only [intOf]; omega)
        | (go_quiet (fail)
           all_goals
             go_wp2_with fail
             go_roundw
             case rel => exact ⟨k + 1, by rw [HN.out]; omega, by go_num, HU.out.trans (Up.drewN _ _)⟩
             case measure => simp only [intOf]; omega)
    · have d1 : decide (k < n) = false := decide_eq_false hlt
      clear hup
      go_wp2_with fail
      go_ret
      exact ⟨rfl, HU.out⟩

theorem sum_step {A : List Nat} {k : Nat} (h : k < A.length) : (A.take (k + 1)).sum = (A.take k).sum + A[k] := by
  rw [List.take_succ_eq_append_getElem h, List.sum_append]
  simp
theorem sum_le (A : List Nat) (k : Nat) : (A.take k).sum ≤ A.sum := by
  conv => rhs; rw [← List.take_append_drop k A, List.sum_append]
  omega

def SumNRel (A : List Nat) (w : World) (s i : Value) (wr : World) : Prop := ∃ k : Nat, k ≤ A.length ∧ i = .int .i64 (k : Int) ∧ s = .int .i64 (((A.take k).sum : Nat) : Int) ∧ w = wr

set_option maxRecDepth 100000 in
set_option maxHeartbeats 1000000 in
theorem sum1_any (v : Value) (A : List Nat) (w : World) (h : Ns w v A) (hs : A.sum ≤ 1000000) :
    Calls Try.prog 14 #[v] w fun e w' => e = .returned (.int .i64 ((A.sum : Nat) : Int)) ∧ Up w w' := by
  have HX := Lib.hid h
  obtain ⟨o, c, rfl, h2, h3⟩ := h.slice
  unfold maxLen at h3
  obtain ⟨n, hn⟩ : ∃ n, A.length = n := ⟨_, rfl⟩
  have HN := Lib.hid hn
  rw [hn] at h2 HX ⊢
  obtain ⟨T, hT⟩ : ∃ T, A.sum = T := ⟨_, rfl⟩
  have HT := Lib.hid hT
  rw [hT] at hs ⊢
  clear h hn hT
  go_enter Try.func14, Try.ntmps14
  go_wp2_with fail
  go_loopw [3, 8] (fun s i wr => SumNRel A w s i wr) (fun _ i _ => n - (intOf i).toNat)
  case atStart => exact ⟨0, Nat.zero_le _, rfl, rfl, rfl⟩
  case round =>
    obtain ⟨k, hk, rfl, rfl, rfl⟩ := hrel
    rw [HN.out] at hk
    by_cases hlt : k < n
    · have hks : k < A.length := by rw [HN.out]; exact hlt
      obtain ⟨b, off, rfl, hat⟩ := HX.out.at (by rintro rfl; simp at hks)
      have a0 := hat k hks
      have hst := sum_step hks
      have hle := sum_le A (k + 1)
      rw [HT.out] at hle
      obtain ⟨q1, hq1⟩ : ∃ q1, (A.take (k + 1)).sum = q1 := ⟨_, rfl⟩
      have HQ := Lib.hid hq1
      rw [hq1] at hst hle
      generalize A[k] = x at a0 hst
      generalize (A.take k).sum = q at hst ⊢
      have p1 : IntKind.i64.wrap ((q : Int) + (x : Int)) = (q1 : Int) := by rw [show (q : Int) + (x : Int) = (q1 : Int) by omega]; exact IntWalk.i64_in _ (by omega)
      have d1 : decide (k < n) = true := decide_eq_true hlt
      clear hat hq1
      go_wp2_with fail
      go_roundw
      case rel => exact ⟨k + 1, by rw [HN.out]; omega, by go_num, congrArg (Value.int IntKind.i64) (by rw [HQ.out]; omega), rfl⟩
      case measure => simp only [intOf]; omega
    · have d1 : decide (k < n) = false := decide_eq_false hlt
      rw [List.take_of_length_le (by rw [HN.out]; omega), HT.out]
      go_wp2_with fail
      go_ret
      exact ⟨rfl, Up.refl _⟩

end Go.Proofs.Ytalbfhoffhhjmaa
