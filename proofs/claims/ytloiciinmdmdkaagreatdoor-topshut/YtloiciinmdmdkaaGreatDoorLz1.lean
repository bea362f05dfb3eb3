/-
  What size, isLiteral, isCopy and check of package lz return, for every token. Conditions: the token's numbers are ints.
-/
import Derived.Test.YtloiciinmdmdkaaGreatDoorUp
import Derived.Test.YtloiciinmdmdkaaGreatDoorLzM
import Derived.Laws.Rows
import Derived.Laws.OwnMore
namespace Go.Proofs.YtloiciinmdmdkaaGreatDoor
open Go.RowKit
open Go.Proofs
open WoolLz

theorem size_any (d l b : Int) (w : World) :
    Calls Tryz.prog 56 #[.agg #[.int .i64 d, .int .i64 l, .int .i64 b]] w fun e w' => e = .returned (.int .i64 (max l 1)) ∧ Up w w' := by
  go_enter Tryz.func56, Tryz.ntmps56
  go_wp2_with fail
  go_ret
  exact ⟨rfl, Up.alloc _ _⟩

set_option maxRecDepth 100000 in
theorem isLiteral_any (d l b : Int) (w : World) :
    Calls Tryz.prog 80 #[.agg #[.int .i64 d, .int .i64 l, .int .i64 b]] w fun e w' => e = .returned (.bool (litB ⟨d, l, b⟩)) ∧ Up w w' := by
  generalize hB : litB ⟨d, l, b⟩ = B
  unfold litB at hB
  have hB' : decide (l = 0 ∧ d = 0 ∧ 0 ≤ b ∧ b ≤ 255) = B := hB
  clear hB
  by_cases h1 : l = 0
  · have g1 : (l == 0) = true := by rw [beq_iff_eq]; exact h1
    by_cases h2 : d = 0
    · have g2 : (d == 0) = true := by rw [beq_iff_eq]; exact h2
      by_cases h3 : 0 ≤ b
      · have g3 : decide (0 ≤ b) = true := decide_eq_true h3
        obtain rfl : decide (b ≤ 255) = B := by rw [← hB', Bool.eq_iff_iff, decide_eq_true_iff, decide_eq_true_iff]; omega
        clear hB' h1 h2
        go_enter Tryz.func80, Tryz.ntmps80
        go_wp2_with fail
        go_ret
        exact ⟨rfl, Up.alloc _ _⟩
      · have g3 : decide (0 ≤ b) = false := decide_eq_false h3
        obtain rfl : false = B := by rw [← hB']; symm; rw [decide_eq_false_iff_not]; omega
        clear hB' h1 h2
        go_enter Tryz.func80, Tryz.ntmps80
        go_wp2_with fail
        go_ret
        exact ⟨rfl, Up.alloc _ _⟩
    · have g2 : (d == 0) = false := by rw [beq_eq_false_iff_ne]; exact h2
      obtain rfl : false = B := by rw [← hB']; symm; rw [decide_eq_false_iff_not]; omega
      clear hB' h1 h2
      go_enter Tryz.func80, Tryz.ntmps80
      go_wp2_with fail
      go_ret
      exact ⟨rfl, Up.alloc _ _⟩
  · have g1 : (l == 0) = false := by rw [beq_eq_false_iff_ne]; exact h1
    obtain rfl : false = B := by rw [← hB']; symm; rw [decide_eq_false_iff_not]; omega
    clear hB' h1
    go_enter Tryz.func80, Tryz.ntmps80
    go_wp2_with fail
    go_ret
    exact ⟨rfl, Up.alloc _ _⟩

set_option maxRecDepth 100000 in
theorem isCopy_any (d l b : Int) (w : World) :
    Calls Tryz.prog 81 #[.agg #[.int .i64 d, .int .i64 l, .int .i64 b]] w fun e w' => e = .returned (.bool (copB ⟨d, l, b⟩)) ∧ Up w w' := by
  generalize hB : copB ⟨d, l, b⟩ = B
  unfold copB at hB
  have hB' : decide (1 ≤ l ∧ l ≤ 64 ∧ 1 ≤ d ∧ d ≤ 256 ∧ b = 0) = B := hB
  clear hB
  by_cases h1 : 1 ≤ l
  · have g1 : decide (1 ≤ l) = true := decide_eq_true h1
    by_cases h2 : l ≤ 64
    · have g2 : decide (l ≤ 64) = true := decide_eq_true h2
      by_cases h3 : 1 ≤ d
      · have g3 : decide (1 ≤ d) = true := decide_eq_true h3
        by_cases h4 : d ≤ 256
        · have g4 : decide (d ≤ 256) = true := decide_eq_true h4
          obtain rfl : (b == 0) = B := by rw [← hB', Bool.eq_iff_iff, decide_eq_true_iff, beq_iff_eq]; omega
          clear hB'
          go_enter Tryz.func81, Tryz.ntmps81
          go_wp2_with fail
          go_ret
          exact ⟨rfl, Up.alloc _ _⟩
        · have g4 : decide (d ≤ 256) = false := decide_eq_false h4
          obtain rfl : false = B := by rw [← hB']; symm; rw [decide_eq_false_iff_not]; omega
          clear hB'
          go_enter Tryz.func81, Tryz.ntmps81
          go_wp2_with fail
          go_ret
          exact ⟨rfl, Up.alloc _ _⟩
      · have g3 : decide (1 ≤ d) = false := decide_eq_false h3
        obtain rfl : false = B := by rw [← hB']; symm; rw [decide_eq_false_iff_not]; omega
        clear hB'
        go_enter Tryz.func81, Tryz.ntmps81
        go_wp2_with fail
        go_ret
        exact ⟨rfl, Up.alloc _ _⟩
    · have g2 : decide (l ≤ 64) = false := decide_eq_false h2
      obtain rfl : false = B := by rw [← hB']; symm; rw [decide_eq_false_iff_not]; omega
      clear hB'
      go_enter Tryz.func81, Tryz.ntmps81
      go_wp2_with fail
      go_ret
      exact ⟨rfl, Up.alloc _ _⟩
  · have g1 : decide (1 ≤ l) = false := decide_eq_false h1
    obtain rfl : false = B := by rw [← hB']; symm; rw [decide_eq_false_iff_not]; omega
    clear hB'
    go_enter Tryz.func81, Tryz.ntmps81
    go_wp2_with fail
    go_ret
    exact ⟨rfl, Up.alloc _ _⟩

theorem err_eq (d l b : Int) (n : Nat) : err ⟨d, l, b⟩ n = if litB ⟨d, l, b⟩ = false ∧ copB ⟨d, l, b⟩ = false then 1 else if (n : Int) < d then 3 else if 600 < (n : Int) + max l 1 then 2 else 0 := rfl

/-- old cells read as before -/
theorem Up.same {w w1 : World} (hb : Up w w1) : (∀ b o, b < w.heap.size → w1.cell? ⟨b, o, none⟩ = w.cell? ⟨b, o, none⟩) :=
  fun b o h => Below.cell hb (p := ⟨b, o, none⟩) h

theorem new_cells (w : World) (x y z : Value) (t : TypeId) (w1 : World) (hb : Up (w.alloc (.cells #[x, y, z] t)) w1) :
    w1.cell? ⟨w.heap.size, 0, none⟩ = some x ∧ w1.cell? ⟨w.heap.size, 1, none⟩ = some y ∧ w1.cell? ⟨w.heap.size, 2, none⟩ = some z := by
  have hlt : w.heap.size < (w.alloc (.cells #[x, y, z] t)).heap.size := by simp
  have h : ∀ k, (w.alloc (.cells #[x, y, z] t)).cell? ⟨w.heap.size, k, none⟩ = #[x, y, z][k]? := fun k => cell_of_row _ _ k _ _ _ (heap_alloc_new w _)
  refine ⟨?_, ?_, ?_⟩
  · rw [hb.same _ _ hlt, h]; rfl
  · rw [hb.same _ _ hlt, h]; rfl
  · rw [hb.same _ _ hlt, h]; rfl

set_option maxRecDepth 100000 in
set_option maxHeartbeats 400000 in
theorem check_tok (d l b : Int) (n : Nat) (w : World) (hn : n ≤ 600) :
    Calls Tryz.prog 57 #[.agg #[.int .i64 d, .int .i64 l, .int .i64 b], .int .i64 (n : Int)] w fun e w' => e = .returned (.int .i64 (err ⟨d, l, b⟩ n)) ∧ Up w w' := by
  generalize hE : err ⟨d, l, b⟩ n = E
  rw [err_eq] at hE
  have HE := Lib.hid hE
  clear hE
  go_enter Tryz.func57, Tryz.ntmps57
  go_wp2_with fail
  refine (isLiteral_any d l b _).mono ?_
  rintro e w1 ⟨rfl, u1⟩
  obtain ⟨c0, c1, c2⟩ := new_cells _ _ _ _ _ _ u1
  have U1 := Lib.hid (Up.after _ _ _ u1)
  have U1' := Lib.hid u1
  clear u1
  cases hlit : litB ⟨d, l, b⟩ with
  | true =>
    have hE := HE.out
    rw [if_neg (by rw [hlit]; intro h; cases h.1)] at hE
    have HT := Lib.hid (show l ≤ 64 from (tok_l ⟨d, l, b⟩ (.inl hlit)).2.1)
    clear hlit HE
    by_cases h2 : (n : Int) < d
    · have g2 : decide ((n : Int) < d) = true := decide_eq_true h2
      rw [if_pos h2] at hE
      subst hE
      go_wp2_with fail
      go_ret
      exact ⟨rfl, U1.out⟩
    · have g2 : decide ((n : Int) < d) = false := decide_eq_false h2
      rw [if_neg h2] at hE
      have hl64 := HT.out
      have HE2 := Lib.hid hE
      clear hE
      go_wp2_with fail
      refine (size_any d l b _).mono ?_
      rintro e w9 ⟨rfl, u9⟩
      have U9 := Lib.hid (U1.out.trans u9)
      have hE := HE2.out
      clear u9 HE2
      obtain ⟨m, hm⟩ : ∃ m, max l 1 = m := ⟨_, rfl⟩
      have hm1 : 1 ≤ m := by omega
      have hm2 : m ≤ 64 := by omega
      rw [hm] at hE ⊢
      clear hm
      by_cases h3 : 600 < (n : Int) + m
      · have g3 : decide (600 < (n : Int) + m) = true := decide_eq_true h3
        rw [if_pos h3] at hE
        subst hE
        go_wp2_with fail
        go_ret
        exact ⟨rfl, U9.out⟩
      · have g3 : decide (600 < (n : Int) + m) = false := decide_eq_false h3
        rw [if_neg h3] at hE
        subst hE
        go_wp2_with fail
        go_ret
        exact ⟨rfl, U9.out⟩
  | false =>
    have HL := Lib.hid hlit
    clear hlit
    go_wp2_with fail
    refine (isCopy_any d l b _).mono ?_
    rintro e w2 ⟨rfl, u2⟩
    have U2 := Lib.hid (U1.out.trans u2)
    obtain ⟨c0, c1, c2⟩ := new_cells _ _ _ _ _ _ (U1'.out.trans u2)
    clear u2
    cases hcop : copB ⟨d, l, b⟩ with
    | false =>
      have hE := HE.out
      rw [if_pos ⟨HL.out, hcop⟩] at hE
      subst hE
      clear hcop HE
      go_wp2_with fail
      go_ret
      exact ⟨rfl, U2.out⟩
    | true =>
      have hE := HE.out
      rw [if_neg (by rw [hcop]; intro h; cases h.2)] at hE
      have HT := Lib.hid (show l ≤ 64 from (tok_l ⟨d, l, b⟩ (.inr hcop)).2.1)
      clear hcop HE
      by_cases h2 : (n : Int) < d
      · have g2 : decide ((n : Int) < d) = true := decide_eq_true h2
        rw [if_pos h2] at hE
        subst hE
        go_wp2_with fail
        go_ret
        exact ⟨rfl, U2.out⟩
      · have g2 : decide ((n : Int) < d) = false := decide_eq_false h2
        rw [if_neg h2] at hE
        have hl64 := HT.out
        have HE2 := Lib.hid hE
        clear hE
        go_wp2_with fail
        refine (size_any d l b _).mono ?_
        rintro e w9 ⟨rfl, u9⟩
        have U9 := Lib.hid (U2.out.trans u9)
        have hE := HE2.out
        clear u9 HE2
        obtain ⟨m, hm⟩ : ∃ m, max l 1 = m := ⟨_, rfl⟩
        have hm1 : 1 ≤ m := by omega
        have hm2 : m ≤ 64 := by omega
        rw [hm] at hE ⊢
        clear hm
        by_cases h3 : 600 < (n : Int) + m
        · have g3 : decide (600 < (n : Int) + m) = true := decide_eq_true h3
          rw [if_pos h3] at hE
          subst hE
          go_wp2_with fail
          go_ret
          exact ⟨rfl, U9.out⟩
        · have g3 : decide (600 < (n : Int) + m) = false := decide_eq_false h3
          rw [if_neg h3] at hE
          subst hE
          go_wp2_with fail
          go_ret
          exact ⟨rfl, U9.out⟩

end Go.Proofs.YtloiciinmdmdkaaGreatDoor
