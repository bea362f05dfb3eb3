/-
  What the reference's within, Poly, trim and Prod return. Conditions: as each says.
-/
import Derived.Test.YtidofplebkbbmaaRef
namespace Go.Proofs.Ytidofplebkbbmaa
open Go.RowKit
open Go.Proofs

/-! ytidofplebkbbmaa# within, Poly -/

theorem refWithin_yes (x a b : Int) (w : World) (h1 : a ≤ x) (h2 : x ≤ b) :
    Calls Try.prog 46 #[.int .i64 x, .int .i64 a, .int .i64 b] w fun e w' => e = .returned (.bool true) ∧ w = w' := by
  have d1 : decide (a ≤ x) = true := by rw [decide_eq_true_iff]; omega
  have d2 : decide (x ≤ b) = true := by rw [decide_eq_true_iff]; omega
  go_enter Try.func46, Try.ntmps46
  go_wp2
  go_ret
  exact ⟨rfl, rfl⟩

theorem refWithin_no (x a b : Int) (w : World) (h : x < a ∨ b < x) :
    Calls Try.prog 46 #[.int .i64 x, .int .i64 a, .int .i64 b] w fun e w' => e = .returned (.bool false) ∧ w = w' := by
  by_cases h1 : a ≤ x
  · have d1 : decide (a ≤ x) = true := by rw [decide_eq_true_iff]; omega
    have d2 : decide (x ≤ b) = false := by rw [decide_eq_false_iff_not]; omega
    clear h
    go_enter Try.func46, Try.ntmps46
    go_wp2
    go_ret
    exact ⟨rfl, rfl⟩
  · have d1 : decide (a ≤ x) = false := by rw [decide_eq_false_iff_not]; omega
    clear h
    go_enter Try.func46, Try.ntmps46
    go_wp2
    go_ret
    exact ⟨rfl, rfl⟩

/-! ytidofplebkbbmaa# trim -/

def TrimRel (N g cap n : Nat) (l : Value) : Prop := ∃ m : Nat, m ≤ n ∧ N < 2 ^ m ∧ l = .slice (some ⟨g, 0, none⟩) m cap

/-- what trim hands back: the same row, no longer than it must be -/
def TrimPost (base N : Nat) (w : World) (v : Value) (e : Ending) (w' : World) : Prop :=
  ∃ u, e = .returned u ∧ Bits w base u (WoolMath.blen N) N ∧ (∀ g, u.ownBlock = some g → v.ownBlock = some g) ∧ w = w'

theorem own_take {w : World} {base g cap n m N : Nat} (h : Bits w base (.slice (some ⟨g, 0, none⟩) n cap) n N) (hm : m ≤ n) : Bits w base (.slice (some ⟨g, 0, none⟩) m cap) m N := by
  refine ⟨by rw [bitsL_length]; omega, ?_⟩
  rcases h.2 with ⟨h', _⟩ | ⟨g', cap', cur, h1, h2, h3, h4, h5, h6, h7⟩
  · simp at h'
  · simp only [Value.slice.injEq, Option.some.injEq, Addr.mk.injEq, and_true, true_and] at h1
    obtain ⟨rfl, rfl⟩ := h1
    refine .inr ⟨g, cap, cur, rfl, h2, h3, by omega, h5, h6, ?_⟩
    rw [← bitsL_take N n m hm, ← h7, List.take_take]
    congr 1
    omega

theorem blen_of_top (N m : Nat) (h1 : N < 2 ^ (m + 1)) (h2 : N.testBit m = true) : WoolMath.blen N = m + 1 := by
  have hge : 2 ^ m ≤ N := Nat.ge_two_pow_of_testBit h2
  have h0 : N ≠ 0 := by have := Nat.pow_pos (n := m) (show 0 < 2 by omega); omega
  rw [WoolMath.blen_pos N h0, WoolMath.log2_of m N hge h1]

theorem lt_of_top (N m : Nat) (h1 : N < 2 ^ (m + 1)) (h2 : N.testBit m = false) : N < 2 ^ m := by
  apply Nat.lt_pow_two_of_testBit
  intro i hi
  by_cases e : i = m
  · subst e; exact h2
  · exact Nat.testBit_lt_two_pow (Nat.lt_of_lt_of_le h1 (Nat.pow_le_pow_right (by omega) (by omega)))

set_option maxRecDepth 100000 in
set_option maxHeartbeats 400000 in
theorem trim_any (v : Value) (base n N : Nat) (w : World) (hn : n ≤ 1000) (hN : N < 2 ^ n) (hb : Bits w base v n N) :
    Calls Try.prog 73 #[v] w (TrimPost base N w v) := by
  rcases hb.2 with ⟨rfl, rfl⟩ | ⟨g, cap, cur, rfl, hg, hh, hnc, hcm, hcs, htk⟩
  · have : N = 0 := by simpa using hN
    subst this
    have HB := Lib.hid hb
    clear hb
    go_enter Try.func73, Try.ntmps73
    go_wp2
    refine wp_loop_rounds 1 ?_
    rw [rounds_succ]
    go_wp2
    go_ret
    exact ⟨_, rfl, HB.out, fun _ h => h, rfl⟩
  · have HB := Lib.hid hb
    have HN := Lib.hid hN
    unfold maxLen at hcm
    clear hb hh hcs htk hN hg
    go_enter Try.func73, Try.ntmps73
    go_wp2
    go_loop [0] (fun l => TrimRel N g cap n l) (fun l => match l with | .slice _ m _ => m | _ => 0)
    case atStart => exact ⟨n, Nat.le_refl _, HN.out, rfl⟩
    case round =>
      obtain ⟨m, hm, hlt, rfl⟩ := hrel
      have HLT := Lib.hid hlt
      clear hlt
      cases m with
      | zero =>
        have : N = 0 := by simpa using HLT.out
        subst this
        go_wp2
        go_ret
        exact ⟨_, rfl, own_take HB.out (by omega), fun _ h => h, rfl⟩
      | succ m =>
        have hc := (World.ownsRow.cellAt HB.out m (by omega)).trans (bitsL_get N n m (by omega))
        have hp : (0 : Int) < ((m + 1 : Nat) : Int) := by omega
        by_cases ht : N.testBit m = true
        · rw [ht] at hc
          have hbl := blen_of_top N m HLT.out ht
          have HBL := Lib.hid hbl
          clear ht hbl
          go_wp2
          go_ret
          refine ⟨_, rfl, ?_, fun _ h => h, rfl⟩
          rw [HBL.out]
          exact own_take HB.out (by omega)
        · have ht' : N.testBit m = false := by simpa using ht
          rw [ht'] at hc
          have hl := lt_of_top N m HLT.out ht'
          have HL := Lib.hid hl
          clear ht ht' hl
          go_wp2
          go_round
          case rel => exact ⟨m, by omega, HL.out, rfl⟩
          case measure => simp

end Go.Proofs.Ytidofplebkbbmaa
