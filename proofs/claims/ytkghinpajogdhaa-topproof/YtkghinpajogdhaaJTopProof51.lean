/-
  The law TreeHalves, walked: for every list the Go text returns true; nothing that was there turns. Conditions: as each says.
-/
import Derived.Test.YtkghinpajogdhaaJTopProof50
namespace Go.Proofs.Ytkghinpajogdhaa
open Go.RowKit
open Go.Proofs
open WoolTree

theorem chkT_of {l : List (List UInt8)} (h0 : 0 < l.length) (h32 : l.length ≤ 32) (hs : ∀ t ∈ l, t.length ≤ 64) : chkT l = 0 := by
  unfold chkT
  rw [if_neg (by omega), if_neg]
  simp only [Bool.or_eq_true, decide_eq_true_eq, List.any_eq_true, not_or, not_exists, not_and]
  exact ⟨by omega, fun t ht => by have := hs t ht; omega⟩

theorem chkT_take {l : List (List UInt8)} (h : chkT l = 0) (k : Nat) (h0 : 0 < k) (hk : k ≤ l.length) : chkT (l.take k) = 0 := by
  obtain ⟨_, h32, hs⟩ := chkT_ok h
  have hl : (l.take k).length = k := by rw [List.length_take]; omega
  exact chkT_of (by omega) (by omega) (fun t ht => hs t (List.mem_of_mem_take ht))

theorem chkT_drop {l : List (List UInt8)} (h : chkT l = 0) (k : Nat) (hk : k < l.length) : chkT (l.drop k) = 0 := by
  obtain ⟨_, h32, hs⟩ := chkT_ok h
  have hl : (l.drop k).length = l.length - k := List.length_drop
  exact chkT_of (by omega) (by omega) (fun t ht => hs t (List.mem_of_mem_drop ht))

theorem rootV_ok {l : List (List UInt8)} (h : chkT l = 0) : rootV l = ((rtx TH l : Nat) : Int) := if_pos h

theorem rtx_lt (l : List (List UInt8)) (h0 : 0 < l.length) (h32 : l.length ≤ 32) : rtx TH l < 1073741824 := by
  have h := it_root TH 5 (lh TH l) (by rw [lh_length]; exact h0) (by rw [lh_length]; exact h32)
  have hb := it_bound TH 1073741824 TH_lt 5 (lh TH l) (lh_bound TH _ TH_lt l)
  rw [h] at hb
  exact hb _ (by simp; rfl)

theorem root_a2 : chkT [[97]] = 0 ∧ rootV [[97]] = ((fp 1073741907 [108, 97] : Nat) : Int) ∧ fp 1073741907 [108, 97] ≠ 0 := by decide +kernel

/-- what doubles up to a number -/
def SpRel (n : Nat) (i : Value) : Prop := ∃ j K : Nat, K = 2 ^ j ∧ K < n ∧ i = .int .i64 (K : Int)

end Go.Proofs.Ytkghinpajogdhaa
