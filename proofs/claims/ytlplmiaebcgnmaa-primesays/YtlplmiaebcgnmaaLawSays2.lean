/-
  The law PrimeSays, walked: for every m the Go text returns true; nothing that was there turns. No condition.
-/
import Derived.Test.YtlplmiaebcgnmaaLawFacts
namespace Go.Proofs.Ytlplmiaebcgnmaa
open Go.RowKit
open Go.Proofs

theorem row1' (w : World) (a : Int) (t : TypeId) : Row (w.alloc (.cells #[.int .i64 a] t)) w.heap.size [a] := by
  intro i hi
  simp at hi
  subst hi
  go_simp

theorem all1' (a : Int) (h0 : 0 ≤ a) (h1 : a ≤ 2147483647) : AllP [a] := by
  intro j hj
  simp at hj
  subst hj
  exact ⟨h0, h1⟩

theorem bad1' (a : Int) (h : a < 0 ∨ 2147483647 < a) : ¬ AllP [a] := by
  intro hall
  have x0 : 0 ≤ a ∧ a ≤ 2147483647 := hall 0 (by simp)
  omega

set_option maxRecDepth 100000 in
set_option maxHeartbeats 1000000 in
theorem primeSays_bad (a : Int) (w : World) (h : a < 0 ∨ 2147483647 < a) :
    Calls Try.prog 6 #[.int .i64 a] w fun e w' => e = .returned (.bool true) ∧ Up w w' := by
  have H := Lib.hid h
  clear h
  go_enter Try.func6, Try.ntmps6
  go_wp2_with fail
  refine (is_bad _ _ H.out).mono ?_
  rintro e w1 ⟨rfl, u1⟩
  go_wp2_with fail
  refine (next_bad _ _ H.out).mono ?_
  rintro e w2 ⟨rfl, u2⟩
  go_wp2_with fail
  refine (factors_bad _ _ H.out).mono ?_
  rintro e w' ⟨rfl, rfl⟩
  go_wp2_with fail
  refine (refPoly_bad [a] _ 1 _ (by omega) rfl (row1' _ _ _) (bad1' a H.out)).mono ?_
  rintro e w' ⟨rfl, rfl⟩
  go_wp2_with fail
  go_ret
  exact ⟨rfl, (u1.trans u2).trans (Up.alloc _ _)⟩

/-- what Next and the reference's Next hand back: the same -/
def NextSame (P E K : Nat) : Prop := (E = 0 ∧ K = P ∧ 0 < P ∧ P ≤ 2147483647) ∨ (E = 4 ∧ P = 0 ∧ K = 0)

set_option maxRecDepth 100000 in
set_option maxHeartbeats 1000000 in
theorem primeSays_zero (w : World) (P E K : Nat) (hs : NextSame P E K)
    (hnext : ∀ w0 : World, Calls Try.prog 36 #[.int .i64 0] w0 fun e w' => e = .returned (.tuple #[.int .i64 (P : Int), .int .i64 (E : Int)]) ∧ Up w0 w')
    (hrn : ∀ w0 : World, Calls Try.prog 39 #[.int .i64 0] w0 fun e w' => e = .returned (.int .i64 (K : Int)) ∧ w0 = w') :
    Calls Try.prog 6 #[.int .i64 0] w fun e w' => e = .returned (.bool true) ∧ Up w w' := by
  have HN := Lib.hid hnext
  have HR := Lib.hid hrn
  have hnp : ¬ WoolMath.Prime 0 := fun h => by have := h.1; omega
  have HNP := Lib.hid hnp
  clear hnext hrn hnp
  go_enter Try.func6, Try.ntmps6
  go_wp2_with fail
  refine (is_no 0 _ (by omega) HNP.out).mono ?_
  rintro e w1 ⟨rfl, u1⟩
  go_wp2_with fail
  refine (HN.out _).mono ?_
  rintro e w2 ⟨rfl, u2⟩
  go_wp2_with fail
  refine (factors_zero _).mono ?_
  rintro e w' ⟨rfl, rfl⟩
  go_wp2_with fail
  refine (refPoly_ok [0] _ 1 _ (by omega) rfl (row1' _ _ _) (all1' _ (by omega) (by omega))).mono ?_
  rintro e w' ⟨rfl, rfl⟩
  have u3 := Up.alloc w2 (.cells #[.int .i64 0] 3)
  generalize w2.alloc (.cells #[.int .i64 0] 3) = w3 at *
  have HU := Lib.hid ((u1.trans u2).trans u3)
  clear u1 u2 u3
  go_wp2_with fail
  refine (refPrime_no 0 _ (by omega) HNP.out).mono ?_
  rintro e w' ⟨rfl, rfl⟩
  go_wp2_with fail
  refine (HR.out _).mono ?_
  rintro e w' ⟨rfl, rfl⟩
  rcases hs with ⟨rfl, rfl, hp0, hp1⟩ | ⟨rfl, rfl, rfl⟩
  · have d1 : decide ((0 : Int) < (K : Int)) = true := by rw [decide_eq_true_iff]; omega
    go_wp2_with fail
    go_ret
    exact ⟨rfl, HU.out⟩
  · go_wp2_with fail
    go_ret
    exact ⟨rfl, HU.out⟩

set_option maxRecDepth 100000 in
set_option maxHeartbeats 1000000 in
theorem primeSays_main (M : Nat) (w : World) (hM0 : 1 ≤ M) (hM : M ≤ 2147483647) (B : Bool) (P E K : Nat) (hs : NextSame P E K)
    (his : ∀ w0 : World, Calls Try.prog 35 #[.int .i64 (M : Int)] w0 fun e w' => e = .returned (.tuple #[.bool B, .int .i64 0]) ∧ Up w0 w')
    (hrp : ∀ w0 : World, Calls Try.prog 38 #[.int .i64 (M : Int)] w0 fun e w' => e = .returned (.bool B) ∧ w0 = w')
    (hnext : ∀ w0 : World, Calls Try.prog 36 #[.int .i64 (M : Int)] w0 fun e w' => e = .returned (.tuple #[.int .i64 (P : Int), .int .i64 (E : Int)]) ∧ Up w0 w')
    (hrn : ∀ w0 : World, Calls Try.prog 39 #[.int .i64 (M : Int)] w0 fun e w' => e = .returned (.int .i64 (K : Int)) ∧ w0 = w') :
    Calls Try.prog 6 #[.int .i64 (M : Int)] w fun e w' => e = .returned (.bool true) ∧ Up w w' := by
  have HIS := Lib.hid his
  have HRP := Lib.hid hrp
  have HN := Lib.hid hnext
  have HR := Lib.hid hrn
  have hz : ((M : Int) == 0) = false := by rw [beq_eq_false_iff_ne]; omega
  clear his hrp hnext hrn
  go_enter Try.func6, Try.ntmps6
  go_wp2_with fail
  refine (HIS.out _).mono ?_
  rintro e w1 ⟨rfl, u1⟩
  go_wp2_with fail
  refine (HN.out _).mono ?_
  rintro e w2 ⟨rfl, u2⟩
  go_wp2_with fail
  refine (factors_ok M _ hM0 hM).mono ?_
  rintro e w3 ⟨v, l, hfac, hl30, rfl, hints, u3⟩
  have HFAC := Lib.hid hfac
  have HINTS := Lib.hid hints
  clear hfac hints
  go_wp2_with fail
  refine (refPoly_ok [(M : Int)] _ 1 _ (by omega) rfl (row1' _ _ _) (all1' _ (by omega) (by omega))).mono ?_
  rintro e w' ⟨rfl, rfl⟩
  have u4 := Up.alloc w3 (.cells #[.int .i64 (M : Int)] 3)
  generalize w3.alloc (.cells #[.int .i64 (M : Int)] 3) = w4 at *
  have HU := Lib.hid (((u1.trans u2).trans u3).trans u4)
  have HINTS2 := Lib.hid (HINTS.out.up u4)
  clear u1 u2 u3 u4 HINTS
  go_wp2_with fail
  refine (HRP.out _).mono ?_
  rintro e w' ⟨rfl, rfl⟩
  go_wp2_with fail
  refine (HR.out _).mono ?_
  rintro e w' ⟨rfl, rfl⟩
  rcases hs with ⟨rfl, rfl, hp0, hp1⟩ | ⟨rfl, rfl, rfl⟩
  · have d1 : decide ((0 : Int) < (K : Int)) = true := by rw [decide_eq_true_iff]; omega
    go_wp2_with fail
    refine (refFactors_any M _ hM0 hM).mono ?_
    rintro e w5 ⟨v2, l2, hfac2, hl2, rfl, hints2, u5⟩
    obtain rfl := WoolMath.factors_unique hfac2 HFAC.out
    have HINTS3 := Lib.hid hints2
    clear hfac2 hints2
    go_wp2_with fail
    refine (equal_yes _ _ _ _ l2 _ (by omega) (HINTS2.out.up u5) HINTS3.out).mono ?_
    rintro e w6 ⟨rfl, u6⟩
    go_wp2_with fail
    go_ret
    exact ⟨rfl, (HU.out.trans u5).trans u6⟩
  · go_wp2_with fail
    refine (refFactors_any M _ hM0 hM).mono ?_
    rintro e w5 ⟨v2, l2, hfac2, hl2, rfl, hints2, u5⟩
    obtain rfl := WoolMath.factors_unique hfac2 HFAC.out
    have HINTS3 := Lib.hid hints2
    clear hfac2 hints2
    go_wp2_with fail
    refine (equal_yes _ _ _ _ l2 _ (by omega) (HINTS2.out.up u5) HINTS3.out).mono ?_
    rintro e w6 ⟨rfl, u6⟩
    go_wp2_with fail
    go_ret
    exact ⟨rfl, (HU.out.trans u5).trans u6⟩

theorem primeSays_walk (a0 : Int) (w : World) (_w0 : (Lit.int .i64 a0).wf = true) :
    Calls Try.prog 6 #[.int .i64 a0] w fun e w' => e = .returned (.bool true) ∧ Up w w' := by
  by_cases h : a0 < 0 ∨ 2147483647 < a0
  · exact primeSays_bad a0 w h
  obtain ⟨M, rfl⟩ := Int.eq_ofNat_of_zero_le (show 0 ≤ a0 by omega)
  have hM : M ≤ 2147483647 := by omega
  obtain ⟨P, E, K, hs, hnext, hrn⟩ : ∃ P E K : Nat, NextSame P E K ∧
      (∀ w0 : World, Calls Try.prog 36 #[.int .i64 (M : Int)] w0 fun e w' => e = .returned (.tuple #[.int .i64 (P : Int), .int .i64 (E : Int)]) ∧ Up w0 w') ∧
      (∀ w0 : World, Calls Try.prog 39 #[.int .i64 (M : Int)] w0 fun e w' => e = .returned (.int .i64 (K : Int)) ∧ w0 = w') := by
    by_cases hex : ∃ q, M ≤ q ∧ q ≤ 2147483647 ∧ WoolMath.Prime q
    · obtain ⟨q, q1, q2, q3⟩ := hex
      obtain ⟨P, hP, hPq⟩ := WoolMath.next_exists q3 q1
      have hp0 : 0 < P := by have := hP.1.1; omega
      exact ⟨P, 0, P, .inl ⟨rfl, rfl, hp0, by omega⟩, fun w0 => next_ok M P w0 hP (by omega), fun w0 => refNext_ok M P w0 hP (by omega)⟩
    · have hno : ∀ q, M ≤ q → q ≤ 2147483647 → ¬ WoolMath.Prime q := fun q q1 q2 q3 => hex ⟨q, q1, q2, q3⟩
      exact ⟨0, 4, 0, .inr ⟨rfl, rfl, rfl⟩, fun w0 => next_none M w0 hM hno, fun w0 => refNext_none M w0 hM hno⟩
  by_cases hz : M = 0
  · subst hz
    exact primeSays_zero w P E K hs hnext hrn
  · by_cases hp : WoolMath.Prime M
    · exact primeSays_main M w (by omega) hM true P E K hs (fun w0 => is_yes M w0 hM hp) (fun w0 => refPrime_yes M w0 hM hp) hnext hrn
    · exact primeSays_main M w (by omega) hM false P E K hs (fun w0 => is_no M w0 hM hp) (fun w0 => refPrime_no M w0 hM hp) hnext hrn

end Go.Proofs.Ytlplmiaebcgnmaa
