/-
  What Join and Roll of package print return at wrong arguments, and what Roll returns at right ones. Conditions: the arguments are ints.
-/
import Derived.Test.YtloiciinmdmdkaaGreatDoorPrint
namespace Go.Proofs.YtloiciinmdmdkaaGreatDoor
open Go.RowKit
open Go.Proofs

set_option maxRecDepth 100000 in
theorem join_mod (m a b n : Int) (w : World) (h : m < 2 ∨ 2147483647 < m) :
    Calls Tryz.prog 51 #[.int .i64 m, .int .i64 a, .int .i64 b, .int .i64 n] w fun e w' => e = .returned (.tuple #[.int .i64 0, .int .i64 1]) ∧ w = w' := by
  have H := Lib.hid h
  clear h
  go_enter Tryz.func51, Tryz.ntmps51
  go_wp2_with (go_at_call 75; refine (mod_bad _ _ H.out).mono ?_; rintro e w' ⟨rfl, rfl⟩)
  go_ret2
  exact ⟨rfl, rfl⟩

set_option maxRecDepth 100000 in
theorem join_arg (M : Nat) (a b n : Int) (w : World) (h0 : 2 ≤ M) (h1 : M ≤ 2147483647) (h : ¬ (isRest a M ∧ isRest b M ∧ 0 ≤ n ∧ n ≤ 600)) :
    Calls Tryz.prog 51 #[.int .i64 (M : Int), .int .i64 a, .int .i64 b, .int .i64 n] w fun e w' => e = .returned (.tuple #[.int .i64 0, .int .i64 1]) ∧ w = w' := by
  by_cases ha : isRest a M
  · have HA := Lib.hid ha
    by_cases hb : isRest b M
    · have HB := Lib.hid hb
      have hn : n < 0 ∨ 600 < n := by
        apply Classical.byContradiction
        intro hc
        exact h ⟨ha, hb, by omega, by omega⟩
      clear ha hb h
      by_cases hn0 : n < 0
      · have d1 : decide (n < 0) = true := by rw [decide_eq_true_iff]; omega
        clear hn
        go_enter Tryz.func51, Tryz.ntmps51
        go_wp2_with fail
        refine (mod_ok _ _ (by omega) (by omega)).mono ?_
        rintro e w' ⟨rfl, rfl⟩
        go_wp2_with fail
        refine (reduced_yes _ M _ h0 h1 HA.out).mono ?_
        rintro e w' ⟨rfl, rfl⟩
        go_wp2_with fail
        refine (reduced_yes _ M _ h0 h1 HB.out).mono ?_
        rintro e w' ⟨rfl, rfl⟩
        go_wp2_with fail
        go_ret2
        exact ⟨rfl, rfl⟩
      · have d1 : decide (n < 0) = false := by rw [decide_eq_false_iff_not]; omega
        have d2 : decide (600 < n) = true := by rw [decide_eq_true_iff]; omega
        clear hn
        go_enter Tryz.func51, Tryz.ntmps51
        go_wp2_with fail
        refine (mod_ok _ _ (by omega) (by omega)).mono ?_
        rintro e w' ⟨rfl, rfl⟩
        go_wp2_with fail
        refine (reduced_yes _ M _ h0 h1 HA.out).mono ?_
        rintro e w' ⟨rfl, rfl⟩
        go_wp2_with fail
        refine (reduced_yes _ M _ h0 h1 HB.out).mono ?_
        rintro e w' ⟨rfl, rfl⟩
        go_wp2_with fail
        go_ret2
        exact ⟨rfl, rfl⟩
    · have HB := Lib.hid hb
      clear ha hb h
      go_enter Tryz.func51, Tryz.ntmps51
      go_wp2_with fail
      refine (mod_ok _ _ (by omega) (by omega)).mono ?_
      rintro e w' ⟨rfl, rfl⟩
      go_wp2_with fail
      refine (reduced_yes _ M _ h0 h1 HA.out).mono ?_
      rintro e w' ⟨rfl, rfl⟩
      go_wp2_with fail
      refine (reduced_no _ M _ h0 h1 HB.out).mono ?_
      rintro e w' ⟨rfl, rfl⟩
      go_wp2_with fail
      go_ret2
      exact ⟨rfl, rfl⟩
  · have HA := Lib.hid ha
    clear ha h
    go_enter Tryz.func51, Tryz.ntmps51
    go_wp2_with fail
    refine (mod_ok _ _ (by omega) (by omega)).mono ?_
    rintro e w' ⟨rfl, rfl⟩
    go_wp2_with fail
    refine (reduced_no _ M _ h0 h1 HA.out).mono ?_
    rintro e w' ⟨rfl, rfl⟩
    go_wp2_with fail
    go_ret2
    exact ⟨rfl, rfl⟩

/-- what Roll answers -/
def restV (M P X N : Nat) : Nat := P ^^^ WoolMath.pmod (WoolMath.pw 256 N) M ^^^ WoolMath.pmod (WoolMath.mul X (WoolMath.pmod (WoolMath.pw 256 (N - 1)) M)) M
def rollV (M P X Y N : Nat) : Nat := WoolMath.pmod (WoolMath.mul (restV M P X N) 256) M ^^^ WoolMath.pmod Y M ^^^ WoolMath.pmod (WoolMath.pw 256 N) M

theorem xor30 (a b : Nat) (ha : a < 1073741824) (hb : b < 1073741824) : a ^^^ b < 1073741824 := Nat.xor_lt_two_pow (n := 30) ha hb

end Go.Proofs.YtloiciinmdmdkaaGreatDoor
