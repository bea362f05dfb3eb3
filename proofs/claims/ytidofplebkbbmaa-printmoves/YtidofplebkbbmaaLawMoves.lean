/-
  The law PrintMoves, walked: for every six ints the Go text returns true; nothing that was there turns. No condition.
-/
import Derived.Test.YtidofplebkbbmaaLawPSays
import Derived.Test.YtidofplebkbbmaaLawDiv
namespace Go.Proofs.Ytidofplebkbbmaa
open Go.RowKit
open Go.Proofs

theorem wrap_pow (L : Nat) (h : L < 31) : wrap64 (wrap64 (2 ^ L) - 1) = ((2 ^ L : Nat) : Int) - 1 := by
  have h1 : 2 ^ L ≤ 2 ^ 31 := Nat.pow_le_pow_right (by omega) (by omega)
  have h2 : 0 < 2 ^ L := Nat.pow_pos (by omega)
  rw [pow_cast]
  generalize 2 ^ L = z at *
  unfold wrap64
  omega

set_option maxRecDepth 100000 in
theorem rest_yes (a : Int) (M : Nat) (w : World) (h0 : 2 ≤ M) (h1 : M ≤ 2147483647) (ha : isRest a M) :
    Calls Try.prog 26 #[.int .i64 (M : Int), .int .i64 a] w fun e w' => e = .returned (.bool true) ∧ Up w w' := by
  have hbl := WoolMath.blen_pos M (by omega)
  have hl := (Nat.log2_lt (show M ≠ 0 by omega)).2 (show M < 2 ^ 31 by omega)
  have HBL := Lib.hid hbl
  clear hbl
  go_enter Try.func26, Try.ntmps26
  go_wp2_with fail
  refine (coef_any _ _ (by omega)).mono ?_
  rintro e w1 ⟨v, rfl, hb, u1⟩
  rw [Int.toNat_natCast, HBL.out] at hb
  obtain ⟨o, c, rfl⟩ := hb.shape
  clear hb
  go_wp2_with fail
  rw [wrap_pow _ hl]
  refine (refWithin_yes _ _ _ _ ha.1 (by have := ha.2; omega)).mono ?_
  rintro e w2 ⟨rfl, rfl⟩
  go_wp2_with fail
  go_ret
  exact ⟨rfl, u1⟩

set_option maxRecDepth 100000 in
theorem rest_no (a : Int) (M : Nat) (w : World) (h0 : 2 ≤ M) (h1 : M ≤ 2147483647) (ha : ¬ isRest a M) :
    Calls Try.prog 26 #[.int .i64 (M : Int), .int .i64 a] w fun e w' => e = .returned (.bool false) ∧ Up w w' := by
  have hbl := WoolMath.blen_pos M (by omega)
  have hl := (Nat.log2_lt (show M ≠ 0 by omega)).2 (show M < 2 ^ 31 by omega)
  have HBL := Lib.hid hbl
  have ha' : a < 0 ∨ ((2 ^ M.log2 : Nat) : Int) - 1 < a := by
    by_cases h : a < 0
    · exact .inl h
    · refine .inr ?_
      apply Int.lt_of_not_ge
      intro h2
      exact ha ⟨by omega, by omega⟩
  have HA := Lib.hid ha'
  clear hbl ha ha'
  go_enter Try.func26, Try.ntmps26
  go_wp2_with fail
  refine (coef_any _ _ (by omega)).mono ?_
  rintro e w1 ⟨v, rfl, hb, u1⟩
  rw [Int.toNat_natCast, HBL.out] at hb
  obtain ⟨o, c, rfl⟩ := hb.shape
  clear hb
  go_wp2_with fail
  rw [wrap_pow _ hl]
  refine (refWithin_no _ _ _ _ HA.out).mono ?_
  rintro e w2 ⟨rfl, rfl⟩
  go_wp2_with fail
  go_ret
  exact ⟨rfl, u1⟩

theorem r_cases (x y n : Int) (h : ¬ (0 ≤ x ∧ x ≤ 255 ∧ 0 ≤ y ∧ y ≤ 255 ∧ 1 ≤ n ∧ n ≤ 600)) :
    x < 0 ∨ (0 ≤ x ∧ 255 < x) ∨ (0 ≤ x ∧ x ≤ 255 ∧ y < 0) ∨ (0 ≤ x ∧ x ≤ 255 ∧ 0 ≤ y ∧ 255 < y) ∨ (0 ≤ x ∧ x ≤ 255 ∧ 0 ≤ y ∧ y ≤ 255 ∧ n < 1) ∨ (0 ≤ x ∧ x ≤ 255 ∧ 0 ≤ y ∧ y ≤ 255 ∧ 1 ≤ n ∧ 600 < n) := by omega

set_option maxRecDepth 100000 in
set_option maxHeartbeats 400000 in
theorem moves_bad (m a b n x y : Int) (w : World) (h : m < 2 ∨ 2147483647 < m) :
    Calls Try.prog 4 #[.int .i64 m, .int .i64 a, .int .i64 b, .int .i64 n, .int .i64 x, .int .i64 y] w fun e w' => e = .returned (.bool true) ∧ Up w w' := by
  have H := Lib.hid h
  clear h
  go_enter Try.func4, Try.ntmps4
  go_wp2_with fail
  refine (join_mod _ _ _ _ _ H.out).mono ?_
  rintro e w' ⟨rfl, rfl⟩
  go_wp2_with fail
  refine (roll_mod _ _ _ _ _ _ H.out).mono ?_
  rintro e w' ⟨rfl, rfl⟩
  go_wp2_with fail
  refine (modulus_bad _ _ H.out).mono ?_
  rintro e w' ⟨rfl, rfl⟩
  go_wp2_with fail
  go_ret
  exact ⟨rfl, Up.refl _⟩

set_option maxRecDepth 100000 in
set_option maxHeartbeats 400000 in
theorem moves_0 (M : Nat) (a b n x y : Int) (w : World) (h0 : 2 ≤ M) (h1 : M ≤ 2147483647) (ha : ¬ isRest a M) :
    Calls Try.prog 4 #[.int .i64 (M : Int), .int .i64 a, .int .i64 b, .int .i64 n, .int .i64 x, .int .i64 y] w fun e w' => e = .returned (.bool true) ∧ Up w w' := by
  have HA := Lib.hid ha
  clear ha
  go_enter Try.func4, Try.ntmps4
  go_wp2_with fail
  refine (join_arg M _ _ _ _ h0 h1 (fun h => HA.out h.1)).mono ?_
  rintro e w' ⟨rfl, rfl⟩
  go_wp2_with fail
  refine (roll_arg M _ _ _ _ _ h0 h1 (fun h => HA.out h.1)).mono ?_
  rintro e w' ⟨rfl, rfl⟩
  go_wp2_with fail
  refine (modulus_ok _ _ (by omega) (by omega)).mono ?_
  rintro e w' ⟨rfl, rfl⟩
  go_wp2_with fail
  refine (rest_no _ M _ h0 h1 HA.out).mono ?_
  rintro e w1 ⟨rfl, u1⟩
  go_wp2_with fail
  refine (rest_no _ M _ h0 h1 HA.out).mono ?_
  rintro e w2 ⟨rfl, u2⟩
  go_wp2_with fail
  go_ret
  exact ⟨rfl, u1.trans u2⟩

set_option maxRecDepth 100000 in
set_option maxHeartbeats 2000000 in
theorem moves_b (M : Nat) (a b n x y : Int) (w : World) (h0 : 2 ≤ M) (h1 : M ≤ 2147483647) (ha : isRest a M) (hb : ¬ isRest b M) (hr : ¬ (0 ≤ x ∧ x ≤ 255 ∧ 0 ≤ y ∧ y ≤ 255 ∧ 1 ≤ n ∧ n ≤ 600)) :
    Calls Try.prog 4 #[.int .i64 (M : Int), .int .i64 a, .int .i64 b, .int .i64 n, .int .i64 x, .int .i64 y] w fun e w' => e = .returned (.bool true) ∧ Up w w' := by
  have HA := Lib.hid ha
  have HB := Lib.hid hb
  have HR := Lib.hid hr
  have hc := r_cases x y n hr
  clear ha hb hr
  rcases hc with c1 | ⟨c1, c2⟩ | ⟨c1, c2, c3⟩ | ⟨c1, c2, c3, c4⟩ | ⟨c1, c2, c3, c4, c5⟩ | ⟨c1, c2, c3, c4, c5, c6⟩
  all_goals
    go_enter Try.func4, Try.ntmps4
    go_wp2_with fail
    refine (join_arg M _ _ _ _ h0 h1 (fun h => HB.out h.2.1)).mono ?_
    rintro e w' ⟨rfl, rfl⟩
    go_wp2_with fail
    refine (roll_arg M _ _ _ _ _ h0 h1 (fun h => HR.out h.2)).mono ?_
    rintro e w' ⟨rfl, rfl⟩
    go_wp2_with fail
    refine (modulus_ok _ _ (by omega) (by omega)).mono ?_
    rintro e w' ⟨rfl, rfl⟩
    go_wp2_with fail
    refine (rest_yes _ M _ h0 h1 HA.out).mono ?_
    rintro e w1 ⟨rfl, u1⟩
    go_wp2_with fail
    refine (rest_no _ M _ h0 h1 HB.out).mono ?_
    rintro e w2 ⟨rfl, u2⟩
    go_wp2_with fail
    refine (rest_yes _ M _ h0 h1 HA.out).mono ?_
    rintro e w3 ⟨rfl, u3⟩
    go_wp2_with fail
    go_ret
    exact ⟨rfl, (u1.trans u2).trans u3⟩

end Go.Proofs.Ytidofplebkbbmaa
