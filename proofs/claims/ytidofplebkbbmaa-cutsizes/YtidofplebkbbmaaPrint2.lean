/-
  What Join and Roll of package print return at wrong arguments, and what Roll returns at right ones. Conditions: the arguments are ints.
-/
import Derived.Test.YtidofplebkbbmaaPrint
namespace Go.Proofs.Ytidofplebkbbmaa
open Go.RowKit
open Go.Proofs

set_option maxRecDepth 100000 in
theorem join_mod (m a b n : Int) (w : World) (h : m < 2 ∨ 2147483647 < m) :
    Calls Try.prog 24 #[.int .i64 m, .int .i64 a, .int .i64 b, .int .i64 n] w fun e w' => e = .returned (.tuple #[.int .i64 0, .int .i64 1]) ∧ w = w' := by
  have H := Lib.hid h
  clear h
  go_enter Try.func24, Try.ntmps24
  go_wp2_with (go_at_call 22; refine (mod_bad _ _ H.out).mono ?_; rintro e w' ⟨rfl, rfl⟩)
  go_ret2
  exact ⟨rfl, rfl⟩

set_option maxRecDepth 100000 in
theorem join_arg (M : Nat) (a b n : Int) (w : World) (h0 : 2 ≤ M) (h1 : M ≤ 2147483647) (h : ¬ (isRest a M ∧ isRest b M ∧ 0 ≤ n ∧ n ≤ 600)) :
    Calls Try.prog 24 #[.int .i64 (M : Int), .int .i64 a, .int .i64 b, .int .i64 n] w fun e w' => e = .returned (.tuple #[.int .i64 0, .int .i64 1]) ∧ w = w' := by
  by_cases ha : isRest a M
  · have HA := Lib.hid ha
    by_cases hb : isRest b M
    · have HB := Lib.hid hb
      have hn : n < 0 ∨ 600 < n := by
        apply Classical.byContradiction
        intro hc
        exact h ⟨ha, hb, by omega, by omega⟩
      clear ha hb h
      by_cases hn0 : n < 0
      · have d1 : decide (n < 0) = true := by rw [decide_eq_true_iff]; omega
        clear hn
        go_enter Try.func24, Try.ntmps24
        go_wp2_with fail
        refine (mod_ok _ _ (by omega) (by omega)).mono ?_
        rintro e w' ⟨rfl, rfl⟩
        go_wp2_with fail
        refine (reduced_yes _ M _ h0 h1 HA.out).mono ?_
        rintro e w' ⟨rfl, rfl⟩
        go_wp2_with fail
        refine (reduced_yes _ M _ h0 h1 HB.out).mono ?_
        rintro e w' ⟨rfl, rfl⟩
        go_wp2_with fail
        go_ret2
        exact ⟨rfl, rfl⟩
      · have d1 : decide (n < 0) = false := by rw [decide_eq_false_iff_not]; omega
        have d2 : decide (600 < n) = true := by rw [decide_eq_true_iff]; omega
        clear hn
        go_enter Try.func24, Try.ntmps24
        go_wp2_with fail
        refine (mod_ok _ _ (by omega) (by omega)).mono ?_
        rintro e w' ⟨rfl, rfl⟩
        go_wp2_with fail
        refine (reduced_yes _ M _ h0 h1 HA.out).mono ?_
        rintro e w' ⟨rfl, rfl⟩
        go_wp2_with fail
        refine (reduced_yes _ M _ h0 h1 HB.out).mono ?_
        rintro e w' ⟨rfl, rfl⟩
        go_wp2_with fail
        go_ret2
        exact ⟨rfl, rfl⟩
    · have HB := Lib.hid hb
      clear ha hb h
      go_enter Try.func24, Try.ntmps24
      go_wp2_with fail
      refine (mod_ok _ _ (by omega) (by omega)).mono ?_
      rintro e w' ⟨rfl, rfl⟩
      go_wp2_with fail
      refine (reduced_yes _ M _ h0 h1 HA.out).mono ?_
      rintro e w' ⟨rfl, rfl⟩
      go_wp2_with fail
      refine (reduced_no _ M _ h0 h1 HB.out).mono ?_
      rintro e w' ⟨rfl, rfl⟩
      go_wp2_with fail
      go_ret2
      exact ⟨rfl, rfl⟩
  · have HA := Lib.hid ha
    clear ha h
    go_enter Try.func24, Try.ntmps24
    go_wp2_with fail
    refine (mod_ok _ _ (by omega) (by omega)).mono ?_
    rintro e w' ⟨rfl, rfl⟩
    go_wp2_with fail
    refine (reduced_no _ M _ h0 h1 HA.out).mono ?_
    rintro e w' ⟨rfl, rfl⟩
    go_wp2_with fail
    go_ret2
    exact ⟨rfl, rfl⟩

set_option maxRecDepth 100000 in
theorem roll_mod (m p x y n : Int) (w : World) (h : m < 2 ∨ 2147483647 < m) :
    Calls Try.prog 25 #[.int .i64 m, .int .i64 p, .int .i64 x, .int .i64 y, .int .i64 n] w fun e w' => e = .returned (.tuple #[.int .i64 0, .int .i64 1]) ∧ w = w' := by
  have H := Lib.hid h
  clear h
  go_enter Try.func25, Try.ntmps25
  go_wp2_with (go_at_call 22; refine (mod_bad _ _ H.out).mono ?_; rintro e w' ⟨rfl, rfl⟩)
  go_ret2
  exact ⟨rfl, rfl⟩

set_option maxRecDepth 100000 in
theorem roll_arg (M : Nat) (p x y n : Int) (w : World) (h0 : 2 ≤ M) (h1 : M ≤ 2147483647) (h : ¬ (isRest p M ∧ 0 ≤ x ∧ x ≤ 255 ∧ 0 ≤ y ∧ y ≤ 255 ∧ 1 ≤ n ∧ n ≤ 600)) :
    Calls Try.prog 25 #[.int .i64 (M : Int), .int .i64 p, .int .i64 x, .int .i64 y, .int .i64 n] w fun e w' => e = .returned (.tuple #[.int .i64 0, .int .i64 1]) ∧ w = w' := by
  by_cases ha : isRest p M
  · have HA := Lib.hid ha
    by_cases hx : 0 ≤ x ∧ x ≤ 255
    · obtain ⟨hx0, hx1⟩ := hx
      by_cases hy : 0 ≤ y ∧ y ≤ 255
      · obtain ⟨hy0, hy1⟩ := hy
        have hn : n < 1 ∨ 600 < n := by
          apply Classical.byContradiction
          intro hc
          exact h ⟨ha, hx0, hx1, hy0, hy1, by omega, by omega⟩
        clear ha h
        by_cases hn0 : n < 1
        · have d1 : decide (n < 1) = true := by rw [decide_eq_true_iff]; omega
          clear hn
          go_enter Try.func25, Try.ntmps25
          go_wp2_with fail
          refine (mod_ok _ _ (by omega) (by omega)).mono ?_
          rintro e w' ⟨rfl, rfl⟩
          go_wp2_with fail
          refine (reduced_yes _ M _ h0 h1 HA.out).mono ?_
          rintro e w' ⟨rfl, rfl⟩
          go_wp2_with fail
          refine (isByte_yes _ _ hx0 hx1).mono ?_
          rintro e w' ⟨rfl, rfl⟩
          go_wp2_with fail
          refine (isByte_yes _ _ hy0 hy1).mono ?_
          rintro e w' ⟨rfl, rfl⟩
          go_wp2_with fail
          go_ret2
          exact ⟨rfl, rfl⟩
        · have d1 : decide (n < 1) = false := by rw [decide_eq_false_iff_not]; omega
          have d2 : decide (600 < n) = true := by rw [decide_eq_true_iff]; omega
          clear hn
          go_enter Try.func25, Try.ntmps25
          go_wp2_with fail
          refine (mod_ok _ _ (by omega) (by omega)).mono ?_
          rintro e w' ⟨rfl, rfl⟩
          go_wp2_with fail
          refine (reduced_yes _ M _ h0 h1 HA.out).mono ?_
          rintro e w' ⟨rfl, rfl⟩
          go_wp2_with fail
          refine (isByte_yes _ _ hx0 hx1).mono ?_
          rintro e w' ⟨rfl, rfl⟩
          go_wp2_with fail
          refine (isByte_yes _ _ hy0 hy1).mono ?_
          rintro e w' ⟨rfl, rfl⟩
          go_wp2_with fail
          go_ret2
          exact ⟨rfl, rfl⟩
      · have hy' : y < 0 ∨ 255 < y := by omega
        have HY := Lib.hid hy'
        clear ha h hy hy'
        go_enter Try.func25, Try.ntmps25
        go_wp2_with fail
        refine (mod_ok _ _ (by omega) (by omega)).mono ?_
        rintro e w' ⟨rfl, rfl⟩
        go_wp2_with fail
        refine (reduced_yes _ M _ h0 h1 HA.out).mono ?_
        rintro e w' ⟨rfl, rfl⟩
        go_wp2_with fail
        refine (isByte_yes _ _ hx0 hx1).mono ?_
        rintro e w' ⟨rfl, rfl⟩
        go_wp2_with fail
        refine (isByte_no _ _ HY.out).mono ?_
        rintro e w' ⟨rfl, rfl⟩
        go_wp2_with fail
        go_ret2
        exact ⟨rfl, rfl⟩
    · have hx' : x < 0 ∨ 255 < x := by omega
      have HX := Lib.hid hx'
      clear ha h hx hx'
      go_enter Try.func25, Try.ntmps25
      go_wp2_with fail
      refine (mod_ok _ _ (by omega) (by omega)).mono ?_
      rintro e w' ⟨rfl, rfl⟩
      go_wp2_with fail
      refine (reduced_yes _ M _ h0 h1 HA.out).mono ?_
      rintro e w' ⟨rfl, rfl⟩
      go_wp2_with fail
      refine (isByte_no _ _ HX.out).mono ?_
      rintro e w' ⟨rfl, rfl⟩
      go_wp2_with fail
      go_ret2
      exact ⟨rfl, rfl⟩
  · have HA := Lib.hid ha
    clear ha h
    go_enter Try.func25, Try.ntmps25
    go_wp2_with fail
    refine (mod_ok _ _ (by omega) (by omega)).mono ?_
    rintro e w' ⟨rfl, rfl⟩
    go_wp2_with fail
    refine (reduced_no _ M _ h0 h1 HA.out).mono ?_
    rintro e w' ⟨rfl, rfl⟩
    go_wp2_with fail
    go_ret2
    exact ⟨rfl, rfl⟩

/-- what Roll answers -/
def restV (M P X N : Nat) : Nat := P ^^^ WoolMath.pmod (WoolMath.pw 256 N) M ^^^ WoolMath.pmod (WoolMath.mul X (WoolMath.pmod (WoolMath.pw 256 (N - 1)) M)) M
def rollV (M P X Y N : Nat) : Nat := WoolMath.pmod (WoolMath.mul (restV M P X N) 256) M ^^^ WoolMath.pmod Y M ^^^ WoolMath.pmod (WoolMath.pw 256 N) M

theorem xor30 (a b : Nat) (ha : a < 1073741824) (hb : b < 1073741824) : a ^^^ b < 1073741824 := Nat.xor_lt_two_pow (n := 30) ha hb

set_option maxRecDepth 100000 in
set_option maxHeartbeats 400000 in
theorem roll_ok (M P X Y N : Nat) (w : World) (h0 : 2 ≤ M) (h1 : M ≤ 2147483647) (hP : P < 2 ^ M.log2) (hX : X ≤ 255) (hY : Y ≤ 255) (hN0 : 1 ≤ N) (hN : N ≤ 600) :
    Calls Try.prog 25 #[.int .i64 (M : Int), .int .i64 (P : Int), .int .i64 (X : Int), .int .i64 (Y : Int), .int .i64 (N : Int)] w fun e w' => e = .returned (.tuple #[.int .i64 (rollV M P X Y N : Nat), .int .i64 0]) ∧ Up w w' := by
  have hp := pow_log2_le M (by omega) h1
  have hP0 : P < 1073741824 := by omega
  have HRP := Lib.hid (show isRest (P : Int) M from ⟨by omega, by omega⟩)
  have hT := pmod_le (WoolMath.pw 256 N) M (by omega) h1
  have hT1 := pmod_le (WoolMath.pw 256 (N - 1)) M (by omega) h1
  have hU := pmod_le (WoolMath.mul X (WoolMath.pmod (WoolMath.pw 256 (N - 1)) M)) M (by omega) h1
  have hV := pmod_le (WoolMath.mul (restV M P X N) 256) M (by omega) h1
  have hZ := pmod_le Y M (by omega) h1
  generalize hJ : rollV M P X Y N = J
  unfold rollV at hJ
  generalize hRR : restV M P X N = R at *
  unfold restV at hRR
  generalize hTT : WoolMath.pmod (WoolMath.pw 256 N) M = T at *
  generalize hTT1 : WoolMath.pmod (WoolMath.pw 256 (N - 1)) M = T1 at *
  generalize hUU : WoolMath.pmod (WoolMath.mul X T1) M = U at *
  generalize hVV : WoolMath.pmod (WoolMath.mul R 256) M = V at *
  generalize hZZ : WoolMath.pmod Y M = Z at *
  have e1 := xor30 P T hP0 hT
  have e2 := xor30 _ U e1 hU
  have e3 := xor30 V Z hV hZ
  have hx1 := i64_xor_nat P T (lt63 _ hP0) (lt63 _ hT)
  have hx2 := i64_xor_nat _ U (lt63 _ e1) (lt63 _ hU)
  rw [hRR, ← hx1] at hx2
  have hR : R < 1073741824 := hRR ▸ e2
  have hx3 := i64_xor_nat V Z (lt63 _ hV) (lt63 _ hZ)
  have hx4 := i64_xor_nat _ T (lt63 _ e3) (lt63 _ hT)
  rw [hJ, ← hx3] at hx4
  have hn1 : (N : Int) - 1 = ((N - 1 : Nat) : Int) := by omega
  have HN := Lib.hid hn1
  have HTT := Lib.hid hTT
  have HTT1 := Lib.hid hTT1
  have HUU := Lib.hid hUU
  have HVV := Lib.hid hVV
  have HZZ := Lib.hid hZZ
  have HX2 := Lib.hid hx2
  have HX4 := Lib.hid hx4
  clear hJ hRR hTT hTT1 hUU hVV hZZ hx1 hx2 hx3 hx4 hP hp e1 e2 e3 hn1
  go_enter Try.func25, Try.ntmps25
  go_wp2_with fail
  refine (mod_ok _ _ (by omega) (by omega)).mono ?_
  rintro e w' ⟨rfl, rfl⟩
  go_wp2_with fail
  refine (reduced_yes _ M _ h0 h1 HRP.out).mono ?_
  rintro e w' ⟨rfl, rfl⟩
  go_wp2_with fail
  refine (isByte_yes _ _ (by omega) (by omega)).mono ?_
  rintro e w' ⟨rfl, rfl⟩
  go_wp2_with fail
  refine (isByte_yes _ _ (by omega) (by omega)).mono ?_
  rintro e w' ⟨rfl, rfl⟩
  go_wp2_with fail
  refine (leading_any N M _ (by omega) (by omega) h1).mono ?_
  rintro e w1 ⟨rfl, u1⟩
  rw [HTT.out]
  go_wp2_with fail
  rw [HN.out]
  refine (leading_any (N - 1) M _ (by omega) (by omega) h1).mono ?_
  rintro e w2 ⟨rfl, u2⟩
  rw [HTT1.out]
  go_wp2_with fail
  refine (times_any X T1 M _ (by omega) (by omega) (by omega) h1).mono ?_
  rintro e w3 ⟨rfl, u3⟩
  rw [HUU.out]
  go_wp2_with fail
  rw [HX2.out]
  refine (times_any R 256 M _ (by omega) (by omega) (by omega) h1).mono ?_
  rintro e w4 ⟨rfl, u4⟩
  rw [HVV.out]
  go_wp2_with fail
  refine (prem_any Y M _ (by omega) (by omega) h1).mono ?_
  rintro e w5 ⟨rfl, u5⟩
  rw [HZZ.out]
  go_wp2_with fail
  go_ret2
  exact ⟨by rw [← HX4.out]; rfl, (((u1.trans u2).trans u3).trans u4).trans u5⟩

end Go.Proofs.Ytidofplebkbbmaa
