/-
  The law PrintMoves, walked: for every six ints the Go text returns true; nothing that was there turns. No condition.
-/
import Derived.Test.YtidofplebkbbmaaLawMoves
namespace Go.Proofs.Ytidofplebkbbmaa
open Go.RowKit
open Go.Proofs

theorem pw2 (n : Nat) : WoolMath.pw 2 (8 * n) = WoolMath.pw 256 n := by
  induction n with
  | zero => rfl
  | succ n ih =>
    rw [show 8 * (n + 1) = 8 * n + 8 by omega, WoolMath.pw_add, ih, show WoolMath.pw 2 8 = 256 from by decide]
    rfl

set_option maxRecDepth 100000 in
set_option maxHeartbeats 2000000 in
theorem moves_c (M : Nat) (a b n x y : Int) (w : World) (h0 : 2 ≤ M) (h1 : M ≤ 2147483647) (ha : isRest a M) (hb : isRest b M) (hn : n < 0 ∨ 600 < n) :
    Calls Try.prog 4 #[.int .i64 (M : Int), .int .i64 a, .int .i64 b, .int .i64 n, .int .i64 x, .int .i64 y] w fun e w' => e = .returned (.bool true) ∧ Up w w' := by
  have hr : ¬ (0 ≤ x ∧ x ≤ 255 ∧ 0 ≤ y ∧ y ≤ 255 ∧ 1 ≤ n ∧ n ≤ 600) := by omega
  have HA := Lib.hid ha
  have HB := Lib.hid hb
  have HR := Lib.hid hr
  have HN := Lib.hid (show ¬ (0 ≤ n ∧ n ≤ 600) by omega)
  have hc := r_cases x y n hr
  clear ha hb hr
  rcases hn with hn | hn
  all_goals
    rcases hc with c1 | ⟨c1, c2⟩ | ⟨c1, c2, c3⟩ | ⟨c1, c2, c3, c4⟩ | ⟨c1, c2, c3, c4, c5⟩ | ⟨c1, c2, c3, c4, c5, c6⟩
  all_goals first
    | (exfalso; omega)
    | (go_enter Try.func4, Try.ntmps4
       go_wp2_with fail
       refine (join_arg M _ _ _ _ h0 h1 (fun h => HN.out h.2.2)).mono ?_
       rintro e w' ⟨rfl, rfl⟩
       go_wp2_with fail
       refine (roll_arg M _ _ _ _ _ h0 h1 (fun h => HR.out h.2)).mono ?_
       rintro e w' ⟨rfl, rfl⟩
       go_wp2_with fail
       refine (modulus_ok _ _ (by omega) (by omega)).mono ?_
       rintro e w' ⟨rfl, rfl⟩
       go_wp2_with fail
       refine (rest_yes _ M _ h0 h1 HA.out).mono ?_
       rintro e w1 ⟨rfl, u1⟩
       go_wp2_with fail
       refine (rest_yes _ M _ h0 h1 HB.out).mono ?_
       rintro e w2 ⟨rfl, u2⟩
       go_wp2_with fail
       refine (rest_yes _ M _ h0 h1 HA.out).mono ?_
       rintro e w3 ⟨rfl, u3⟩
       go_wp2_with fail
       go_ret
       exact ⟨rfl, (u1.trans u2).trans u3⟩)

theorem join_test (M A B N X T : Nat) (h0 : 2 ≤ M) (h1 : M ≤ 2147483647) (hB : B < 1073741824) (hT : WoolMath.pmod (WoolMath.pw 2 (8 * N)) M = T) (hX : WoolMath.pmod (WoolMath.mul A T) M = X) :
    (((joinV M A B N : Nat) : Int) != bits .xor .i64 (bits .xor .i64 (X : Int) (B : Int)) (T : Int)) = false := by
  have e : joinV M A B N = X ^^^ B ^^^ T := by
    unfold joinV
    rw [← pw2, hT, hX]
  have hTl : T < 1073741824 := hT ▸ pmod_le _ _ (by omega) h1
  have hXl : X < 1073741824 := hX ▸ pmod_le _ _ (by omega) h1
  rw [i64_xor_nat X B (lt63 _ hXl) (lt63 _ hB), i64_xor_nat _ T (lt63 _ (xor30 _ _ hXl hB)) (lt63 _ hTl), e]
  simp

set_option maxRecDepth 100000 in
set_option maxHeartbeats 2000000 in
theorem moves_yn (M A B N : Nat) (x y : Int) (w : World) (h0 : 2 ≤ M) (h1 : M ≤ 2147483647) (hA : A < 2 ^ M.log2) (hB : B < 2 ^ M.log2) (hN : N ≤ 600) (hr : ¬ (0 ≤ x ∧ x ≤ 255 ∧ 0 ≤ y ∧ y ≤ 255 ∧ 1 ≤ (N : Int) ∧ (N : Int) ≤ 600)) :
    Calls Try.prog 4 #[.int .i64 (M : Int), .int .i64 (A : Int), .int .i64 (B : Int), .int .i64 (N : Int), .int .i64 x, .int .i64 y] w fun e w' => e = .returned (.bool true) ∧ Up w w' := by
  have hp := pow_log2_le M (by omega) h1
  have HA := Lib.hid (show isRest (A : Int) M from ⟨by omega, by omega⟩)
  have HB := Lib.hid (show isRest (B : Int) M from ⟨by omega, by omega⟩)
  have HAL := Lib.hid hA
  have HBL := Lib.hid hB
  have HR := Lib.hid hr
  have hc := r_cases x y (N : Int) hr
  have hA0 : A < 1073741824 := by omega
  have hB0 : B < 1073741824 := by omega
  have HT := Lib.hid (join_test M A B N _ _ h0 h1 hB0 rfl rfl)
  have hTl := pmod_le (WoolMath.pw 2 (8 * N)) M (by omega) h1
  have hXl := pmod_le (WoolMath.mul A (WoolMath.pmod (WoolMath.pw 2 (8 * N)) M)) M (by omega) h1
  have H8 := Lib.hid (show (8 : Int) * (N : Int) = ((8 * N : Nat) : Int) by omega)
  have h8 : 8 * N < 2 ^ 13 := by omega
  generalize hTT : WoolMath.pmod (WoolMath.pw 2 (8 * N)) M = T at *
  generalize hXX : WoolMath.pmod (WoolMath.mul A T) M = X at *
  have HTT := Lib.hid hTT
  have HXX := Lib.hid hXX
  clear hA hB hr hp hTT hXX
  rcases hc with c1 | ⟨c1, c2⟩ | ⟨c1, c2, c3⟩ | ⟨c1, c2, c3, c4⟩ | ⟨c1, c2, c3, c4, c5⟩ | ⟨c1, c2, c3, c4, c5, c6⟩
  all_goals first
    | (exfalso; omega)
    | (go_enter Try.func4, Try.ntmps4
       go_wp2_with fail
       refine (join_ok M A B N _ h0 h1 HAL.out HBL.out hN).mono ?_
       rintro e v1 ⟨rfl, u1⟩
       have ht := HT.out
       generalize joinV M A B N = J at *
       go_wp2_with fail
       refine (roll_arg M _ _ _ _ _ h0 h1 (fun h => HR.out h.2)).mono ?_
       rintro e w' ⟨rfl, rfl⟩
       go_wp2_with fail
       refine (modulus_ok _ _ (by omega) (by omega)).mono ?_
       rintro e w' ⟨rfl, rfl⟩
       go_wp2_with fail
       refine (rest_yes _ M _ h0 h1 HA.out).mono ?_
       rintro e v2 ⟨rfl, u2⟩
       go_wp2_with fail
       refine (rest_yes _ M _ h0 h1 HB.out).mono ?_
       rintro e v3 ⟨rfl, u3⟩
       go_wp2_with fail
       refine (rest_yes _ M _ h0 h1 HA.out).mono ?_
       rintro e v4 ⟨rfl, u4⟩
       go_wp2_with fail
       rw [H8.out]
       refine (refModPow_any 13 2 (8 * N) M _ h8 (by omega) (by omega) (by omega) h1).mono ?_
       rintro e v5 ⟨rfl, u5⟩
       rw [HTT.out]
       go_wp2_with fail
       refine (refModMul_any A T M _ (by omega) (by omega) (by omega) h1).mono ?_
       rintro e v6 ⟨rfl, u6⟩
       rw [HXX.out]
       go_wp2_with fail
       rw [H8.out]
       refine (refModPow_any 13 2 (8 * N) M _ h8 (by omega) (by omega) (by omega) h1).mono ?_
       rintro e v7 ⟨rfl, u7⟩
       rw [HTT.out]
       go_wp2_with fail
       go_ret
       exact ⟨rfl, (((((u1.trans u2).trans u3).trans u4).trans u5).trans u6).trans u7⟩)

end Go.Proofs.Ytidofplebkbbmaa
