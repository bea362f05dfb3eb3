/-
  The law PrintMoves, walked: for every six ints the Go text returns true; nothing that was there turns. No condition.
-/
import Derived.Test.YtidofplebkbbmaaLawMoves2
namespace Go.Proofs.Ytidofplebkbbmaa
open Go.RowKit
open Go.Proofs

/-- what the reference reckons of a roll -/
structure RollNums (M A X Y N T T1 U R V Z : Nat) : Prop where
  hT : WoolMath.pmod (WoolMath.pw 2 (8 * N)) M = T
  hT1 : WoolMath.pmod (WoolMath.pw 2 (8 * (N - 1))) M = T1
  hU : WoolMath.pmod (WoolMath.mul X T1) M = U
  hR : A ^^^ T ^^^ U = R
  hV : WoolMath.pmod (WoolMath.mul R 256) M = V
  hZ : WoolMath.pmod (WoolMath.mul Y 1) M = Z

theorem RollNums.test {M A X Y N T T1 U R V Z : Nat} (h : RollNums M A X Y N T T1 U R V Z) (h0 : 2 ≤ M) (h1 : M ≤ 2147483647) (hA : A < 1073741824) :
    T < 1073741824 ∧ T1 < 1073741824 ∧ R < 1073741824 ∧ bits .xor .i64 (bits .xor .i64 (A : Int) (T : Int)) (U : Int) = (R : Int) ∧
      (((rollV M A X Y N : Nat) : Int) == bits .xor .i64 (bits .xor .i64 (V : Int) (Z : Int)) (T : Int)) = true := by
  have hm : M ≠ 0 := by omega
  have hTl : T < 1073741824 := h.hT ▸ pmod_le _ _ hm h1
  have hT1l : T1 < 1073741824 := h.hT1 ▸ pmod_le _ _ hm h1
  have hUl : U < 1073741824 := h.hU ▸ pmod_le _ _ hm h1
  have hVl : V < 1073741824 := h.hV ▸ pmod_le _ _ hm h1
  have hZl : Z < 1073741824 := h.hZ ▸ pmod_le _ _ hm h1
  have hRl : R < 1073741824 := h.hR ▸ xor30 _ _ (xor30 _ _ hA hTl) hUl
  refine ⟨hTl, hT1l, hRl, ?_, ?_⟩
  · rw [i64_xor_nat A T (lt63 _ hA) (lt63 _ hTl), i64_xor_nat _ U (lt63 _ (xor30 _ _ hA hTl)) (lt63 _ hUl), h.hR]
  · have e : rollV M A X Y N = V ^^^ Z ^^^ T := by
      unfold rollV restV
      rw [← pw2, ← pw2, h.hT, h.hT1, h.hU, h.hR, h.hV, ← h.hZ, WoolMath.mul_one]
    rw [i64_xor_nat V Z (lt63 _ hVl) (lt63 _ hZl), i64_xor_nat _ T (lt63 _ (xor30 _ _ hVl hZl)) (lt63 _ hTl), e]
    simp

set_option maxRecDepth 100000 in
set_option maxHeartbeats 2000000 in
theorem moves_ny (M A X Y N : Nat) (b : Int) (w : World) (h0 : 2 ≤ M) (h1 : M ≤ 2147483647) (hA : A < 2 ^ M.log2) (hb : ¬ isRest b M) (hX : X ≤ 255) (hY : Y ≤ 255) (hN0 : 1 ≤ N) (hN : N ≤ 600) :
    Calls Try.prog 4 #[.int .i64 (M : Int), .int .i64 (A : Int), .int .i64 b, .int .i64 (N : Int), .int .i64 (X : Int), .int .i64 (Y : Int)] w fun e w' => e = .returned (.bool true) ∧ Up w w' := by
  have hp := pow_log2_le M (by omega) h1
  have HA := Lib.hid (show isRest (A : Int) M from ⟨by omega, by omega⟩)
  have HB := Lib.hid hb
  have HAL := Lib.hid hA
  have hA0 : A < 1073741824 := by omega
  obtain ⟨T, hT⟩ : ∃ T, WoolMath.pmod (WoolMath.pw 2 (8 * N)) M = T := ⟨_, rfl⟩
  obtain ⟨T1, hT1⟩ : ∃ T1, WoolMath.pmod (WoolMath.pw 2 (8 * (N - 1))) M = T1 := ⟨_, rfl⟩
  obtain ⟨U, hU⟩ : ∃ U, WoolMath.pmod (WoolMath.mul X T1) M = U := ⟨_, rfl⟩
  obtain ⟨R, hR⟩ : ∃ R, A ^^^ T ^^^ U = R := ⟨_, rfl⟩
  obtain ⟨V, hV⟩ : ∃ V, WoolMath.pmod (WoolMath.mul R 256) M = V := ⟨_, rfl⟩
  obtain ⟨Z, hZ⟩ : ∃ Z, WoolMath.pmod (WoolMath.mul Y 1) M = Z := ⟨_, rfl⟩
  have hnums : RollNums M A X Y N T T1 U R V Z := ⟨hT, hT1, hU, hR, hV, hZ⟩
  obtain ⟨hTl, hT1l, hRl, hxr, htest⟩ := hnums.test h0 h1 hA0
  have HN := Lib.hid hnums
  have HXR := Lib.hid hxr
  have HTE := Lib.hid htest
  have H8 := Lib.hid (show (8 : Int) * (N : Int) = ((8 * N : Nat) : Int) by omega)
  have H9 := Lib.hid (show (8 : Int) * ((N : Int) - 1) = ((8 * (N - 1) : Nat) : Int) by omega)
  have h8 : 8 * N < 2 ^ 13 := by omega
  have h9 : 8 * (N - 1) < 2 ^ 13 := by omega
  clear hA hb hp hT hT1 hU hR hV hZ hnums hxr htest
  go_enter Try.func4, Try.ntmps4
  go_wp2_with fail
  refine (join_arg M _ _ _ _ h0 h1 (fun h => HB.out h.2.1)).mono ?_
  rintro e w' ⟨rfl, rfl⟩
  go_wp2_with fail
  refine (roll_ok M A X Y N _ h0 h1 HAL.out hX hY hN0 hN).mono ?_
  rintro e v1 ⟨rfl, u1⟩
  have hte := HTE.out
  generalize rollV M A X Y N = Q at *
  go_wp2_with fail
  refine (modulus_ok _ _ (by omega) (by omega)).mono ?_
  rintro e w' ⟨rfl, rfl⟩
  go_wp2_with fail
  refine (rest_yes _ M _ h0 h1 HA.out).mono ?_
  rintro e v2 ⟨rfl, u2⟩
  go_wp2_with fail
  refine (rest_no _ M _ h0 h1 HB.out).mono ?_
  rintro e v3 ⟨rfl, u3⟩
  go_wp2_with fail
  refine (rest_yes _ M _ h0 h1 HA.out).mono ?_
  rintro e v4 ⟨rfl, u4⟩
  go_wp2_with fail
  rw [H8.out]
  refine (refModPow_any 13 2 (8 * N) M _ h8 (by omega) (by omega) (by omega) h1).mono ?_
  rintro e v5 ⟨rfl, u5⟩
  rw [HN.out.hT]
  go_wp2_with fail
  rw [H9.out]
  refine (refModPow_any 13 2 (8 * (N - 1)) M _ h9 (by omega) (by omega) (by omega) h1).mono ?_
  rintro e v6 ⟨rfl, u6⟩
  rw [HN.out.hT1]
  go_wp2_with fail
  refine (refModMul_any X T1 M _ (by omega) (by omega) (by omega) h1).mono ?_
  rintro e v7 ⟨rfl, u7⟩
  rw [HN.out.hU]
  go_wp2_with fail
  rw [HXR.out]
  refine (refModMul_any R 256 M _ (by omega) (by omega) (by omega) h1).mono ?_
  rintro e v8 ⟨rfl, u8⟩
  rw [HN.out.hV]
  go_wp2_with fail
  refine (refModMul_any Y 1 M _ (by omega) (by omega) (by omega) h1).mono ?_
  rintro e v9 ⟨rfl, u9⟩
  rw [HN.out.hZ]
  go_wp2_with fail
  go_ret
  exact ⟨rfl, (((((((u1.trans u2).trans u3).trans u4).trans u5).trans u6).trans u7).trans u8).trans u9⟩

set_option maxRecDepth 100000 in
set_option maxHeartbeats 2000000 in
theorem moves_yy (M A B X Y N : Nat) (w : World) (h0 : 2 ≤ M) (h1 : M ≤ 2147483647) (hA : A < 2 ^ M.log2) (hB : B < 2 ^ M.log2) (hX : X ≤ 255) (hY : Y ≤ 255) (hN0 : 1 ≤ N) (hN : N ≤ 600) :
    Calls Try.prog 4 #[.int .i64 (M : Int), .int .i64 (A : Int), .int .i64 (B : Int), .int .i64 (N : Int), .int .i64 (X : Int), .int .i64 (Y : Int)] w fun e w' => e = .returned (.bool true) ∧ Up w w' := by
  have hp := pow_log2_le M (by omega) h1
  have HA := Lib.hid (show isRest (A : Int) M from ⟨by omega, by omega⟩)
  have HB := Lib.hid (show isRest (B : Int) M from ⟨by omega, by omega⟩)
  have HAL := Lib.hid hA
  have HBL := Lib.hid hB
  have hA0 : A < 1073741824 := by omega
  have hB0 : B < 1073741824 := by omega
  obtain ⟨T, hT⟩ : ∃ T, WoolMath.pmod (WoolMath.pw 2 (8 * N)) M = T := ⟨_, rfl⟩
  obtain ⟨W, hW⟩ : ∃ W, WoolMath.pmod (WoolMath.mul A T) M = W := ⟨_, rfl⟩
  obtain ⟨T1, hT1⟩ : ∃ T1, WoolMath.pmod (WoolMath.pw 2 (8 * (N - 1))) M = T1 := ⟨_, rfl⟩
  obtain ⟨U, hU⟩ : ∃ U, WoolMath.pmod (WoolMath.mul X T1) M = U := ⟨_, rfl⟩
  obtain ⟨R, hR⟩ : ∃ R, A ^^^ T ^^^ U = R := ⟨_, rfl⟩
  obtain ⟨V, hV⟩ : ∃ V, WoolMath.pmod (WoolMath.mul R 256) M = V := ⟨_, rfl⟩
  obtain ⟨Z, hZ⟩ : ∃ Z, WoolMath.pmod (WoolMath.mul Y 1) M = Z := ⟨_, rfl⟩
  have hnums : RollNums M A X Y N T T1 U R V Z := ⟨hT, hT1, hU, hR, hV, hZ⟩
  obtain ⟨hTl, hT1l, hRl, hxr, htest⟩ := hnums.test h0 h1 hA0
  have HJT := Lib.hid (join_test M A B N W T h0 h1 hB0 hT hW)
  have HW := Lib.hid hW
  have HN := Lib.hid hnums
  have HXR := Lib.hid hxr
  have HTE := Lib.hid htest
  have H8 := Lib.hid (show (8 : Int) * (N : Int) = ((8 * N : Nat) : Int) by omega)
  have H9 := Lib.hid (show (8 : Int) * ((N : Int) - 1) = ((8 * (N - 1) : Nat) : Int) by omega)
  have h8 : 8 * N < 2 ^ 13 := by omega
  have h9 : 8 * (N - 1) < 2 ^ 13 := by omega
  clear hA hB hp hT hW hT1 hU hR hV hZ hnums hxr htest
  go_enter Try.func4, Try.ntmps4
  go_wp2_with fail
  refine (join_ok M A B N _ h0 h1 HAL.out HBL.out hN).mono ?_
  rintro e v0 ⟨rfl, u0⟩
  have hjt := HJT.out
  generalize joinV M A B N = J at *
  go_wp2_with fail
  refine (roll_ok M A X Y N _ h0 h1 HAL.out hX hY hN0 hN).mono ?_
  rintro e v1 ⟨rfl, u1⟩
  have hte := HTE.out
  generalize rollV M A X Y N = Q at *
  go_wp2_with fail
  refine (modulus_ok _ _ (by omega) (by omega)).mono ?_
  rintro e w' ⟨rfl, rfl⟩
  go_wp2_with fail
  refine (rest_yes _ M _ h0 h1 HA.out).mono ?_
  rintro e v2 ⟨rfl, u2⟩
  go_wp2_with fail
  refine (rest_yes _ M _ h0 h1 HB.out).mono ?_
  rintro e v3 ⟨rfl, u3⟩
  go_wp2_with fail
  refine (rest_yes _ M _ h0 h1 HA.out).mono ?_
  rintro e v4 ⟨rfl, u4⟩
  go_wp2_with fail
  rw [H8.out]
  refine (refModPow_any 13 2 (8 * N) M _ h8 (by omega) (by omega) (by omega) h1).mono ?_
  rintro e v10 ⟨rfl, u10⟩
  rw [HN.out.hT]
  go_wp2_with fail
  refine (refModMul_any A T M _ (by omega) (by omega) (by omega) h1).mono ?_
  rintro e v11 ⟨rfl, u11⟩
  rw [HW.out]
  go_wp2_with fail
  rw [H8.out]
  refine (refModPow_any 13 2 (8 * N) M _ h8 (by omega) (by omega) (by omega) h1).mono ?_
  rintro e v12 ⟨rfl, u12⟩
  rw [HN.out.hT]
  go_wp2_with fail
  rw [H8.out]
  refine (refModPow_any 13 2 (8 * N) M _ h8 (by omega) (by omega) (by omega) h1).mono ?_
  rintro e v5 ⟨rfl, u5⟩
  rw [HN.out.hT]
  go_wp2_with fail
  rw [H9.out]
  refine (refModPow_any 13 2 (8 * (N - 1)) M _ h9 (by omega) (by omega) (by omega) h1).mono ?_
  rintro e v6 ⟨rfl, u6⟩
  rw [HN.out.hT1]
  go_wp2_with fail
  refine (refModMul_any X T1 M _ (by omega) (by omega) (by omega) h1).mono ?_
  rintro e v7 ⟨rfl, u7⟩
  rw [HN.out.hU]
  go_wp2_with fail
  rw [HXR.out]
  refine (refModMul_any R 256 M _ (by omega) (by omega) (by omega) h1).mono ?_
  rintro e v8 ⟨rfl, u8⟩
  rw [HN.out.hV]
  go_wp2_with fail
  refine (refModMul_any Y 1 M _ (by omega) (by omega) (by omega) h1).mono ?_
  rintro e v9 ⟨rfl, u9⟩
  rw [HN.out.hZ]
  go_wp2_with fail
  go_ret
  exact ⟨rfl, (((((((((((u0.trans u1).trans u2).trans u3).trans u4).trans u10).trans u11).trans u12).trans u5).trans u6).trans u7).trans u8).trans u9⟩

theorem printMoves_walk (a0 a1 a2 a3 a4 a5 : Int) (w : World) (_w0 : (Lit.int .i64 a0).wf = true) (_w1 : (Lit.int .i64 a1).wf = true) (_w2 : (Lit.int .i64 a2).wf = true) (_w3 : (Lit.int .i64 a3).wf = true) (_w4 : (Lit.int .i64 a4).wf = true) (_w5 : (Lit.int .i64 a5).wf = true) :
    Calls Try.prog 4 #[.int .i64 a0, .int .i64 a1, .int .i64 a2, .int .i64 a3, .int .i64 a4, .int .i64 a5] w fun e w' => e = .returned (.bool true) ∧ Up w w' := by
  by_cases hm : a0 < 2 ∨ 2147483647 < a0
  · exact moves_bad a0 a1 a2 a3 a4 a5 w hm
  · obtain ⟨M, rfl⟩ := Int.eq_ofNat_of_zero_le (show 0 ≤ a0 by omega)
    have h0 : 2 ≤ M := by omega
    have h1 : M ≤ 2147483647 := by omega
    by_cases ha : isRest a1 M
    · by_cases hb : isRest a2 M
      · by_cases hn : a3 < 0 ∨ 600 < a3
        · exact moves_c M a1 a2 a3 a4 a5 w h0 h1 ha hb hn
        · obtain ⟨A, rfl⟩ := Int.eq_ofNat_of_zero_le ha.1
          obtain ⟨B, rfl⟩ := Int.eq_ofNat_of_zero_le hb.1
          obtain ⟨N, rfl⟩ := Int.eq_ofNat_of_zero_le (show 0 ≤ a3 by omega)
          have hA : A < 2 ^ M.log2 := by have := ha.2; omega
          have hB : B < 2 ^ M.log2 := by have := hb.2; omega
          by_cases hr : 0 ≤ a4 ∧ a4 ≤ 255 ∧ 0 ≤ a5 ∧ a5 ≤ 255 ∧ 1 ≤ (N : Int) ∧ (N : Int) ≤ 600
          · obtain ⟨X, rfl⟩ := Int.eq_ofNat_of_zero_le hr.1
            obtain ⟨Y, rfl⟩ := Int.eq_ofNat_of_zero_le hr.2.2.1
            exact moves_yy M A B X Y N w h0 h1 hA hB (by omega) (by omega) (by omega) (by omega)
          · exact moves_yn M A B N a4 a5 w h0 h1 hA hB (by omega) hr
      · by_cases hr : 0 ≤ a4 ∧ a4 ≤ 255 ∧ 0 ≤ a5 ∧ a5 ≤ 255 ∧ 1 ≤ a3 ∧ a3 ≤ 600
        · obtain ⟨A, rfl⟩ := Int.eq_ofNat_of_zero_le ha.1
          have hA : A < 2 ^ M.log2 := by have := ha.2; omega
          obtain ⟨X, rfl⟩ := Int.eq_ofNat_of_zero_le hr.1
          obtain ⟨Y, rfl⟩ := Int.eq_ofNat_of_zero_le hr.2.2.1
          obtain ⟨N, rfl⟩ := Int.eq_ofNat_of_zero_le (show 0 ≤ a3 by omega)
          exact moves_ny M A X Y N a2 w h0 h1 hA hb (by omega) (by omega) (by omega) (by omega)
        · exact moves_b M a1 a2 a3 a4 a5 w h0 h1 ha hb hr
    · exact moves_0 M a1 a2 a3 a4 a5 w h0 h1 ha

end Go.Proofs.Ytidofplebkbbmaa
