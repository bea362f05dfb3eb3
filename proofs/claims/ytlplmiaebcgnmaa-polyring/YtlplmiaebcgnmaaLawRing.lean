/-
  The law PolyRing, walked: for every a, b, c the Go text returns true; nothing that was there turns. No condition.
-/
import Derived.Test.YtlplmiaebcgnmaaKeep
namespace Go.Proofs.Ytlplmiaebcgnmaa
open Go.RowKit
open Go.Proofs

theorem u0_self (A : Nat) : A ^^^ A = 0 := Nat.xor_self A

set_option maxRecDepth 100000 in
set_option maxHeartbeats 2000000 in
theorem polyRing_walk (a0 a1 a2 : Int) (w : World) (_w0 : (Lit.int .i64 a0).wf = true) (_w1 : (Lit.int .i64 a1).wf = true) (_w2 : (Lit.int .i64 a2).wf = true) :
    Calls Try.prog 8 #[.int .i64 a0, .int .i64 a1, .int .i64 a2] w fun e w' => e = .returned (.bool true) ∧ Up w w' := by
  go_enter Try.func8, Try.ntmps8
  go_wp2_with fail
  refine (mulN 7 5 _ (by omega) (by omega) (by decide)).mono ?_
  rintro e w1 ⟨rfl, u1⟩
  rw [show WoolMath.mul 7 5 = 27 from by decide]
  go_wp2_with fail
  refine (less_any _ 11 _ (by omega)).mono ?_
  rintro e w' ⟨rfl, rfl⟩
  have hA : within a0 (2 ^ 11) < 2048 := within_lt a0 (2 ^ 11) (by omega)
  generalize within a0 (2 ^ 11) = A at *
  go_wp2_with fail
  refine (less_any _ 11 _ (by omega)).mono ?_
  rintro e w' ⟨rfl, rfl⟩
  have hB : within a1 (2 ^ 11) < 2048 := within_lt a1 (2 ^ 11) (by omega)
  generalize within a1 (2 ^ 11) = B at *
  go_wp2_with fail
  refine (less_any _ 10 _ (by omega)).mono ?_
  rintro e w' ⟨rfl, rfl⟩
  have hC : within a2 (2 ^ 10) < 1024 := within_lt a2 (2 ^ 10) (by omega)
  generalize within a2 (2 ^ 10) = C at *
  have m1 : WoolMath.mul A B < 2 ^ 21 := WoolMath.mul_lt A B 11 10 hA hB
  have m2 : WoolMath.mul B C < 2 ^ 20 := WoolMath.mul_lt B C 11 9 hB hC
  have m3 : WoolMath.mul (WoolMath.mul A B) C < 2 ^ 30 := WoolMath.mul_lt _ C 21 9 m1 hC
  have m4 : WoolMath.mul A C < 2 ^ 20 := WoolMath.mul_lt A C 11 9 hA hC
  have s1 : B ^^^ C < 2 ^ 11 := Nat.xor_lt_two_pow hB (by omega)
  have m5 : WoolMath.mul A (B ^^^ C) < 2 ^ 21 := WoolMath.mul_lt A _ 11 10 hA s1
  have e1 : WoolMath.mul B A = WoolMath.mul A B := WoolMath.mul_comm B A
  have e2 : WoolMath.mul A (WoolMath.mul B C) = WoolMath.mul (WoolMath.mul A B) C := (WoolMath.mul_assoc A B C).symm
  have e3 : WoolMath.mul A B ^^^ WoolMath.mul A C = WoolMath.mul A (B ^^^ C) := (WoolMath.mul_xor A B C).symm
  have e4 := WoolMath.mul_eq_zero A B
  have E1 := Lib.hid e1
  have E2 := Lib.hid e2
  have E3 := Lib.hid e3
  have E4 := Lib.hid e4
  clear e1 e2 e3 e4
  go_wp2_with fail
  refine (mulN A B _ (by omega) (by omega) (by omega)).mono ?_
  rintro e w2 ⟨rfl, u2⟩
  go_wp2_with fail
  refine (mulN B A _ (by omega) (by omega) (by rw [E1.out]; omega)).mono ?_
  rintro e w3 ⟨rfl, u3⟩
  rw [E1.out]
  go_wp2_with fail
  refine (mulN B C _ (by omega) (by omega) (by omega)).mono ?_
  rintro e w4 ⟨rfl, u4⟩
  go_wp2_with fail
  refine (mulN _ C _ (by omega) (by omega) (by omega)).mono ?_
  rintro e w5 ⟨rfl, u5⟩
  go_wp2_with fail
  refine (mulN A _ _ (by omega) (by omega) (by rw [E2.out]; omega)).mono ?_
  rintro e w6 ⟨rfl, u6⟩
  rw [E2.out]
  go_wp2_with fail
  refine (addN B C _ (by omega) (by omega)).mono ?_
  rintro e w7 ⟨rfl, u7⟩
  go_wp2_with fail
  refine (mulN A _ _ (by omega) (by omega) (by omega)).mono ?_
  rintro e w8 ⟨rfl, u8⟩
  go_wp2_with fail
  refine (mulN A C _ (by omega) (by omega) (by omega)).mono ?_
  rintro e w9 ⟨rfl, u9⟩
  go_wp2_with fail
  refine (addN _ _ _ (by omega) (by omega)).mono ?_
  rintro e w10 ⟨rfl, u10⟩
  rw [E3.out]
  go_wp2_with fail
  refine (addN A A _ (by omega) (by omega)).mono ?_
  rintro e w11 ⟨rfl, u11⟩
  rw [u0_self]
  have HU := Lib.hid ((((((((((u1.trans u2).trans u3).trans u4).trans u5).trans u6).trans u7).trans u8).trans u9).trans u10).trans u11)
  clear u1 u2 u3 u4 u5 u6 u7 u8 u9 u10 u11
  generalize WoolMath.mul (WoolMath.mul A B) C = L at *
  generalize WoolMath.mul A (B ^^^ C) = T at *
  generalize hM : WoolMath.mul A B = M at *
  generalize WoolMath.mul A C = N at *
  generalize WoolMath.mul B C = R at *
  generalize B ^^^ C = S at *
  clear E1 E2 E3 hM
  go_wp2_with fail
  go_loop [121] (fun i => ∃ k : Nat, k ≤ 10 ∧ i = .int .i64 k) (fun i => 10 - (intOf i).toNat)
  case atStart => exact ⟨0, by omega, rfl⟩
  case round =>
    obtain ⟨k, hk, rfl⟩ := hrel
    by_cases hlt : k < 10
    · have hc := zeros10 w11 22 k hlt
      go_wp2_with fail
      go_round
      case rel => exact ⟨k + 1, by omega, by go_num⟩
      case measure => simp [intOf]; omega
    · have d : decide (k < 10) = false := by rw [decide_eq_false_iff_not]; omega
      go_wp2_with fail
      refine (mulN A 1 _ (by omega) (by omega) (by rw [WoolMath.mul_one]; omega)).mono ?_
      rintro e w12 ⟨rfl, u12⟩
      rw [WoolMath.mul_one]
      have e4 := E4.out
      by_cases hA0 : A = 0
      · have z1 : ((A : Int) == 0) = true := by rw [beq_iff_eq]; omega
        have z2 : ((M : Int) == 0) = true := by rw [beq_iff_eq]; have := e4.2 (.inl hA0); omega
        clear hA0 e4
        go_wp2_with fail
        go_ret
        exact ⟨rfl, (HU.out.trans (Up.alloc _ _)).trans u12⟩
      · have z1 : ((A : Int) == 0) = false := by rw [beq_eq_false_iff_ne]; omega
        by_cases hB0 : B = 0
        · have z3 : ((B : Int) == 0) = true := by rw [beq_iff_eq]; omega
          have z2 : ((M : Int) == 0) = true := by rw [beq_iff_eq]; have := e4.2 (.inr hB0); omega
          clear hA0 hB0 e4
          go_wp2_with fail
          go_ret
          exact ⟨rfl, (HU.out.trans (Up.alloc _ _)).trans u12⟩
        · have z3 : ((B : Int) == 0) = false := by rw [beq_eq_false_iff_ne]; omega
          have z2 : ((M : Int) == 0) = false := by
            rw [beq_eq_false_iff_ne]
            intro h
            rcases e4.1 (by omega) with h | h
            · exact hA0 h
            · exact hB0 h
          clear hA0 hB0 e4
          go_wp2_with fail
          go_ret
          exact ⟨rfl, (HU.out.trans (Up.alloc _ _)).trans u12⟩

end Go.Proofs.Ytlplmiaebcgnmaa
