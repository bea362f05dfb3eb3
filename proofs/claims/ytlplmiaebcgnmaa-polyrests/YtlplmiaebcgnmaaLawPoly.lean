/-
  The laws PolyDivision, PolyGcd, PolyFrobenius and PolyRests, walked: for every input the Go text returns true; nothing that was there turns. No condition.
-/
import Derived.Test.YtlplmiaebcgnmaaKeep
namespace Go.Proofs.Ytlplmiaebcgnmaa
open Go.RowKit
open Go.Proofs

theorem rem_xor (a b : Nat) : WoolMath.mul (WoolMath.pdiv a b) b = a ^^^ WoolMath.pmod a b := by
  have h := congrArg (fun t => t ^^^ WoolMath.pmod a b) (WoolMath.pdiv_eq a b)
  have h2 : a ^^^ WoolMath.pmod a b = (WoolMath.mul (WoolMath.pdiv a b) b ^^^ WoolMath.pmod a b) ^^^ WoolMath.pmod a b := h
  rw [Nat.xor_assoc, Nat.xor_self, Nat.xor_zero] at h2
  exact h2.symm

theorem deg_lt (a b : Nat) (hb : b ≠ 0) : WoolMath.blen (WoolMath.pmod a b) < WoolMath.blen b := by
  have := WoolMath.blen_le _ _ (WoolMath.pmod_lt a b hb)
  rw [WoolMath.blen_pos b hb]; omega

/-- another quotient leaves more -/
theorem other_more (a b o : Nat) (hb : b ≠ 0) (ho : o ≠ WoolMath.pdiv a b) : WoolMath.blen b ≤ WoolMath.blen (WoolMath.mul o b ^^^ a) := by
  apply Nat.le_of_not_lt
  intro h
  have hr := WoolMath.lt_of_blen _ b hb h
  refine ho (WoolMath.pdiv_of a b o (WoolMath.mul o b ^^^ a) hb ?_ hr).symm
  rw [WoolMath.xor_cancel_left]

set_option maxRecDepth 100000 in
set_option maxHeartbeats 2000000 in
theorem polyDivision_walk (a0 a1 a2 : Int) (w : World) (_w0 : (Lit.int .i64 a0).wf = true) (_w1 : (Lit.int .i64 a1).wf = true) (_w2 : (Lit.int .i64 a2).wf = true) :
    Calls Try.prog 10 #[.int .i64 a0, .int .i64 a1, .int .i64 a2] w fun e w' => e = .returned (.bool true) ∧ Up w w' := by
  by_cases hbad : a0 < 0 ∨ 2147483647 < a0 ∨ a1 < 0 ∨ 2147483647 < a1
  · have HB := Lib.hid hbad
    clear hbad
    go_enter Try.func10, Try.ntmps10
    go_wp2_with fail
    refine (divN 27 5 _ (by omega) (by omega) (by omega)).mono ?_
    rintro e w1 ⟨rfl, u1⟩
    rw [show WoolMath.pdiv 27 5 = 7 from by decide, show WoolMath.pmod 27 5 = 0 from by decide]
    go_wp2_with fail
    refine (div_bad _ _ _ HB.out).mono ?_
    rintro e w2 ⟨rfl, u2⟩
    go_wp2_with fail
    go_ret
    exact ⟨rfl, u1.trans u2⟩
  obtain ⟨A, rfl⟩ := Int.eq_ofNat_of_zero_le (show 0 ≤ a0 by omega)
  have hA : A ≤ 2147483647 := by omega
  by_cases hz : a1 = 0
  · subst hz
    clear hbad
    go_enter Try.func10, Try.ntmps10
    go_wp2_with fail
    refine (divN 27 5 _ (by omega) (by omega) (by omega)).mono ?_
    rintro e w1 ⟨rfl, u1⟩
    rw [show WoolMath.pdiv 27 5 = 7 from by decide, show WoolMath.pmod 27 5 = 0 from by decide]
    go_wp2_with fail
    refine (div_zero _ _ (by omega) (by omega)).mono ?_
    rintro e w2 ⟨rfl, u2⟩
    go_wp2_with fail
    go_ret
    exact ⟨rfl, u1.trans u2⟩
  obtain ⟨B, rfl⟩ := Int.eq_ofNat_of_zero_le (show 0 ≤ a1 by omega)
  have hB : B ≤ 2147483647 := by omega
  have hB0 : 0 < B := by omega
  clear hbad hz
  have hq := pdiv_le A B (by omega) hA
  have hr := pmod_le A B (by omega) hB
  have hp := rem_xor A B
  have hpl : A ^^^ WoolMath.pmod A B < 2 ^ 31 := Nat.xor_lt_two_pow (by omega) (by omega)
  have hd := deg_lt A B (by omega)
  have hlb := WoolMath.blen_le B 31 (by omega)
  have hs : (A ^^^ WoolMath.pmod A B) ^^^ WoolMath.pmod A B = A := by rw [Nat.xor_assoc, Nat.xor_self, Nat.xor_zero]
  have HP := Lib.hid hp
  have HS := Lib.hid hs
  clear hp hs
  have d1 : decide ((WoolMath.blen B : Int) - 1 ≤ (WoolMath.blen (WoolMath.pmod A B) : Int) - 1) = false := by rw [decide_eq_false_iff_not]; omega
  go_enter Try.func10, Try.ntmps10
  go_wp2_with fail
  refine (divN 27 5 _ (by omega) (by omega) (by omega)).mono ?_
  rintro e w1 ⟨rfl, u1⟩
  rw [show WoolMath.pdiv 27 5 = 7 from by decide, show WoolMath.pmod 27 5 = 0 from by decide]
  go_wp2_with fail
  refine (divN A B _ hA hB0 hB).mono ?_
  rintro e w2 ⟨rfl, u2⟩
  go_wp2_with fail
  refine (mulN _ B _ hq hB (by rw [HP.out]; omega)).mono ?_
  rintro e w3 ⟨rfl, u3⟩
  rw [HP.out]
  go_wp2_with fail
  refine (addN _ _ _ (by omega) (by omega)).mono ?_
  rintro e w4 ⟨rfl, u4⟩
  rw [HS.out]
  go_wp2_with fail
  refine (degN _ _ (by omega)).mono ?_
  rintro e w' ⟨rfl, rfl⟩
  go_wp2_with fail
  refine (degN _ _ (by omega)).mono ?_
  rintro e w' ⟨rfl, rfl⟩
  have HU := Lib.hid (((u1.trans u2).trans u3).trans u4)
  clear u1 u2 u3 u4
  go_wp2_with fail
  by_cases hob : a2 < 0 ∨ 2147483647 < a2
  · refine (mul_bad _ _ _ (by omega)).mono ?_
    rintro e w5 ⟨rfl, u5⟩
    clear hob
    go_wp2_with fail
    go_ret
    exact ⟨rfl, HU.out.trans u5⟩
  obtain ⟨O, rfl⟩ := Int.eq_ofNat_of_zero_le (show 0 ≤ a2 by omega)
  have hO : O ≤ 2147483647 := by omega
  clear hob
  by_cases hol : 2147483647 < WoolMath.mul O B
  · refine (mul_large _ _ _ (by omega) (by omega) (by omega) (by omega) (by rw [Int.toNat_natCast, Int.toNat_natCast]; exact hol)).mono ?_
    rintro e w5 ⟨rfl, u5⟩
    go_wp2_with fail
    go_ret
    exact ⟨rfl, HU.out.trans u5⟩
  refine (mulN O B _ hO hB (by omega)).mono ?_
  rintro e w5 ⟨rfl, u5⟩
  by_cases hoq : O = WoolMath.pdiv A B
  · have z : ((O : Int) == (WoolMath.pdiv A B : Int)) = true := by rw [beq_iff_eq, hoq]
    clear hoq hol
    go_wp2_with fail
    go_ret
    exact ⟨rfl, HU.out.trans u5⟩
  · have z : ((O : Int) == (WoolMath.pdiv A B : Int)) = false := by rw [beq_eq_false_iff_ne]; omega
    have hm := other_more A B O (by omega) hoq
    have hxl : WoolMath.mul O B ^^^ A < 2 ^ 31 := Nat.xor_lt_two_pow (by omega) (by omega)
    have hbx := WoolMath.blen_le _ 31 hxl
    have d2 : decide ((WoolMath.blen B : Int) - 1 ≤ (WoolMath.blen (WoolMath.mul O B ^^^ A) : Int) - 1) = true := by rw [decide_eq_true_iff]; omega
    clear hoq
    go_wp2_with fail
    refine (addN _ _ _ (by omega) (by omega)).mono ?_
    rintro e w6 ⟨rfl, u6⟩
    go_wp2_with fail
    refine (degN _ _ (by omega)).mono ?_
    rintro e w' ⟨rfl, rfl⟩
    go_wp2_with fail
    go_ret
    exact ⟨rfl, (HU.out.trans u5).trans u6⟩

theorem gcd65 (g : Nat) (h : WoolMath.IsGcd g 6 5) : g = 3 := by
  have h1 : WoolMath.IsGcd 3 6 5 := by
    rw [WoolMath.gcd_step, show WoolMath.pmod 6 5 = 3 from by decide, WoolMath.gcd_step, show WoolMath.pmod 5 3 = 0 from by decide]
    exact WoolMath.gcd_zero 3
  exact WoolMath.gcd_unique h h1

set_option maxRecDepth 100000 in
set_option maxHeartbeats 2000000 in
theorem polyGcd_walk (a0 a1 a2 : Int) (w : World) (_w0 : (Lit.int .i64 a0).wf = true) (_w1 : (Lit.int .i64 a1).wf = true) (_w2 : (Lit.int .i64 a2).wf = true) :
    Calls Try.prog 11 #[.int .i64 a0, .int .i64 a1, .int .i64 a2] w fun e w' => e = .returned (.bool true) ∧ Up w w' := by
  go_enter Try.func11, Try.ntmps11
  go_wp2_with fail
  refine (gcdN 6 5 _ (by omega) (by omega)).mono ?_
  rintro e w1 ⟨g0, hgl0, hg0, rfl, u1⟩
  rw [gcd65 g0 hg0]
  clear hg0 hgl0 g0
  go_wp2_with fail
  refine (less_any _ 16 _ (by omega)).mono ?_
  rintro e w' ⟨rfl, rfl⟩
  have hA : within a0 (2 ^ 16) < 65536 := within_lt a0 (2 ^ 16) (by omega)
  generalize within a0 (2 ^ 16) = A at *
  go_wp2_with fail
  refine (less_any _ 16 _ (by omega)).mono ?_
  rintro e w' ⟨rfl, rfl⟩
  have hB : within a1 (2 ^ 16) < 65536 := within_lt a1 (2 ^ 16) (by omega)
  generalize within a1 (2 ^ 16) = B at *
  go_wp2_with fail
  refine (less_any _ 14 _ (by omega)).mono ?_
  rintro e w' ⟨rfl, rfl⟩
  have hC : within a2 (2 ^ 14) < 16384 := within_lt a2 (2 ^ 14) (by omega)
  generalize within a2 (2 ^ 14) = C at *
  go_wp2_with fail
  rw [show (1 : Int) + (C : Int) = ((1 + C : Nat) : Int) by omega]
  have hC0 : 0 < 1 + C := by omega
  have hC1 : 1 + C ≤ 16384 := by omega
  clear hC
  generalize 1 + C = D at *
  refine (gcdN A B _ (by omega) (by omega)).mono ?_
  rintro e w2 ⟨g, hgl, hg, rfl, u2⟩
  have HG := Lib.hid hg
  clear hg
  go_wp2_with fail
  refine (gcdN B A _ (by omega) (by omega)).mono ?_
  rintro e w3 ⟨h, hhl, hh, rfl, u3⟩
  rw [WoolMath.gcd_unique (WoolMath.gcd_comm hh) HG.out]
  clear hh hhl h
  have m1 : WoolMath.mul A D < 2 ^ 30 := WoolMath.mul_lt A D 16 14 hA (by omega)
  have m2 : WoolMath.mul B D < 2 ^ 30 := WoolMath.mul_lt B D 16 14 hB (by omega)
  go_wp2_with fail
  refine (mulN A D _ (by omega) (by omega) (by omega)).mono ?_
  rintro e w4 ⟨rfl, u4⟩
  go_wp2_with fail
  refine (mulN B D _ (by omega) (by omega) (by omega)).mono ?_
  rintro e w5 ⟨rfl, u5⟩
  go_wp2_with fail
  refine (gcdN _ _ _ (by omega) (by omega)).mono ?_
  rintro e w6 ⟨k, hkl, hk, rfl, u6⟩
  have ek : k = WoolMath.mul g D := WoolMath.gcd_unique hk (WoolMath.gcd_mul D HG.out)
  clear hk
  rw [ek]
  rw [ek] at hkl
  clear ek k
  go_wp2_with fail
  refine (mulN g D _ (by omega) (by omega) (by omega)).mono ?_
  rintro e w7 ⟨rfl, u7⟩
  have HU := Lib.hid ((((((u1.trans u2).trans u3).trans u4).trans u5).trans u6).trans u7)
  clear u1 u2 u3 u4 u5 u6 u7
  by_cases hg0 : g = 0
  · have z : ((g : Int) == 0) = true := by rw [beq_iff_eq]; omega
    have hd := (HG.out 0).1 (by rw [hg0]; exact WoolMath.dvd_refl 0)
    have z1 : ((A : Int) == 0) = true := by rw [beq_iff_eq]; have := WoolMath.zero_dvd A hd.1; omega
    have z2 : ((B : Int) == 0) = true := by rw [beq_iff_eq]; have := WoolMath.zero_dvd B hd.2; omega
    clear hg0 hd
    go_wp2_with fail
    go_ret
    exact ⟨rfl, HU.out⟩
  · have z : ((g : Int) == 0) = false := by rw [beq_eq_false_iff_ne]; omega
    have hgp : 0 < g := by omega
    have hd := (HG.out g).1 (WoolMath.dvd_refl g)
    have r1 : WoolMath.pmod A g = 0 := (WoolMath.dvd_iff _ _ hg0).1 hd.1
    have r2 : WoolMath.pmod B g = 0 := (WoolMath.dvd_iff _ _ hg0).1 hd.2
    have r3 : WoolMath.pmod (WoolMath.mul g D) D = 0 := (WoolMath.dvd_iff _ _ (by omega)).1 ⟨g, rfl⟩
    have R1 := Lib.hid r1
    have R2 := Lib.hid r2
    have R3 := Lib.hid r3
    clear hg0 hd r1 r2 r3
    go_wp2_with fail
    refine (divN A g _ (by omega) (by omega) (by omega)).mono ?_
    rintro e w8 ⟨rfl, u8⟩
    rw [R1.out]
    go_wp2_with fail
    refine (divN B g _ (by omega) (by omega) (by omega)).mono ?_
    rintro e w9 ⟨rfl, u9⟩
    rw [R2.out]
    go_wp2_with fail
    refine (divN _ D _ (by omega) (by omega) (by omega)).mono ?_
    rintro e w10 ⟨rfl, u10⟩
    rw [R3.out]
    go_wp2_with fail
    go_ret
    exact ⟨rfl, ((HU.out.trans u8).trans u9).trans u10⟩

set_option maxRecDepth 100000 in
set_option maxHeartbeats 2000000 in
theorem polyFrobenius_walk (a0 a1 a2 a3 a4 : Int) (w : World) (_w0 : (Lit.int .i64 a0).wf = true) (_w1 : (Lit.int .i64 a1).wf = true) (_w2 : (Lit.int .i64 a2).wf = true) (_w3 : (Lit.int .i64 a3).wf = true) (_w4 : (Lit.int .i64 a4).wf = true) :
    Calls Try.prog 12 #[.int .i64 a0, .int .i64 a1, .int .i64 a2, .int .i64 a3, .int .i64 a4] w fun e w' => e = .returned (.bool true) ∧ Up w w' := by
  go_enter Try.func12, Try.ntmps12
  go_wp2_with fail
  refine (modPowN 2 3 7 _ (by omega) (by omega) (by omega) (by omega)).mono ?_
  rintro e w1 ⟨rfl, u1⟩
  rw [show WoolMath.pmod (WoolMath.pw 2 3) 7 = 1 from by decide]
  go_wp2_with fail
  refine (within_any _ _ _ (by omega) (by omega)).mono ?_
  rintro e w' ⟨rfl, rfl⟩
  have hA : within a0 (2147483647 : Int).toNat < 2147483647 := within_lt a0 2147483647 (by omega)
  generalize within a0 (2147483647 : Int).toNat = A at *
  go_wp2_with fail
  refine (within_any _ _ _ (by omega) (by omega)).mono ?_
  rintro e w' ⟨rfl, rfl⟩
  have hB : within a1 (2147483647 : Int).toNat < 2147483647 := within_lt a1 2147483647 (by omega)
  generalize within a1 (2147483647 : Int).toNat = B at *
  go_wp2_with fail
  refine (within_any _ _ _ (by omega) (by omega)).mono ?_
  rintro e w' ⟨rfl, rfl⟩
  have hM : within a2 (2147483646 : Int).toNat < 2147483646 := within_lt a2 2147483646 (by omega)
  generalize within a2 (2147483646 : Int).toNat = M0 at *
  go_wp2_with fail
  refine (within_any _ _ _ (by omega) (by omega)).mono ?_
  rintro e w' ⟨rfl, rfl⟩
  have hI : within a3 (1048576 : Int).toNat < 1048576 := within_lt a3 1048576 (by omega)
  generalize within a3 (1048576 : Int).toNat = I at *
  go_wp2_with fail
  refine (within_any _ _ _ (by omega) (by omega)).mono ?_
  rintro e w' ⟨rfl, rfl⟩
  have hK : within a4 (1048576 : Int).toNat < 1048576 := within_lt a4 1048576 (by omega)
  generalize within a4 (1048576 : Int).toNat = K at *
  go_wp2_with fail
  rw [show (2 : Int) + (M0 : Int) = ((2 + M0 : Nat) : Int) by omega]
  have hM0 : 0 < 2 + M0 := by omega
  have hM1 : 2 + M0 ≤ 2147483647 := by omega
  clear hM
  generalize 2 + M0 = M at *
  have s1 : A ^^^ B < 2 ^ 31 := Nat.xor_lt_two_pow (by omega) (by omega)
  have e1 := WoolMath.frobenius A B M (by omega)
  have e2 : WoolMath.pmod (WoolMath.mul (WoolMath.pmod (WoolMath.pw A I) M) (WoolMath.pmod (WoolMath.pw A K) M)) M = WoolMath.pmod (WoolMath.pw A (I + K)) M := by
    rw [WoolMath.pmod_mul_left _ _ _ (by omega), WoolMath.pmod_mul_right _ _ _ (by omega), ← WoolMath.pw_add]
  have l1 := pmod_le (WoolMath.pw A 2) M (by omega) hM1
  have l2 := pmod_le (WoolMath.pw B 2) M (by omega) hM1
  have l3 := pmod_le (WoolMath.pw A I) M (by omega) hM1
  have l4 := pmod_le (WoolMath.pw A K) M (by omega) hM1
  have l5 := pmod_le (WoolMath.pw A (I + K)) M (by omega) hM1
  have E1 := Lib.hid e1
  have E2 := Lib.hid e2
  clear e1 e2
  refine (addN A B _ (by omega) (by omega)).mono ?_
  rintro e w2 ⟨rfl, u2⟩
  go_wp2_with fail
  refine (modPowN (A ^^^ B) 2 M _ (by omega) (by omega) hM0 hM1).mono ?_
  rintro e w3 ⟨rfl, u3⟩
  rw [E1.out]
  go_wp2_with fail
  refine (modPowN A 2 M _ (by omega) (by omega) hM0 hM1).mono ?_
  rintro e w4 ⟨rfl, u4⟩
  go_wp2_with fail
  refine (modPowN B 2 M _ (by omega) (by omega) hM0 hM1).mono ?_
  rintro e w5 ⟨rfl, u5⟩
  go_wp2_with fail
  refine (addN _ _ _ (by omega) (by omega)).mono ?_
  rintro e w6 ⟨rfl, u6⟩
  go_wp2_with fail
  refine (modPowN A I M _ (by omega) (by omega) hM0 hM1).mono ?_
  rintro e w7 ⟨rfl, u7⟩
  go_wp2_with fail
  refine (modPowN A K M _ (by omega) (by omega) hM0 hM1).mono ?_
  rintro e w8 ⟨rfl, u8⟩
  go_wp2_with fail
  rw [show (I : Int) + (K : Int) = ((I + K : Nat) : Int) by omega]
  refine (modPowN A (I + K) M _ (by omega) (by omega) hM0 hM1).mono ?_
  rintro e w9 ⟨rfl, u9⟩
  go_wp2_with fail
  refine (modMulN _ _ M _ (by omega) (by omega) hM0 hM1).mono ?_
  rintro e w10 ⟨rfl, u10⟩
  rw [E2.out]
  have HU := Lib.hid (((((((((u1.trans u2).trans u3).trans u4).trans u5).trans u6).trans u7).trans u8).trans u9).trans u10)
  clear u1 u2 u3 u4 u5 u6 u7 u8 u9 u10 E1 E2
  generalize WoolMath.pmod (WoolMath.pw A 2) M = x1 at *
  generalize WoolMath.pmod (WoolMath.pw B 2) M = x2 at *
  generalize WoolMath.pmod (WoolMath.pw A I) M = x3 at *
  generalize WoolMath.pmod (WoolMath.pw A K) M = x4 at *
  generalize WoolMath.pmod (WoolMath.pw A (I + K)) M = x5 at *
  generalize x1 ^^^ x2 = x6 at *
  generalize A ^^^ B = x7 at *
  go_wp2_with fail
  go_loop [125] (fun i => ∃ k : Nat, k ≤ 9 ∧ i = .int .i64 k) (fun i => 9 - (intOf i).toNat)
  case atStart => exact ⟨0, by omega, rfl⟩
  case round =>
    obtain ⟨k, hk, rfl⟩ := hrel
    by_cases hlt : k < 9
    · have hc := zeros9 w10 22 k hlt
      go_wp2_with fail
      go_round
      case rel => exact ⟨k + 1, by omega, by go_num⟩
      case measure => simp [intOf]; omega
    · have d : decide (k < 9) = false := by rw [decide_eq_false_iff_not]; omega
      go_wp2_with fail
      go_ret
      exact ⟨rfl, HU.out.trans (Up.alloc _ _)⟩

set_option maxRecDepth 100000 in
set_option maxHeartbeats 2000000 in
theorem polyRests_walk (a0 a1 a2 a3 : Int) (w : World) (_w0 : (Lit.int .i64 a0).wf = true) (_w1 : (Lit.int .i64 a1).wf = true) (_w2 : (Lit.int .i64 a2).wf = true) (_w3 : (Lit.int .i64 a3).wf = true) :
    Calls Try.prog 13 #[.int .i64 a0, .int .i64 a1, .int .i64 a2, .int .i64 a3] w fun e w' => e = .returned (.bool true) ∧ Up w w' := by
  go_enter Try.func13, Try.ntmps13
  go_wp2_with fail
  refine (modMulN 6 5 7 _ (by omega) (by omega) (by omega) (by omega)).mono ?_
  rintro e w1 ⟨rfl, u1⟩
  rw [show WoolMath.pmod (WoolMath.mul 6 5) 7 = 2 from by decide]
  go_wp2_with fail
  refine (within_any _ _ _ (by omega) (by omega)).mono ?_
  rintro e w' ⟨rfl, rfl⟩
  have hA : within a0 (2147483647 : Int).toNat < 2147483647 := within_lt a0 2147483647 (by omega)
  generalize within a0 (2147483647 : Int).toNat = A at *
  go_wp2_with fail
  refine (within_any _ _ _ (by omega) (by omega)).mono ?_
  rintro e w' ⟨rfl, rfl⟩
  have hB : within a1 (2147483647 : Int).toNat < 2147483647 := within_lt a1 2147483647 (by omega)
  generalize within a1 (2147483647 : Int).toNat = B at *
  go_wp2_with fail
  refine (within_any _ _ _ (by omega) (by omega)).mono ?_
  rintro e w' ⟨rfl, rfl⟩
  have hC : within a2 (2147483647 : Int).toNat < 2147483647 := within_lt a2 2147483647 (by omega)
  generalize within a2 (2147483647 : Int).toNat = C at *
  go_wp2_with fail
  refine (within_any _ _ _ (by omega) (by omega)).mono ?_
  rintro e w' ⟨rfl, rfl⟩
  have hM : within a3 (2147483646 : Int).toNat < 2147483646 := within_lt a3 2147483646 (by omega)
  generalize within a3 (2147483646 : Int).toNat = M0 at *
  go_wp2_with fail
  rw [show (2 : Int) + (M0 : Int) = ((2 + M0 : Nat) : Int) by omega]
  have hM0 : 0 < 2 + M0 := by omega
  have hM1 : 2 + M0 ≤ 2147483647 := by omega
  clear hM
  generalize 2 + M0 = M at *
  have l1 := pmod_le A M (by omega) hM1
  have l2 := pmod_le B M (by omega) hM1
  have l3 := pmod_le (WoolMath.mul A B) M (by omega) hM1
  have l4 := pmod_le (WoolMath.mul B C) M (by omega) hM1
  have e1 : WoolMath.pmod (WoolMath.mul (WoolMath.pmod A M) (WoolMath.pmod B M)) M = WoolMath.pmod (WoolMath.mul A B) M := by
    rw [WoolMath.pmod_mul_left _ _ _ (by omega), WoolMath.pmod_mul_right _ _ _ (by omega)]
  have e2 : WoolMath.pmod (WoolMath.mul A (WoolMath.pmod (WoolMath.mul B C) M)) M = WoolMath.pmod (WoolMath.mul (WoolMath.pmod (WoolMath.mul A B) M) C) M := by
    rw [WoolMath.pmod_mul_left _ _ _ (by omega), WoolMath.pmod_mul_right _ _ _ (by omega), WoolMath.mul_assoc]
  have hd := deg_lt (WoolMath.mul A B) M (by omega)
  have hlm := WoolMath.blen_le M 31 (by omega)
  have E1 := Lib.hid e1
  have E2 := Lib.hid e2
  clear e1 e2
  refine (divN A M _ (by omega) hM0 hM1).mono ?_
  rintro e w2 ⟨rfl, u2⟩
  go_wp2_with fail
  refine (divN B M _ (by omega) hM0 hM1).mono ?_
  rintro e w3 ⟨rfl, u3⟩
  go_wp2_with fail
  refine (modMulN A B M _ (by omega) (by omega) hM0 hM1).mono ?_
  rintro e w4 ⟨rfl, u4⟩
  go_wp2_with fail
  refine (modMulN _ _ M _ (by omega) (by omega) hM0 hM1).mono ?_
  rintro e w5 ⟨rfl, u5⟩
  rw [E1.out]
  go_wp2_with fail
  refine (modMulN _ C M _ (by omega) (by omega) hM0 hM1).mono ?_
  rintro e w6 ⟨rfl, u6⟩
  go_wp2_with fail
  refine (modMulN B C M _ (by omega) (by omega) hM0 hM1).mono ?_
  rintro e w7 ⟨rfl, u7⟩
  go_wp2_with fail
  refine (modMulN A _ M _ (by omega) (by omega) hM0 hM1).mono ?_
  rintro e w8 ⟨rfl, u8⟩
  rw [E2.out]
  go_wp2_with fail
  refine (degN _ _ (by omega)).mono ?_
  rintro e w' ⟨rfl, rfl⟩
  go_wp2_with fail
  refine (degN M _ (by omega)).mono ?_
  rintro e w' ⟨rfl, rfl⟩
  have HU := Lib.hid (((((((u1.trans u2).trans u3).trans u4).trans u5).trans u6).trans u7).trans u8)
  have d2 : decide ((WoolMath.blen (WoolMath.pmod (WoolMath.mul A B) M) : Int) - 1 < (WoolMath.blen M : Int) - 1) = true := by rw [decide_eq_true_iff]; omega
  clear u1 u2 u3 u4 u5 u6 u7 u8 E1 E2
  generalize WoolMath.pdiv A M = x1 at *
  generalize WoolMath.pdiv B M = x2 at *
  generalize WoolMath.pmod A M = x3 at *
  generalize WoolMath.pmod B M = x4 at *
  generalize WoolMath.pmod (WoolMath.mul B C) M = x5 at *
  generalize WoolMath.pmod (WoolMath.mul A B) M = x6 at *
  generalize WoolMath.pmod (WoolMath.mul x6 C) M = x7 at *
  generalize WoolMath.blen x6 = x8 at *
  generalize WoolMath.blen M = x9 at *
  go_wp2_with fail
  go_loop [122] (fun i => ∃ k : Nat, k ≤ 9 ∧ i = .int .i64 k) (fun i => 9 - (intOf i).toNat)
  case atStart => exact ⟨0, by omega, rfl⟩
  case round =>
    obtain ⟨k, hk, rfl⟩ := hrel
    by_cases hlt : k < 9
    · have hc := zeros9 w8 22 k hlt
      go_wp2_with fail
      go_round
      case rel => exact ⟨k + 1, by omega, by go_num⟩
      case measure => simp [intOf]; omega
    · have d : decide (k < 9) = false := by rw [decide_eq_false_iff_not]; omega
      go_wp2_with fail
      go_ret
      exact ⟨rfl, HU.out.trans (Up.alloc _ _)⟩

end Go.Proofs.Ytlplmiaebcgnmaa
