/-
  The laws PolyTurned and PrimeMany, walked: for every input the Go text returns true; nothing that was there turns. No condition.
-/
import Derived.Test.YtlplmiaebcgnmabPrime
import Derived.Test.YtlplmiaebcgnmabCount
import Derived.Test.YtlplmiaebcgnmabMath3
namespace Go.Proofs.Ytlplmiaebcgnmab
open Go.RowKit
open Go.Proofs

theorem bit_toNat (N k : Nat) : (N.testBit k).toNat = N / 2 ^ k % 2 := by
  rw [Nat.testBit_eq_decide_div_mod_eq]
  by_cases h : N / 2 ^ k % 2 = 1
  · simp [h]
  · have : N / 2 ^ k % 2 = 0 := by omega
    simp [this]

theorem div_next (N k : Nat) (h : 0 < N / 2 ^ k) : k < WoolMath.blen N := by
  apply Nat.lt_of_not_le
  intro hle
  have := Nat.lt_of_lt_of_le (WoolMath.lt_blen N) (Nat.pow_le_pow_right (n := 2) (by omega) hle)
  rw [Nat.div_eq_of_lt this] at h
  omega

theorem div_done (N k : Nat) (hk : k ≤ WoolMath.blen N) (h : N / 2 ^ k = 0) : k = WoolMath.blen N := by
  have hlt : N < 2 ^ k := by
    rcases Nat.lt_or_ge N (2 ^ k) with h1 | h1
    · exact h1
    · have := (Nat.le_div_iff_mul_le (Nat.pow_pos (n := k) (show 0 < 2 by omega))).2 (show 1 * 2 ^ k ≤ N by omega)
      omega
  have := WoolMath.blen_le N k hlt
  omega

set_option maxRecDepth 100000 in
set_option maxHeartbeats 400000 in
theorem turned_any (N : Nat) (w : World) (hN : N ≤ 2147483647) :
    Calls Try.prog 14 #[.int .i64 (N : Int)] w fun e w' => e = .returned (.int .i64 (WoolMath.turned N : Nat)) ∧ w = w' := by
  have hbl := WoolMath.blen_le N 31 (by omega)
  go_enter Try.func14, Try.ntmps14
  go_wp2
  go_loop [0, 3] (fun a out => ∃ k : Nat, k ≤ WoolMath.blen N ∧ a = .int .i64 ((N / 2 ^ k : Nat) : Int) ∧ out = .int .i64 ((WoolMath.rv N k : Nat) : Int)) (fun a _ => (intOf a).toNat)
  case atStart => exact ⟨0, by omega, by simp, rfl⟩
  case round =>
    obtain ⟨k, hk, rfl, rfl⟩ := hrel
    have hd0 : N / 2 ^ k ≤ N := Nat.div_le_self _ _
    have hrv : WoolMath.rv N k < 2147483648 := Nat.lt_of_lt_of_le (WoolMath.rv_lt N k) (Nat.pow_le_pow_right (n := 2) (j := 31) (by omega) (by omega))
    by_cases hz : N / 2 ^ k = 0
    · have hkk := div_done N k hk hz
      rw [hz]
      have fin : Ending.returned (.int .i64 ((WoolMath.rv N k : Nat) : Int)) = .returned (.int .i64 (WoolMath.turned N : Nat)) := by unfold WoolMath.turned; rw [← hkk]
      have FIN := Lib.hid fin
      clear hz hkk fin
      go_wp2
      go_ret
      exact ⟨FIN.out, rfl⟩
    · have hpos : 0 < N / 2 ^ k := Nat.pos_of_ne_zero hz
      have hlt := div_next N k hpos
      have hbit := bit_toNat N k
      have hdd : N / 2 ^ (k + 1) = N / 2 ^ k / 2 := by rw [Nat.pow_succ, Nat.div_div_eq_div_mul]
      have hr : WoolMath.rv N (k + 1) = 2 * WoolMath.rv N k + (N.testBit k).toNat := rfl
      rw [hbit] at hr
      have HD := Lib.hid hdd
      have HR := Lib.hid hr
      clear hz hbit hdd hr
      generalize N / 2 ^ k = Q at *
      have d : decide ((0 : Int) < (Q : Int)) = true := by rw [decide_eq_true_iff]; omega
      generalize WoolMath.rv N k = V at *
      go_wp2
      go_round
      case rel => exact ⟨k + 1, by omega, by rw [HD.out]; go_num, by rw [HR.out]; congr 1⟩
      case measure => simp only [intOf]; omega

theorem or_one (A : Nat) (h : A < 4096) : bits .or .i64 (A : Int) 1 = ((A ||| 1 : Nat) : Int) := by
  have hx : A ||| 1 < 2 ^ 63 := Nat.or_lt_two_pow (by omega) (by omega)
  show IntKind.i64.wrap ((BitVec.ofInt 64 (A : Int) ||| BitVec.ofInt 64 ((1 : Nat) : Int)).toNat : Int) = _
  rw [BitVec.toNat_or, ofInt64 A (by omega), ofInt64 1 (by omega)]
  exact wrap_i64_nat _ hx

theorem or_one_odd (A : Nat) : (A ||| 1).testBit 0 = true := by rw [Nat.testBit_or]; simp

set_option maxRecDepth 100000 in
set_option maxHeartbeats 1000000 in
theorem polyTurned_walk (a0 a1 : Int) (w : World) (_w0 : (Lit.int .i64 a0).wf = true) (_w1 : (Lit.int .i64 a1).wf = true) :
    Calls Try.prog 5 #[.int .i64 a0, .int .i64 a1] w fun e w' => e = .returned (.bool true) ∧ Up w w' := by
  go_enter Try.func5, Try.ntmps5
  go_wp2_with fail
  refine (mulN 11 13 _ (by omega) (by omega) (by decide)).mono ?_
  rintro e w1 ⟨rfl, u1⟩
  rw [show WoolMath.mul 11 13 = 127 from by decide]
  go_wp2_with fail
  refine (less_any _ 12 _ (by omega)).mono ?_
  rintro e w' ⟨rfl, rfl⟩
  have hA : within a0 (2 ^ 12) < 4096 := within_lt a0 (2 ^ 12) (by omega)
  generalize within a0 (2 ^ 12) = A0 at *
  have oa := or_one A0 hA
  go_wp2_with fail
  refine (less_any _ 12 _ (by omega)).mono ?_
  rintro e w' ⟨rfl, rfl⟩
  have hB : within a1 (2 ^ 12) < 4096 := within_lt a1 (2 ^ 12) (by omega)
  generalize within a1 (2 ^ 12) = B0 at *
  have ob := or_one B0 hB
  have hA1 : A0 ||| 1 < 2 ^ 12 := Nat.or_lt_two_pow hA (by omega)
  have hB1 : B0 ||| 1 < 2 ^ 12 := Nat.or_lt_two_pow hB (by omega)
  have hAo := or_one_odd A0
  have hBo := or_one_odd B0
  generalize hAe : A0 ||| 1 = A at *
  generalize hBe : B0 ||| 1 = B at *
  have HAO := Lib.hid hAo
  have HBO := Lib.hid hBo
  clear hAo hBo hAe hBe
  have hA0 := WoolMath.odd_ne A HAO.out
  have hB0 := WoolMath.odd_ne B HBO.out
  have hta : WoolMath.turned A < 2 ^ 12 := by
    have := WoolMath.lt_blen (WoolMath.turned A)
    rw [WoolMath.turned_blen A HAO.out] at this
    exact Nat.lt_of_lt_of_le this (Nat.pow_le_pow_right (by omega) (WoolMath.blen_le A 12 hA1))
  have htb : WoolMath.turned B < 2 ^ 12 := by
    have := WoolMath.lt_blen (WoolMath.turned B)
    rw [WoolMath.turned_blen B HBO.out] at this
    exact Nat.lt_of_lt_of_le this (Nat.pow_le_pow_right (by omega) (WoolMath.blen_le B 12 hB1))
  have hm1 : WoolMath.mul A B < 2 ^ 23 := WoolMath.mul_lt A B 12 11 hA1 hB1
  have hm2 : WoolMath.mul (WoolMath.turned A) (WoolMath.turned B) < 2 ^ 23 := WoolMath.mul_lt _ _ 12 11 hta htb
  have htm := WoolMath.turned_mul A B hA0 hB0
  have hpr := WoolMath.turned_prime A HAO.out
  have HTM := Lib.hid htm
  have HPR := Lib.hid hpr
  clear htm hpr hA0 hB0
  go_wp2_with fail
  refine (mulN A B _ (by omega) (by omega) (by omega)).mono ?_
  rintro e w2 ⟨rfl, u2⟩
  go_wp2_with fail
  refine (turned_any A _ (by omega)).mono ?_
  rintro e w' ⟨rfl, rfl⟩
  go_wp2_with fail
  refine (turned_any B _ (by omega)).mono ?_
  rintro e w' ⟨rfl, rfl⟩
  go_wp2_with fail
  refine (mulN _ _ _ (by omega) (by omega) (by omega)).mono ?_
  rintro e w3 ⟨rfl, u3⟩
  rw [← HTM.out]
  by_cases hp : WoolMath.Prime A
  · have hp2 := HPR.out.2 hp
    have HP := Lib.hid hp
    have HP2 := Lib.hid hp2
    clear hp hp2
    go_wp2_with fail
    refine (is_yes A _ (by omega) HP.out).mono ?_
    rintro e w4 ⟨rfl, u4⟩
    go_wp2_with fail
    refine (turned_any A _ (by omega)).mono ?_
    rintro e w' ⟨rfl, rfl⟩
    go_wp2_with fail
    refine (is_yes _ _ (by omega) HP2.out).mono ?_
    rintro e w5 ⟨rfl, u5⟩
    go_wp2_with fail
    refine (turned_any _ _ (by omega)).mono ?_
    rintro e w' ⟨rfl, rfl⟩
    go_wp2_with fail
    go_ret
    exact ⟨rfl, (((u1.trans u2).trans u3).trans u4).trans u5⟩
  · have hp2 : ¬ WoolMath.Prime (WoolMath.turned A) := fun h => hp (HPR.out.1 h)
    have HP := Lib.hid hp
    have HP2 := Lib.hid hp2
    clear hp hp2
    go_wp2_with fail
    refine (is_no A _ (by omega) HP.out).mono ?_
    rintro e w4 ⟨rfl, u4⟩
    go_wp2_with fail
    refine (turned_any A _ (by omega)).mono ?_
    rintro e w' ⟨rfl, rfl⟩
    go_wp2_with fail
    refine (is_no _ _ (by omega) HP2.out).mono ?_
    rintro e w5 ⟨rfl, u5⟩
    go_wp2_with fail
    refine (turned_any _ _ (by omega)).mono ?_
    rintro e w' ⟨rfl, rfl⟩
    go_wp2_with fail
    go_ret
    exact ⟨rfl, (((u1.trans u2).trans u3).trans u4).trans u5⟩

/-! ytlplmiaebcgnmab# PrimeMany -/

theorem mPrime283 : WoolMath.Prime 283 := WoolMath.prime_of 283 (by decide +kernel)

theorem pc_all : ∀ n : Fin 8, 1 ≤ n.val → (WoolMath.pc (2 ^ n.val) (2 ^ (n.val + 1)) : Int) = cnt n.val := by decide +kernel

theorem pc_le (a : Nat) : ∀ b, WoolMath.pc a b ≤ b := by
  intro b
  induction b with
  | zero => exact Nat.le_refl _
  | succ b ih =>
    rw [WoolMath.pc]
    split <;> omega

theorem pc_self (a : Nat) : WoolMath.pc a a = 0 := by
  have key : ∀ b, b ≤ a → WoolMath.pc a b = 0 := by
    intro b
    induction b with
    | zero => intro _; rfl
    | succ b ih =>
      intro h
      rw [WoolMath.pc, ih (by omega)]
      simp [show ¬ a ≤ b by omega]
  exact key a (Nat.le_refl a)

def ManyRel (D E : Nat) (w : World) (many p : Value) (wr : World) : Prop :=
  ∃ P : Nat, D ≤ P ∧ P ≤ E ∧ p = .int .i64 P ∧ many = .int .i64 ((WoolMath.pc D P : Nat) : Int) ∧ Up w wr

set_option maxRecDepth 100000 in
set_option maxHeartbeats 1000000 in
theorem primeMany_walk (a0 : Int) (w : World) (_w0 : (Lit.int .i64 a0).wf = true) :
    Calls Try.prog 3 #[.int .i64 a0] w fun e w' => e = .returned (.bool true) ∧ Up w w' := by
  go_enter Try.func3, Try.ntmps3
  go_wp2_with fail
  refine (count_ok 3 _ (by omega) (by omega)).mono ?_
  rintro e w' ⟨rfl, rfl⟩
  rw [show cnt 3 = 2 from rfl]
  go_wp2_with fail
  refine (within_any _ _ _ (by omega) (by omega)).mono ?_
  rintro e w' ⟨rfl, rfl⟩
  have hN : within a0 (7 : Int).toNat < 7 := within_lt a0 7 (by omega)
  generalize within a0 (7 : Int).toNat = N at *
  go_wp2_with fail
  rw [show (1 : Int) + (N : Int) = ((1 + N : Nat) : Int) by omega]
  have h1 : 1 ≤ 1 + N := by omega
  have h2 : 1 + N ≤ 7 := by omega
  clear hN
  generalize 1 + N = n at *
  refine (count_ok n _ h1 (by omega)).mono ?_
  rintro e w' ⟨rfl, rfl⟩
  have hfin := pc_all ⟨n, by omega⟩ h1
  simp only at hfin
  have HFIN := Lib.hid hfin
  clear hfin
  have hp1 : 2 ^ n ≤ 2 ^ 7 := Nat.pow_le_pow_right (by omega) h2
  have hp2 : 2 ^ (n + 1) = 2 * 2 ^ n := by rw [Nat.pow_succ, Nat.mul_comm]
  have hw1 : wrap64 (2 ^ n) = ((2 ^ n : Nat) : Int) := by
    rw [pow_cast]
    generalize 2 ^ n = z at *
    unfold wrap64
    omega
  have hw2 : wrap64 (2 ^ (n + 1)) = ((2 ^ (n + 1) : Nat) : Int) := by
    rw [pow_cast, hp2]
    generalize 2 ^ n = z at *
    unfold wrap64
    omega
  have hE : 2 ^ (n + 1) ≤ 256 := by omega
  have hle : 2 ^ n ≤ 2 ^ (n + 1) := by omega
  clear hp2
  generalize 2 ^ (n + 1) = E at *
  generalize 2 ^ n = D at *
  go_wp2_with fail
  try rw [hw1]
  clear hw1
  go_loopw [7, 8] (fun many p wr => ManyRel D E w many p wr) (fun _ p _ => E - (intOf p).toNat)
  case atStart => exact ⟨D, Nat.le_refl _, hle, rfl, by rw [pc_self]; rfl, Up.refl w⟩
  case round =>
    obtain ⟨P, hP1, hP2, rfl, rfl, hu⟩ := hrel
    have HU := Lib.hid hu
    clear hu
    have hP283 : P ≤ 283 := Nat.le_trans hP2 (Nat.le_trans hE (by omega))
    obtain ⟨Q, hQ, hQl⟩ := WoolMath.next_exists mPrime283 hP283
    have hPQ := hQ.2.1
    have HQ := Lib.hid hQ
    clear hQ
    have hpcl := pc_le D P
    by_cases hge : E ≤ Q
    · have hup := WoolMath.pc_upto D P Q E hP2 hge HQ.out
      have d1 : decide (E ≤ Q) = true := by rw [decide_eq_true_iff]; omega
      have teq : (((WoolMath.pc D P : Nat) : Int) == cnt n) = true := by rw [beq_iff_eq, ← hup]; exact HFIN.out
      clear hup
      generalize WoolMath.pc D P = C at *
      go_wp2_with fail
      refine (next_ok P Q _ HQ.out (by omega)).mono ?_
      rintro e w2 ⟨rfl, u2⟩
      go_wp2_with fail
      go_ret
      exact ⟨rfl, HU.out.trans u2⟩
    · have hnx := WoolMath.pc_next D P Q hP1 HQ.out
      have hQlt : Q < E := by omega
      have hrel : ManyRel D E w (.int .i64 ((WoolMath.pc D P + 1 : Nat) : Int)) (.int .i64 ((Q + 1 : Nat) : Int)) w := ⟨Q + 1, by omega, by omega, rfl, by rw [hnx], Up.refl w⟩
      have d1 : decide (E ≤ Q) = false := by rw [decide_eq_false_iff_not]; omega
      have HREL := Lib.hid hrel
      clear hnx hge hrel
      generalize hC : WoolMath.pc D P = C at *
      clear hC
      go_wp2_with fail
      refine (next_ok P Q _ HQ.out (by omega)).mono ?_
      rintro e w2 ⟨rfl, u2⟩
      go_wp2_with fail
      go_roundw
      case rel =>
        obtain ⟨P', q1, q2, q3, q4, _⟩ := HREL.out
        exact ⟨P', q1, q2, q3, q4, HU.out.trans u2⟩
      case measure => simp only [intOf]; omega

end Go.Proofs.Ytlplmiaebcgnmab
