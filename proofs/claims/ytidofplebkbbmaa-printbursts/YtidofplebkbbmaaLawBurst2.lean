/-
  The law PrintBursts, walked: for every modulus, text, place and pattern the Go text returns true; nothing that was there turns. Conditions: a text that came in has at most 2^47 - 4096 bytes.
-/
import Derived.Test.YtidofplebkbbmaaLawBurst
namespace Go.Proofs.Ytidofplebkbbmaa
open Go.RowKit
open Go.Proofs

theorem fpSa : fp 65581 (⟨#[97]⟩ : ByteArray).data.toList = 353 := by decide +kernel

theorem fpSc : fp 65581 (⟨#[99]⟩ : ByteArray).data.toList = 355 := by decide +kernel

theorem or_one31 (A : Nat) (h : A < 2147483648) : bits .or .i64 (A : Int) 1 = ((A ||| 1 : Nat) : Int) := by
  have hx : A ||| 1 < 2 ^ 63 := Nat.or_lt_two_pow (by omega) (by omega)
  show IntKind.i64.wrap ((BitVec.ofInt 64 (A : Int) ||| BitVec.ofInt 64 ((1 : Nat) : Int)).toNat : Int) = _
  rw [BitVec.toNat_or, ofInt64 A (by omega), ofInt64 1 (by omega)]
  exact wrap_i64_nat _ hx

theorem or_one_mod (A : Nat) : (A ||| 1) % 2 = 1 := by
  have : (A ||| 1).testBit 0 = true := by rw [Nat.testBit_or]; simp
  rw [Nat.testBit_zero] at this
  exact of_decide_eq_true this

theorem or_one_ge (A : Nat) : A ≤ A ||| 1 := Nat.left_le_or

theorem u16_of (a : Int) (h : (Lit.int .u16 a).wf = true) : ∃ T : Nat, a = (T : Int) ∧ T < 65536 := by
  have h1 : 0 ≤ a ∧ a < 65536 := by
    simp [Lit.wf] at h
    have e1 : IntKind.u16.min = 0 := by decide
    have e2 : IntKind.u16.max = 65535 := by decide
    omega
  obtain ⟨n, rfl⟩ := Int.eq_ofNat_of_zero_le h1.1
  exact ⟨n, rfl, by omega⟩

set_option maxRecDepth 100000 in
set_option maxHeartbeats 1000000 in
theorem printBursts_walk (a0 : Int) (a1 : ByteArray) (a2 a3 : Int) (w : World) (_w0 : (Lit.int .i64 a0).wf = true) (w1 : a1.size ≤ 140737488351232) (_w2 : (Lit.int .i64 a2).wf = true) (w3 : (Lit.int .u16 a3).wf = true) :
    Calls Try.prog 10 #[.int .i64 a0, .string a1, .int .i64 a2, .int .u16 a3] w fun e w' => e = .returned (.bool true) ∧ Up w w' := by
  obtain ⟨T, rfl, hT⟩ := u16_of a3 w3
  clear w3
  have HA := Lib.hid fpSa
  have HC := Lib.hid fpSc
  obtain ⟨m, hm⟩ : ∃ m : Nat, m = min a1.size 600 := ⟨_, rfl⟩
  have hm1 : m ≤ a1.size := by omega
  have hm600 : m ≤ 600 := by omega
  have hmin : ∀ (ts : Array TypeId) (t : TypeId) (W : World), (Builtin.min_ ts t #[.int .i64 (a1.size : Int), .int .i64 600]).run Try.prog W = .ok (.int .i64 (m : Int)) W := by
    intro ts t W
    simp [Builtin.min_, Builtin.min2]
    split <;> omega
  have hes := extract_size a1 m hm1
  clear hm
  go_enter Try.func10, Try.ntmps10
  go_wp2_with fail
  refine (of_ok 65581 _ _ (by omega) (by omega) (by decide)).mono ?_
  rintro e v1 ⟨rfl, u1⟩
  rw [HA.out]
  go_wp2_with fail
  refine (of_ok 65581 _ _ (by omega) (by omega) (by decide)).mono ?_
  rintro e v2 ⟨rfl, u2⟩
  rw [HC.out]
  go_wp2_with fail
  refine (within_any a0 2147418111 _ (by omega) (by omega)).mono ?_
  rintro e w' ⟨rfl, rfl⟩
  rw [show (2147418111 : Int).toNat = 2147418111 from rfl]
  have hX := within_lt a0 2147418111 (by omega)
  generalize within a0 2147418111 = X at *
  have hor := or_one31 (65536 + X) (by omega)
  rw [show ((65536 + X : Nat) : Int) = 65536 + (X : Int) by omega] at hor
  have hM1 : (65536 + X) ||| 1 < 2 ^ 31 := Nat.or_lt_two_pow (by omega) (by omega)
  have hM2 := or_one_ge (65536 + X)
  have hM3 := or_one_mod (65536 + X)
  generalize (65536 + X) ||| 1 = M at *
  have HM3 := Lib.hid hM3
  have hM0 : 65536 ≤ M := by omega
  clear hM3 hM2
  have hT0 : 0 ≤ (T : Int) := by omega
  by_cases ht : T = 0
  · subst ht
    go_wp2_with fail
    go_ret
    exact ⟨rfl, u1.trans u2⟩
  · have ht' : ((T : Int) == 0) = false := by rw [beq_eq_false_iff_ne]; omega
    have HT0 := Lib.hid ht
    clear ht
    by_cases hs2 : m < 2
    · go_wp2_with fail
      go_ret
      exact ⟨rfl, u1.trans u2⟩
    · have hs3 : 2 ≤ m := by omega
      clear hs2
      go_wp2_with fail
      generalize a1.extract 0 m = S at *
      have hes1 : S.size ≤ 600 := by omega
      have HES := Lib.hid hes
      clear hes hm1 hm600 hmin
      rw [show 8 * (m : Int) - 15 = 8 * (S.size : Int) - 15 by rw [HES.out]]
      have hs4 : 2 ≤ S.size := by rw [HES.out]; exact hs3
      rw [show 8 * (S.size : Int) - 15 = ((8 * S.size - 15 : Nat) : Int) by omega]
      refine (within_any a2 _ _ (by omega) (by omega)).mono ?_
      rintro e w' ⟨rfl, rfl⟩
      rw [Int.toNat_natCast]
      have hW := within_lt a2 (8 * S.size - 15) (by omega)
      generalize within a2 (8 * S.size - 15) = A at *
      go_wp2_with fail
      refine (of_ok M _ _ (by omega) (by omega) hes1).mono ?_
      rintro e v3 ⟨rfl, u3⟩
      go_wp2_with fail
      refine (burst_any S A T _ hes1 (by omega) hT).mono ?_
      rintro e v4 ⟨l, hl, hsp, rfl, u4⟩
      have hdiff := burst_differ M HM3.out hM0 (sp S.data.toList) T (8 * S.size - 16 - A) HT0.out hT
      rw [← hsp] at hdiff
      have hdiff' : fp M l ≠ fp M S.data.toList := hdiff
      have hls : (ByteArray.mk l.toArray).size ≤ 600 := by show l.toArray.size ≤ 600; rw [List.size_toArray, hl]; exact hes1
      clear hsp hdiff hl
      have HD := Lib.hid hdiff'
      clear hdiff'
      go_wp2_with fail
      refine (of_ok M _ _ (by omega) (by omega) hls).mono ?_
      rintro e v5 ⟨rfl, u5⟩
      rw [show (ByteArray.mk l.toArray).data.toList = l from rfl]
      have hne : ((fp M S.data.toList : Int) != (fp M l : Int)) = true := by
        rw [bne_iff_ne]; have := HD.out; omega
      generalize fp M S.data.toList = P at *
      generalize fp M l = Q at *
      go_wp2_with fail
      go_ret
      exact ⟨rfl, (((u1.trans u2).trans u3).trans u4).trans u5⟩

end Go.Proofs.Ytidofplebkbbmaa
