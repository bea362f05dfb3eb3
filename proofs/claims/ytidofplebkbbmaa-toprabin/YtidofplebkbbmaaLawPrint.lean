/-
  The laws PrintJoins, PrintByte and PrintParts, walked: for every modulus and every text the Go text returns true; nothing that was there turns. Conditions: a text that came in has at most 2^47 - 4096 bytes.
-/
import Derived.Test.YtidofplebkbbmaaPrintM
import Derived.Laws.Concat
import Derived.Laws.IdiomStrings
namespace Go.Proofs.Ytidofplebkbbmaa
open Go.RowKit
open Go.Proofs

theorem ba_append_list (a b : ByteArray) : (a ++ b).data.toList = a.data.toList ++ b.data.toList := by
  rw [ByteArray.data_append, Array.toList_append]

theorem ba_length (a : ByteArray) : a.data.toList.length = a.size := by rw [Array.length_toList]; rfl

theorem fp7 : fp 7 (⟨#[]⟩ : ByteArray).data.toList = 1 := by decide +kernel

set_option maxRecDepth 100000 in
set_option maxHeartbeats 1000000 in
theorem printJoins_walk (a0 : Int) (a1 a2 : ByteArray) (w : World) (_w0 : (Lit.int .i64 a0).wf = true) (w1 : a1.size ≤ 140737488351232) (w2 : a2.size ≤ 140737488351232) :
    Calls Try.prog 7 #[.int .i64 a0, .string a1, .string a2] w fun e w' => e = .returned (.bool true) ∧ Up w w' := by
  have hadd : ∀ v : World, (Op.stringOp .add a1 a2).run Try.prog v = .ok (.string (a1 ++ a2)) v := fun v => run_string_add_sum v a1 a2 (by omega)
  have HF7 := Lib.hid fp7
  go_enter Try.func7, Try.ntmps7
  go_wp2_with fail
  refine (of_ok 7 _ _ (by omega) (by omega) (by decide)).mono ?_
  rintro e v1 ⟨rfl, u1⟩
  rw [HF7.out]
  by_cases hm : a0 < 2 ∨ 2147483647 < a0
  · have HM := Lib.hid hm
    clear hm
    go_wp2_with fail
    refine (of_bad _ _ _ HM.out).mono ?_
    rintro e v2 ⟨rfl, rfl⟩
    go_wp2_with fail
    refine (of_bad _ _ _ HM.out).mono ?_
    rintro e v2 ⟨rfl, rfl⟩
    go_wp2_with fail
    refine (of_bad _ _ _ HM.out).mono ?_
    rintro e v2 ⟨rfl, rfl⟩
    go_wp2_with fail
    go_ret
    exact ⟨rfl, u1⟩
  · obtain ⟨M, rfl⟩ := Int.eq_ofNat_of_zero_le (show 0 ≤ a0 by omega)
    have hM0 : 2 ≤ M := by omega
    have hM1 : M ≤ 2147483647 := by omega
    clear hm
    have hsz : (a1 ++ a2).size = a1.size + a2.size := ByteArray.size_append
    by_cases h1 : a1.size ≤ 600
    · by_cases h2 : a2.size ≤ 600
      · by_cases h3 : (a1 ++ a2).size ≤ 600
        · have hj := fp_join M hM0 a1.data.toList a2.data.toList
          rw [← ba_append_list, ba_length] at hj
          have HJ := Lib.hid hj
          have HA := Lib.hid (fp_lt M hM0 a1.data.toList)
          have HB := Lib.hid (fp_lt M hM0 a2.data.toList)
          have H3 := Lib.hid h3
          clear hj hsz h3
          go_wp2_with fail
          refine (of_ok M _ _ hM0 hM1 h1).mono ?_
          rintro e v2 ⟨rfl, u2⟩
          go_wp2_with fail
          refine (of_ok M _ _ hM0 hM1 h2).mono ?_
          rintro e v3 ⟨rfl, u3⟩
          go_wp2_with fail
          refine (of_ok M _ _ hM0 hM1 H3.out).mono ?_
          rintro e v4 ⟨rfl, u4⟩
          rw [HJ.out]
          generalize fp M a1.data.toList = A at *
          generalize fp M a2.data.toList = B at *
          go_wp2_with fail
          refine (join_ok M A B a2.size _ hM0 hM1 HA.out HB.out h2).mono ?_
          rintro e v5 ⟨rfl, u5⟩
          generalize joinV M A B a2.size = J at *
          go_wp2_with fail
          go_ret
          exact ⟨rfl, (((u1.trans u2).trans u3).trans u4).trans u5⟩
        · have H3 := Lib.hid (show 600 < (a1 ++ a2).size by omega)
          clear hsz h3
          go_wp2_with fail
          refine (of_ok M _ _ hM0 hM1 h1).mono ?_
          rintro e v2 ⟨rfl, u2⟩
          go_wp2_with fail
          refine (of_ok M _ _ hM0 hM1 h2).mono ?_
          rintro e v3 ⟨rfl, u3⟩
          go_wp2_with fail
          refine (of_long M _ _ hM0 hM1 H3.out).mono ?_
          rintro e v4 ⟨rfl, rfl⟩
          generalize fp M a1.data.toList = A at *
          generalize fp M a2.data.toList = B at *
          go_wp2_with fail
          go_ret
          exact ⟨rfl, (u1.trans u2).trans u3⟩
      · have H3 := Lib.hid (show 600 < (a1 ++ a2).size by omega)
        clear hsz
        go_wp2_with fail
        refine (of_ok M _ _ hM0 hM1 h1).mono ?_
        rintro e v2 ⟨rfl, u2⟩
        go_wp2_with fail
        refine (of_long M _ _ hM0 hM1 (by omega)).mono ?_
        rintro e v3 ⟨rfl, rfl⟩
        go_wp2_with fail
        refine (of_long M _ _ hM0 hM1 H3.out).mono ?_
        rintro e v4 ⟨rfl, rfl⟩
        generalize fp M a1.data.toList = A at *
        go_wp2_with fail
        go_ret
        exact ⟨rfl, u1.trans u2⟩
    · have H3 := Lib.hid (show 600 < (a1 ++ a2).size by omega)
      clear hsz
      go_wp2_with fail
      refine (of_long M _ _ hM0 hM1 (by omega)).mono ?_
      rintro e v2 ⟨rfl, rfl⟩
      go_wp2_with fail
      refine (of_any M _ _ hM0 hM1).mono ?_
      rintro e v3 ⟨V, E, rfl, u3⟩
      go_wp2_with fail
      refine (of_long M _ _ hM0 hM1 H3.out).mono ?_
      rintro e v4 ⟨rfl, rfl⟩
      go_wp2_with fail
      go_ret
      exact ⟨rfl, u1.trans u3⟩

theorem fp256 : fp 256 (⟨#[97]⟩ : ByteArray).data.toList = 97 := by decide +kernel

theorem conv_byte (c : UInt8) (v : World) : (convert 60 9 (.slice (some ⟨v.heap.size, 0, none⟩) 1 1)).run Try.prog (v.alloc (.cells #[.int .u8 (c.toNat : Int)] 5)) = .ok (.string ⟨#[c]⟩) (v.alloc (.cells #[.int .u8 (c.toNat : Int)] 5)) := by
  refine run_convert_bytes_back (P := Try.prog) _ 60 9 5 _ 1 [c] Try.underlying60 Try.underlying5 Try.underlying9 ?_
  intro j hj
  have : j = 0 := by simpa using hj
  subst this
  exact World.cell?_alloc_mark _ _ _ _ 0

theorem byte_of (a : Int) (h : (Lit.int .u8 a).wf = true) : ∃ c : UInt8, a = (c.toNat : Int) := by
  have h1 : 0 ≤ a ∧ a < 256 := by
    simp [Lit.wf] at h
    have e1 : IntKind.u8.min = 0 := by decide
    have e2 : IntKind.u8.max = 255 := by decide
    omega
  obtain ⟨n, rfl⟩ := Int.eq_ofNat_of_zero_le h1.1
  refine ⟨UInt8.ofNat n, ?_⟩
  have : n < 256 := by omega
  rw [UInt8.toNat_ofNat_of_lt' this]

theorem one_byte (c : UInt8) : (⟨#[c]⟩ : ByteArray).data.toList = [c] := rfl

set_option maxRecDepth 100000 in
set_option maxHeartbeats 1000000 in
theorem printByte_walk (a0 : Int) (a1 : ByteArray) (a2 : Int) (w : World) (_w0 : (Lit.int .i64 a0).wf = true) (w1 : a1.size ≤ 140737488351232) (w2 : (Lit.int .u8 a2).wf = true) :
    Calls Try.prog 16 #[.int .i64 a0, .string a1, .int .u8 a2] w fun e w' => e = .returned (.bool true) ∧ Up w w' := by
  obtain ⟨c, rfl⟩ := byte_of a2 w2
  clear w2
  have HF := Lib.hid fp256
  have hcv := conv_byte c
  have hsz : (a1 ++ ⟨#[c]⟩).size = a1.size + 1 := ByteArray.size_append
  have hadd : ∀ v : World, (Op.stringOp .add a1 ⟨#[c]⟩).run Try.prog v = .ok (.string (a1 ++ ⟨#[c]⟩)) v := fun v => run_string_add_sum v a1 _ (by rw [show (⟨#[c]⟩ : ByteArray).size = 1 from rfl]; omega)
  have hl : (a1 ++ ⟨#[c]⟩).data.toList = a1.data.toList ++ [c] := ba_append_list _ _
  generalize hT : a1 ++ ⟨#[c]⟩ = T at *
  have HL := Lib.hid hl
  clear hl hT
  go_enter Try.func16, Try.ntmps16
  go_wp2_with fail
  refine (of_ok 256 _ _ (by omega) (by omega) (by decide)).mono ?_
  rintro e v1 ⟨rfl, u1⟩
  rw [HF.out]
  by_cases hm : a0 < 2 ∨ 2147483647 < a0
  · have HM := Lib.hid hm
    clear hm hsz
    go_wp2_with fail
    refine (of_bad _ _ _ HM.out).mono ?_
    rintro e v2 ⟨rfl, rfl⟩
    go_wp2_with fail
    refine (of_bad _ _ _ HM.out).mono ?_
    rintro e v2 ⟨rfl, rfl⟩
    go_wp2_with fail
    go_ret
    exact ⟨rfl, u1.trans (Up.alloc _ _)⟩
  · obtain ⟨M, rfl⟩ := Int.eq_ofNat_of_zero_le (show 0 ≤ a0 by omega)
    have hM0 : 2 ≤ M := by omega
    have hM1 : M ≤ 2147483647 := by omega
    clear hm
    by_cases h1 : a1.size ≤ 600
    · by_cases h2 : T.size ≤ 600
      · clear hsz
        have hsn := fp_snoc M hM0 a1.data.toList c
        rw [← HL.out] at hsn
        have hc : c.toNat < 256 := UInt8.toNat_lt _
        have hfl := fp_le M hM0 hM1 a1.data.toList
        have hx := i64_xor_nat (WoolMath.pmod (WoolMath.mul (fp M a1.data.toList) 256) M) (WoolMath.pmod c.toNat M) (lt63 _ (pmod_le _ _ (by omega) hM1)) (lt63 _ (pmod_le _ _ (by omega) hM1))
        rw [← hsn] at hx
        have hm1 : WoolMath.mul c.toNat 1 = c.toNat := WoolMath.mul_one _
        have HX := Lib.hid hx
        have HM1 := Lib.hid hm1
        clear hx hsn hm1
        go_wp2_with fail
        refine (of_ok M _ _ hM0 hM1 h1).mono ?_
        rintro e v2 ⟨rfl, u2⟩
        go_wp2_with fail
        refine (of_ok M _ _ hM0 hM1 h2).mono ?_
        rintro e v3 ⟨rfl, u3⟩
        generalize fp M a1.data.toList = A at *
        generalize fp M T.data.toList = B at *
        go_wp2_with fail
        refine (modMulN A 256 M _ (by omega) (by omega) (by omega) hM1).mono ?_
        rintro e v4 ⟨rfl, u4⟩
        generalize WoolMath.pmod (WoolMath.mul A 256) M = X at *
        go_wp2_with fail
        refine (modMulN c.toNat 1 M _ (by omega) (by omega) (by omega) hM1).mono ?_
        rintro e v5 ⟨rfl, u5⟩
        rw [HM1.out]
        generalize WoolMath.pmod c.toNat M = Y at *
        have hq : ((B : Int) == bits .xor .i64 (X : Int) (Y : Int)) = true := by rw [HX.out]; exact beq_self_eq_true _
        go_wp2_with fail
        go_ret
        exact ⟨rfl, (((u1.trans u2).trans ((Up.alloc _ _).trans u3)).trans u4).trans u5⟩
      · clear hsz
        go_wp2_with fail
        refine (of_ok M _ _ hM0 hM1 h1).mono ?_
        rintro e v2 ⟨rfl, u2⟩
        go_wp2_with fail
        refine (of_long M _ _ hM0 hM1 (by omega)).mono ?_
        rintro e v3 ⟨rfl, rfl⟩
        generalize fp M a1.data.toList = A at *
        go_wp2_with fail
        go_ret
        exact ⟨rfl, (u1.trans u2).trans (Up.alloc _ _)⟩
    · have h2 : 600 < T.size := by omega
      clear hsz
      go_wp2_with fail
      refine (of_long M _ _ hM0 hM1 (by omega)).mono ?_
      rintro e v2 ⟨rfl, rfl⟩
      go_wp2_with fail
      refine (of_long M _ _ hM0 hM1 (by omega)).mono ?_
      rintro e v3 ⟨rfl, rfl⟩
      go_wp2_with fail
      go_ret
      exact ⟨rfl, u1.trans (Up.alloc _ _)⟩

theorem fp5 : fp 5 (⟨#[1]⟩ : ByteArray).data.toList = 0 := by decide +kernel

theorem fp4 : fp 4 (⟨#[97]⟩ : ByteArray).data.toList = 1 := by decide +kernel

set_option maxRecDepth 100000 in
set_option maxHeartbeats 1000000 in
theorem printParts_walk (a0 a1 : Int) (a2 : ByteArray) (w : World) (_w0 : (Lit.int .i64 a0).wf = true) (_w1 : (Lit.int .i64 a1).wf = true) (w2 : a2.size ≤ 140737488351232) :
    Calls Try.prog 11 #[.int .i64 a0, .int .i64 a1, .string a2] w fun e w' => e = .returned (.bool true) ∧ Up w w' := by
  have HF5 := Lib.hid fp5
  have HF4 := Lib.hid fp4
  go_enter Try.func11, Try.ntmps11
  go_wp2_with fail
  refine (of_ok 5 _ _ (by omega) (by omega) (by decide)).mono ?_
  rintro e v1 ⟨rfl, u1⟩
  rw [HF5.out]
  go_wp2_with fail
  refine (of_ok 4 _ _ (by omega) (by omega) (by decide)).mono ?_
  rintro e v2 ⟨rfl, u2⟩
  rw [HF4.out]
  go_wp2_with fail
  refine (less_any _ 10 _ (by omega)).mono ?_
  rintro e w' ⟨rfl, rfl⟩
  have hA := within_lt a0 (2 ^ 10) (by omega)
  generalize within a0 (2 ^ 10) = A at *
  go_wp2_with fail
  refine (less_any _ 10 _ (by omega)).mono ?_
  rintro e w' ⟨rfl, rfl⟩
  have hB := within_lt a1 (2 ^ 10) (by omega)
  generalize within a1 (2 ^ 10) = B at *
  go_wp2_with fail
  rw [show (2 : Int) + (A : Int) = ((2 + A : Nat) : Int) by omega, show (2 : Int) + (B : Int) = ((2 + B : Nat) : Int) by omega]
  have hA0 : 2 ≤ 2 + A := by omega
  have hB0 : 2 ≤ 2 + B := by omega
  have hA1 : 2 + A ≤ 1025 := by omega
  have hB1 : 2 + B ≤ 1025 := by omega
  clear hA hB
  generalize 2 + A = A at *
  generalize 2 + B = B at *
  have hml := WoolMath.mul_lt A B 11 10 (by omega) (by omega)
  have hmg : 2 ≤ WoolMath.mul A B := by
    obtain ⟨m1, m2⟩ := WoolMath.mul_log2 A B (by omega) (by omega)
    have e1 := (WoolMath.top_of _ m1).1
    have e2 : 1 ≤ A.log2 := (Nat.le_log2 (by omega)).2 (by omega)
    exact Nat.le_trans (Nat.pow_le_pow_right (n := 2) (by omega) (show 1 ≤ (WoolMath.mul A B).log2 by omega)) e1
  have HP := Lib.hid (fp_parts A B (by omega) (by omega) a2.data.toList)
  refine (mulN A B _ (by omega) (by omega) (by omega)).mono ?_
  rintro e v3 ⟨rfl, u3⟩
  generalize WoolMath.mul A B = M at *
  by_cases h2 : a2.size ≤ 600
  · have hfl := fp_le M (by omega) (by omega) a2.data.toList
    go_wp2_with fail
    refine (of_ok M _ _ (by omega) (by omega) h2).mono ?_
    rintro e v4 ⟨rfl, u4⟩
    go_wp2_with fail
    refine (of_ok A _ _ (by omega) (by omega) h2).mono ?_
    rintro e v5 ⟨rfl, u5⟩
    generalize fp M a2.data.toList = P at *
    generalize fp A a2.data.toList = Q at *
    go_wp2_with fail
    refine (modMulN P 1 A _ (by omega) (by omega) (by omega) (by omega)).mono ?_
    rintro e v6 ⟨rfl, u6⟩
    rw [WoolMath.mul_one, HP.out]
    go_wp2_with fail
    go_ret
    exact ⟨rfl, ((((u1.trans u2).trans u3).trans u4).trans u5).trans u6⟩
  · go_wp2_with fail
    refine (of_long M _ _ (by omega) (by omega) (by omega)).mono ?_
    rintro e v4 ⟨rfl, rfl⟩
    go_wp2_with fail
    refine (of_long A _ _ (by omega) (by omega) (by omega)).mono ?_
    rintro e v5 ⟨rfl, rfl⟩
    go_wp2_with fail
    go_ret
    exact ⟨rfl, (u1.trans u2).trans u3⟩

end Go.Proofs.Ytidofplebkbbmaa
