/-
  The law PrintLinear, walked: for every modulus and every three texts the Go text returns true; nothing that was there turns. Conditions: a text that came in has at most 2^47 - 4096 bytes.
-/
import Derived.Test.YtidofplebkbbmaaBytes
namespace Go.Proofs.Ytidofplebkbbmaa
open Go.RowKit
open Go.Proofs

set_option maxRecDepth 100000 in
set_option maxHeartbeats 1000000 in
theorem printLinear_walk (a0 : Int) (a1 a2 a3 : ByteArray) (w : World) (_w0 : (Lit.int .i64 a0).wf = true) (w1 : a1.size ≤ 140737488351232) (_w2 : a2.size ≤ 140737488351232) (_w3 : a3.size ≤ 140737488351232) :
    Calls Try.prog 9 #[.int .i64 a0, .string a1, .string a2, .string a3] w fun e w' => e = .returned (.bool true) ∧ Up w w' := by
  have HF := Lib.hid fp4
  obtain ⟨n, hn⟩ : ∃ n : Nat, n = min a1.size (min a2.size a3.size) := ⟨_, rfl⟩
  have hn1 : n ≤ a1.size := by omega
  have hn2 : n ≤ a2.size := by omega
  have hn3 : n ≤ a3.size := by omega
  have hmin : ∀ (ts : Array TypeId) (t : TypeId) (W : World), (Builtin.min_ ts t #[.int .i64 (a1.size : Int), .int .i64 (a2.size : Int), .int .i64 (a3.size : Int)]).run Try.prog W = .ok (.int .i64 (n : Int)) W := by
    intro ts t W
    simp [Builtin.min_, Builtin.min2]
    split <;> split <;> omega
  have HN := Lib.hid hn
  clear hn
  go_enter Try.func9, Try.ntmps9
  go_wp2_with fail
  refine (of_ok 4 _ _ (by omega) (by omega) (by decide)).mono ?_
  rintro e v1 ⟨rfl, u1⟩
  rw [HF.out]
  go_wp2_with fail
  clear hmin
  go_region
  have hs1 := extract_size a1 n hn1
  have hs2 := extract_size a2 n hn2
  have hs3 := extract_size a3 n hn3
  have hnw : n ≤ 140737488351232 := by omega
  generalize a1.extract 0 n = S at *
  generalize a2.extract 0 n = T at *
  generalize a3.extract 0 n = U at *
  have hXl := xor3_length S.data.toList T.data.toList U.data.toList (by rw [ba_length, ba_length, hs1, hs2]) (by rw [ba_length, ba_length, hs1, hs3])
  rw [ba_length, hs1] at hXl
  have HS1 := Lib.hid hs1
  have HS2 := Lib.hid hs2
  have HS3 := Lib.hid hs3
  have HXL := Lib.hid hXl
  clear hs1 hs2 hs3 hXl hn1 hn2 hn3
  by_cases hm : a0 < 2 ∨ 2147483647 < a0
  · have HM := Lib.hid hm
    clear hm
    go_wp2_with fail
    refine (of_bad _ _ _ HM.out).mono ?_
    rintro e v2 ⟨rfl, rfl⟩
    go_wp2_with fail
    refine (of_bad _ _ _ HM.out).mono ?_
    rintro e v2 ⟨rfl, rfl⟩
    go_wp2_with fail
    refine (of_bad _ _ _ HM.out).mono ?_
    rintro e v2 ⟨rfl, rfl⟩
    go_wp2_with fail
    refine (xor_any S T U _ (by rw [HS1.out]; omega) (by rw [HS1.out, HS2.out]) (by rw [HS1.out, HS3.out])).mono ?_
    rintro e v3 ⟨rfl, u3⟩
    go_wp2_with fail
    refine (of_bad _ _ _ HM.out).mono ?_
    rintro e v2 ⟨rfl, rfl⟩
    go_wp2_with fail
    go_ret
    exact ⟨rfl, (u1.trans (Up.drew _)).trans u3⟩
  · obtain ⟨M, rfl⟩ := Int.eq_ofNat_of_zero_le (show 0 ≤ a0 by omega)
    have hM0 : 2 ≤ M := by omega
    have hM1 : M ≤ 2147483647 := by omega
    clear hm
    by_cases hn : n ≤ 600
    · have hfl := fp_linear M hM0 S.data.toList T.data.toList U.data.toList (by rw [ba_length, ba_length, HS1.out, HS2.out]) (by rw [ba_length, ba_length, HS1.out, HS3.out])
      have hl1 := fp_le M hM0 hM1 S.data.toList
      have hl2 := fp_le M hM0 hM1 T.data.toList
      have hl3 := fp_le M hM0 hM1 U.data.toList
      have hx1 := i64_xor_nat _ _ (lt63 _ hl1) (lt63 _ hl2)
      have hx2 := i64_xor_nat _ _ (lt63 _ (xor30 _ _ hl1 hl2)) (lt63 _ hl3)
      rw [← hx1, ← hfl] at hx2
      have HX := Lib.hid hx2
      clear hx1 hx2 hfl hl1 hl2 hl3
      go_wp2_with fail
      refine (of_ok M _ _ hM0 hM1 (by rw [HS1.out]; exact hn)).mono ?_
      rintro e v2 ⟨rfl, u2⟩
      go_wp2_with fail
      refine (of_ok M _ _ hM0 hM1 (by rw [HS2.out]; exact hn)).mono ?_
      rintro e v3 ⟨rfl, u3⟩
      go_wp2_with fail
      refine (of_ok M _ _ hM0 hM1 (by rw [HS3.out]; exact hn)).mono ?_
      rintro e v4 ⟨rfl, u4⟩
      generalize fp M S.data.toList = A at *
      generalize fp M T.data.toList = B at *
      generalize fp M U.data.toList = C at *
      go_wp2_with fail
      refine (xor_any S T U _ (by rw [HS1.out]; omega) (by rw [HS1.out, HS2.out]) (by rw [HS1.out, HS3.out])).mono ?_
      rintro e v5 ⟨rfl, u5⟩
      generalize xor3 S.data.toList T.data.toList U.data.toList = L at *
      go_wp2_with fail
      refine (of_ok M _ _ hM0 hM1 (by show L.toArray.size ≤ 600; rw [List.size_toArray, HXL.out]; exact hn)).mono ?_
      rintro e v6 ⟨rfl, u6⟩
      generalize hD : fp M (ByteArray.mk L.toArray).data.toList = D at *
      have hx := HX.out
      have hq : (bits .xor .i64 (bits .xor .i64 (A : Int) (B : Int)) (C : Int) == (D : Int)) = true := by rw [hx]; exact beq_self_eq_true _
      clear hx hD
      go_wp2_with fail
      go_ret
      exact ⟨rfl, (((((u1.trans (Up.drew _)).trans u2).trans u3).trans u4).trans u5).trans u6⟩
    · go_wp2_with fail
      refine (of_long M _ _ hM0 hM1 (by rw [HS1.out]; omega)).mono ?_
      rintro e v2 ⟨rfl, rfl⟩
      go_wp2_with fail
      refine (of_long M _ _ hM0 hM1 (by rw [HS2.out]; omega)).mono ?_
      rintro e v2 ⟨rfl, rfl⟩
      go_wp2_with fail
      refine (of_long M _ _ hM0 hM1 (by rw [HS3.out]; omega)).mono ?_
      rintro e v2 ⟨rfl, rfl⟩
      go_wp2_with fail
      refine (xor_any S T U _ (by rw [HS1.out]; omega) (by rw [HS1.out, HS2.out]) (by rw [HS1.out, HS3.out])).mono ?_
      rintro e v5 ⟨rfl, u5⟩
      generalize xor3 S.data.toList T.data.toList U.data.toList = L at *
      go_wp2_with fail
      refine (of_long M _ _ hM0 hM1 (by show 600 < L.toArray.size; rw [List.size_toArray, HXL.out]; omega)).mono ?_
      rintro e v6 ⟨rfl, rfl⟩
      go_wp2_with fail
      go_ret
      exact ⟨rfl, (u1.trans (Up.drew _)).trans u5⟩

end Go.Proofs.Ytidofplebkbbmaa
