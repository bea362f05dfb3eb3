/-
  The law PrintSays, walked: for every modulus and every text the Go text returns true; nothing that was there turns. Conditions: a text that came in has at most 2^47 - 4096 bytes.
-/
import Derived.Test.YtidofplebkbbmaaRefPrint
namespace Go.Proofs.Ytidofplebkbbmaa
open Go.RowKit
open Go.Proofs

theorem modulus_ok (m : Int) (w : World) (h0 : 2 ≤ m) (h1 : m ≤ 2147483647) :
    Calls Try.prog 21 #[.int .i64 m] w fun e w' => e = .returned (.int .i64 0) ∧ w = w' := by
  go_enter Try.func21, Try.ntmps21
  go_wp2_with fail
  refine (refWithin_yes _ _ _ _ h0 h1).mono ?_
  rintro e w' ⟨rfl, rfl⟩
  go_wp2_with fail
  go_ret
  exact ⟨rfl, rfl⟩

theorem modulus_bad (m : Int) (w : World) (h : m < 2 ∨ 2147483647 < m) :
    Calls Try.prog 21 #[.int .i64 m] w fun e w' => e = .returned (.int .i64 1) ∧ w = w' := by
  have H := Lib.hid h
  clear h
  go_enter Try.func21, Try.ntmps21
  go_wp2_with fail
  refine (refWithin_no _ _ _ _ H.out).mono ?_
  rintro e w' ⟨rfl, rfl⟩
  go_wp2_with fail
  go_ret
  exact ⟨rfl, rfl⟩

set_option maxRecDepth 100000 in
set_option maxHeartbeats 400000 in
theorem printSays_walk (a0 : Int) (a1 : ByteArray) (w : World) (_w0 : (Lit.int .i64 a0).wf = true) (w1 : a1.size ≤ 140737488351232) :
    Calls Try.prog 3 #[.int .i64 a0, .string a1] w fun e w' => e = .returned (.bool true) ∧ Up w w' := by
  by_cases hm : a0 < 2 ∨ 2147483647 < a0
  · have HM := Lib.hid hm
    clear hm
    go_enter Try.func3, Try.ntmps3
    go_wp2_with fail
    refine (of_bad _ _ _ HM.out).mono ?_
    rintro e v2 ⟨rfl, rfl⟩
    go_wp2_with fail
    refine (modulus_bad _ _ HM.out).mono ?_
    rintro e v2 ⟨rfl, rfl⟩
    go_wp2_with fail
    refine (mod_bad _ _ HM.out).mono ?_
    rintro e v2 ⟨rfl, rfl⟩
    go_wp2_with fail
    refine (mod_bad _ _ (by omega)).mono ?_
    rintro e v2 ⟨rfl, rfl⟩
    go_wp2_with fail
    go_ret
    exact ⟨rfl, Up.refl _⟩
  · obtain ⟨M, rfl⟩ := Int.eq_ofNat_of_zero_le (show 0 ≤ a0 by omega)
    have hM0 : 2 ≤ M := by omega
    have hM1 : M ≤ 2147483647 := by omega
    clear hm
    by_cases h1 : a1.size ≤ 600
    · go_enter Try.func3, Try.ntmps3
      go_wp2_with fail
      refine (of_ok M _ _ hM0 hM1 h1).mono ?_
      rintro e v1 ⟨rfl, u1⟩
      go_wp2_with fail
      refine (modulus_ok _ _ (by omega) (by omega)).mono ?_
      rintro e v2 ⟨rfl, rfl⟩
      go_wp2_with fail
      refine (mod_ok _ _ (by omega) (by omega)).mono ?_
      rintro e v2 ⟨rfl, rfl⟩
      go_wp2_with fail
      refine (mod_bad _ _ (by omega)).mono ?_
      rintro e v2 ⟨rfl, rfl⟩
      go_wp2_with fail
      refine (refPrint_any M _ _ hM0 hM1 h1).mono ?_
      rintro e v3 ⟨rfl, u3⟩
      generalize fp M a1.data.toList = F at *
      go_wp2_with fail
      go_ret
      exact ⟨rfl, u1.trans u3⟩
    · have h2 : 600 < a1.size := by omega
      go_enter Try.func3, Try.ntmps3
      go_wp2_with fail
      refine (of_long M _ _ hM0 hM1 h2).mono ?_
      rintro e v1 ⟨rfl, rfl⟩
      go_wp2_with fail
      refine (modulus_ok _ _ (by omega) (by omega)).mono ?_
      rintro e v2 ⟨rfl, rfl⟩
      go_wp2_with fail
      refine (mod_ok _ _ (by omega) (by omega)).mono ?_
      rintro e v2 ⟨rfl, rfl⟩
      go_wp2_with fail
      refine (mod_bad _ _ (by omega)).mono ?_
      rintro e v2 ⟨rfl, rfl⟩
      go_wp2_with fail
      go_ret
      exact ⟨rfl, Up.refl _⟩

end Go.Proofs.Ytidofplebkbbmaa
