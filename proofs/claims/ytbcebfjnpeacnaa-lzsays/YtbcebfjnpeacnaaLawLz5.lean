/-
  The law LzSays, walked: for every text, every window and every row of tokens the Go text returns true. Conditions: a text that came in has at most 2^47 - 4096 bytes, and the row can be read.
-/
import Derived.Test.YtbcebfjnpeacnaaRefLz2
import Derived.Test.YtbcebfjnpeacnaaLawLz1
import Derived.Test.YtbcebfjnpeacnaaTokEq
namespace Go.Proofs.Ytbcebfjnpeacnaa
open Go.RowKit
open Go.Proofs
open WoolLz
open WoolMatch

set_option maxRecDepth 100000 in
set_option maxHeartbeats 1000000 in
theorem lzSays_walk (a0 : ByteArray) (a1 : Int) (a2 : Option Addr) (len2 cap2 : Nat) (z2 : List Tok) (w : World) (_w0 : a0.size ≤ 140737488351232) (_w1 : (Lit.int .i64 a1).wf = true) (w2 : Toks w (.slice a2 len2 cap2) z2) :
    Calls Try.prog 4 #[.string a0, .int .i64 a1, .slice a2 len2 cap2] w fun e w' => e = .returned (.bool true) ∧ Up w w' := by
  have HT := Lib.hid w2
  clear w2
  by_cases hs : 600 < a0.size
  · have d1 : decide (600 < (a0.size : Int)) = true := by rw [decide_eq_true_iff]; omega
    go_enter Try.func4, Try.ntmps4
    go_wp2_with fail
    refine (parse_large a0 a1 _ hs).mono ?_
    rintro e v1 ⟨rfl, rfl⟩
    go_wp2_with fail
    refine (expand_any _ z2 _ HT.out).mono ?_
    rintro e v2 ⟨rfl, u2⟩
    obtain ⟨R, hR⟩ : ∃ R, exp [] z2 = R := ⟨_, rfl⟩
    have HR := Lib.hid hR
    rw [hR]
    clear hR
    go_wp2_with fail
    refine (refExpand_any _ z2 _ (HT.out.up u2)).mono ?_
    rintro e v3 ⟨rfl, u3⟩
    rw [HR.out]
    go_wp2_with fail
    go_ret
    exact ⟨rfl, u2.trans u3⟩
  · have d1 : decide (600 < (a0.size : Int)) = false := by rw [decide_eq_false_iff_not]; omega
    by_cases hV : 1 ≤ a1 ∧ a1 ≤ 256
    · obtain ⟨V, rfl⟩ := Int.eq_ofNat_of_zero_le (show 0 ≤ a1 by omega)
      have hV1 : 1 ≤ V := by omega
      have hV2 : V ≤ 256 := by omega
      have d2 : decide ((V : Int) < 1) = false := by rw [decide_eq_false_iff_not]; omega
      have d3 : decide (256 < (V : Int)) = false := by rw [decide_eq_false_iff_not]; omega
      clear hV
      go_enter Try.func4, Try.ntmps4
      go_wp2_with fail
      refine (parse_ok a0 V _ (by omega) hV1 hV2).mono ?_
      rintro e v1 ⟨x1, rfl, ht1, u1⟩
      obtain ⟨o1, c1, rfl⟩ := ht1.shape
      have HT1 := Lib.hid ht1
      have U1 := Lib.hid u1
      clear ht1 u1
      go_wp2_with fail
      refine (refParse_any a0 V _ (by omega) hV1 hV2).mono ?_
      rintro e v2 ⟨x2, rfl, ht2, u2⟩
      have HE1 := Lib.hid (HT1.out.toks.up u2)
      have HE2 := Lib.hid ht2.toks
      have U2 := Lib.hid (U1.out.trans u2)
      obtain ⟨o2, c2, rfl⟩ := ht2.shape
      clear ht2 u2
      go_wp2_with fail
      refine (equalT_yes _ _ (par a0.data.toList V 0) _ HE1.out HE2.out).mono ?_
      rintro e v3 ⟨rfl, u3⟩
      have U3 := Lib.hid (U2.out.trans u3)
      clear u3
      go_wp2_with fail
      refine (expand_any _ z2 _ (HT.out.up U3.out)).mono ?_
      rintro e v4 ⟨rfl, u4⟩
      have U4 := Lib.hid (U3.out.trans u4)
      clear u4
      obtain ⟨R, hR⟩ : ∃ R, exp [] z2 = R := ⟨_, rfl⟩
      have HR := Lib.hid hR
      rw [hR]
      clear hR
      go_wp2_with fail
      refine (refExpand_any _ z2 _ (HT.out.up U4.out)).mono ?_
      rintro e v5 ⟨rfl, u5⟩
      rw [HR.out]
      go_wp2_with fail
      go_ret
      exact ⟨rfl, U4.out.trans u5⟩
    · have HV := Lib.hid hV
      by_cases h2 : a1 < 1
      · have d2 : decide (a1 < 1) = true := decide_eq_true h2
        clear hV
        go_enter Try.func4, Try.ntmps4
        go_wp2_with fail
        refine (parse_arg a0 a1 _ (by omega) HV.out).mono ?_
        rintro e v1 ⟨rfl, rfl⟩
        go_wp2_with fail
        refine (expand_any _ z2 _ HT.out).mono ?_
        rintro e v2 ⟨rfl, u2⟩
        obtain ⟨R, hR⟩ : ∃ R, exp [] z2 = R := ⟨_, rfl⟩
        have HR := Lib.hid hR
        rw [hR]
        clear hR
        go_wp2_with fail
        refine (refExpand_any _ z2 _ (HT.out.up u2)).mono ?_
        rintro e v3 ⟨rfl, u3⟩
        rw [HR.out]
        go_wp2_with fail
        go_ret
        exact ⟨rfl, u2.trans u3⟩
      · have d2 : decide (a1 < 1) = false := decide_eq_false h2
        have d3 : decide (256 < a1) = true := by rw [decide_eq_true_iff]; omega
        clear hV
        go_enter Try.func4, Try.ntmps4
        go_wp2_with fail
        refine (parse_arg a0 a1 _ (by omega) HV.out).mono ?_
        rintro e v1 ⟨rfl, rfl⟩
        go_wp2_with fail
        refine (expand_any _ z2 _ HT.out).mono ?_
        rintro e v2 ⟨rfl, u2⟩
        obtain ⟨R, hR⟩ : ∃ R, exp [] z2 = R := ⟨_, rfl⟩
        have HR := Lib.hid hR
        rw [hR]
        clear hR
        go_wp2_with fail
        refine (refExpand_any _ z2 _ (HT.out.up u2)).mono ?_
        rintro e v3 ⟨rfl, u3⟩
        rw [HR.out]
        go_wp2_with fail
        go_ret
        exact ⟨rfl, u2.trans u3⟩

end Go.Proofs.Ytbcebfjnpeacnaa
