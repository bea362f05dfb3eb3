/-
  The law MatchGrows, walked: for every text and every numbers the Go text returns true. Conditions: a text that came in has at most 2^47 - 4096 bytes.
-/
import Derived.Test.YtbcebfjnpeacnaaMatch
import Derived.Test.YtbcebfjnpeacnaaWithin
namespace Go.Proofs.Ytbcebfjnpeacnaa
open Go.RowKit
open Go.Proofs
open WoolMatch

theorem abcabc2 : long (⟨#[97, 98, 99, 97, 98, 99]⟩ : ByteArray).data.toList 3 2 = (0, 0) := by decide +kernel
theorem abcabc3 : long (⟨#[97, 98, 99, 97, 98, 99]⟩ : ByteArray).data.toList 3 3 = (3, 3) := by decide +kernel

set_option maxRecDepth 100000 in
set_option maxHeartbeats 1000000 in
theorem matchGrows_walk (a0 : ByteArray) (a1 a2 a3 : Int) (w : World) (_w0 : a0.size ≤ 140737488351232) (_w1 : (Lit.int .i64 a1).wf = true) (_w2 : (Lit.int .i64 a2).wf = true) (_w3 : (Lit.int .i64 a3).wf = true) :
    Calls Try.prog 6 #[.string a0, .int .i64 a1, .int .i64 a2, .int .i64 a3] w fun e w' => e = .returned (.bool true) ∧ Up w w' := by
  go_enter Try.func6, Try.ntmps6
  go_wp2_with fail
  refine (longest_ok ⟨#[97, 98, 99, 97, 98, 99]⟩ 3 2 _ (by decide) (by decide) (by omega) (by omega)).mono ?_
  rintro e v1 ⟨rfl, u1⟩
  rw [abcabc2]
  go_wp2_with fail
  refine (longest_ok ⟨#[97, 98, 99, 97, 98, 99]⟩ 3 3 _ (by decide) (by decide) (by omega) (by omega)).mono ?_
  rintro e v2 ⟨rfl, u2⟩
  rw [abcabc3]
  have U2 := Lib.hid (u1.trans u2)
  clear u1 u2
  go_wp2_with fail
  refine (within_some a2 256 256 _ rfl (by omega) (by omega)).mono ?_
  rintro e v3 ⟨A, hA, rfl, rfl⟩
  go_wp2_with fail
  refine (within_some a3 256 256 _ rfl (by omega) (by omega)).mono ?_
  rintro e v4 ⟨B, hB, rfl, rfl⟩
  obtain ⟨V, hV⟩ : ∃ V, min (1 + A) (1 + B) = V := ⟨_, rfl⟩
  obtain ⟨W, hW⟩ : ∃ W, max (1 + A) (1 + B) = W := ⟨_, rfl⟩
  have hV1 : min (1 + (A : Int)) (1 + (B : Int)) = (V : Int) := by omega
  have hW1 : max (1 + (A : Int)) (1 + (B : Int)) = (W : Int) := by omega
  have b1 : 1 ≤ V := by omega
  have b2 : V ≤ W := by omega
  have b3 : W ≤ 256 := by omega
  clear hV hW
  by_cases hs : 600 < a0.size
  · go_wp2_with fail
    refine (longest_large a0 a1 _ _ hs).mono ?_
    rintro e v5 ⟨rfl, rfl⟩
    go_wp2_with fail
    refine (longest_large a0 a1 _ _ hs).mono ?_
    rintro e v5 ⟨rfl, rfl⟩
    go_wp2_with fail
    go_ret
    exact ⟨rfl, U2.out⟩
  · by_cases hi : 0 ≤ a1 ∧ a1 ≤ (a0.size : Int)
    · obtain ⟨i, rfl⟩ := Int.eq_ofNat_of_zero_le hi.1
      have his : i ≤ a0.size := by omega
      clear hi
      go_wp2_with fail
      refine (longest_ok a0 i V _ (by omega) (by omega) (by omega) (by omega)).mono ?_
      rintro e v5 ⟨rfl, u5⟩
      have U5 := Lib.hid (U2.out.trans u5)
      clear u5
      have hg := long_window a0.data.toList i V W b2
      have hl := long_later a0.data.toList i 1 W
      have hY := long_fits a0.data.toList i W (by rw [ba_length]; exact his)
      rw [ba_length] at hY
      have hZ := long_64 a0.data.toList (i + 1) W
      have hY2 := long_64 a0.data.toList i W
      obtain ⟨X, hX⟩ : ∃ X, (long a0.data.toList i V).2 = X := ⟨_, rfl⟩
      rw [hX] at hg ⊢
      clear hX
      obtain ⟨X1, hX1⟩ : ∃ X1, (long a0.data.toList i V).1 = X1 := ⟨_, rfl⟩
      rw [hX1]
      clear hX1
      have HG := Lib.hid hg
      have HL := Lib.hid hl
      have HY := Lib.hid hY
      have HY2 := Lib.hid hY2
      have HZ := Lib.hid hZ
      clear hg hl hY hZ hY2
      go_wp2_with fail
      refine (longest_ok a0 i W _ (by omega) (by omega) (by omega) (by omega)).mono ?_
      rintro e v6 ⟨rfl, u6⟩
      have U6 := Lib.hid (U5.out.trans u6)
      clear u6
      have hg := HG.out
      have hl := HL.out
      have hY := HY.out
      have hY2 := HY2.out
      clear HG HL HY HY2
      obtain ⟨Y1, hY1⟩ : ∃ Y1, (long a0.data.toList i W).1 = Y1 := ⟨_, rfl⟩
      obtain ⟨Y, hYY⟩ : ∃ Y, (long a0.data.toList i W).2 = Y := ⟨_, rfl⟩
      rw [hYY] at hg hl hY hY2 ⊢
      rw [hY1]
      clear hY1 hYY
      by_cases hend : a0.size ≤ i
      · have c1 : decide (a0.size ≤ i) = true := by rw [decide_eq_true_iff]; omega
        obtain rfl : Y = 0 := by omega
        obtain rfl : X = 0 := by omega
        clear hl hg hY
        go_wp2_with fail
        go_ret
        exact ⟨rfl, U6.out⟩
      · have c1 : decide (a0.size ≤ i) = false := by rw [decide_eq_false_iff_not]; omega
        have HL := Lib.hid hl
        clear hl
        go_wp2_with fail
        have hlo := longest_ok a0 (i + 1) W v6 (by omega) (by omega) (by omega) (by omega)
        rw [Int.natCast_add, Int.natCast_one] at hlo
        refine hlo.mono ?_
        rintro e v7 ⟨rfl, u7⟩
        have U7 := Lib.hid (U6.out.trans u7)
        clear u7 hlo
        have hl := HL.out
        have hZ := HZ.out
        clear HL HZ
        obtain ⟨Z1, hZ1⟩ : ∃ Z1, (long a0.data.toList (i + 1) W).1 = Z1 := ⟨_, rfl⟩
        obtain ⟨Z, hZZ⟩ : ∃ Z, (long a0.data.toList (i + 1) W).2 = Z := ⟨_, rfl⟩
        rw [hZZ] at hl hZ ⊢
        rw [hZ1]
        clear hZ1 hZZ
        have k1 : decide (X ≤ Y) = true := by rw [decide_eq_true_iff]; exact hg
        have k2 : decide ((Y : Int) - 1 ≤ (Z : Int)) = true := by rw [decide_eq_true_iff]; omega
        go_wp2_with fail
        go_ret
        exact ⟨rfl, U7.out⟩
    · have HF : ∀ V : Int, Hid (¬ fits a0 a1 V) := fun V => Lib.hid (fun h => hi ⟨h.1, h.2.1⟩)
      clear hi
      go_wp2_with fail
      refine (longest_arg a0 a1 _ _ (by omega) (HF _).out).mono ?_
      rintro e v5 ⟨rfl, rfl⟩
      go_wp2_with fail
      refine (longest_arg a0 a1 _ _ (by omega) (HF _).out).mono ?_
      rintro e v5 ⟨rfl, rfl⟩
      go_wp2_with fail
      go_ret
      exact ⟨rfl, U2.out⟩

end Go.Proofs.Ytbcebfjnpeacnaa
