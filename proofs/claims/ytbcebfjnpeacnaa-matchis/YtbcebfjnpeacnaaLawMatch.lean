/-
  The laws MatchIs and MatchGrows, walked: for every text and every numbers the Go text returns true. Conditions: a text that came in has at most 2^47 - 4096 bytes.
-/
import Derived.Test.YtbcebfjnpeacnaaRefMatch
import Derived.Test.YtbcebfjnpeacnaaWithin
namespace Go.Proofs.Ytbcebfjnpeacnaa
open Go.RowKit
open Go.Proofs
open WoolMatch

theorem abab : long (⟨#[97, 98, 97, 98]⟩ : ByteArray).data.toList 2 9 = (2, 2) := by decide +kernel

set_option maxRecDepth 100000 in
set_option maxHeartbeats 1000000 in
theorem matchIs_walk (a0 : ByteArray) (a1 a2 a3 a4 : Int) (w : World) (_w0 : a0.size ≤ 140737488351232) (_w1 : (Lit.int .i64 a1).wf = true) (_w2 : (Lit.int .i64 a2).wf = true) (_w3 : (Lit.int .i64 a3).wf = true) (_w4 : (Lit.int .i64 a4).wf = true) :
    Calls Try.prog 5 #[.string a0, .int .i64 a1, .int .i64 a2, .int .i64 a3, .int .i64 a4] w fun e w' => e = .returned (.bool true) ∧ Up w w' := by
  go_enter Try.func5, Try.ntmps5
  go_wp2_with fail
  refine (longest_ok ⟨#[97, 98, 97, 98]⟩ 2 9 _ (by decide) (by decide) (by omega) (by omega)).mono ?_
  rintro e v1 ⟨rfl, u1⟩
  rw [abab]
  by_cases hs : 600 < a0.size
  · go_wp2_with fail
    refine (longest_large a0 a1 a2 _ hs).mono ?_
    rintro e v2 ⟨rfl, rfl⟩
    go_wp2_with fail
    go_ret
    exact ⟨rfl, u1⟩
  · by_cases hf : fits a0 a1 a2
    · obtain ⟨f1, f2, f3, f4⟩ := hf
      obtain ⟨i, rfl⟩ := Int.eq_ofNat_of_zero_le f1
      obtain ⟨W, rfl⟩ := Int.eq_ofNat_of_zero_le (show 0 ≤ a2 by omega)
      have hi : i ≤ a0.size := by omega
      have d2 : decide ((i : Int) < 0) = false := by rw [decide_eq_false_iff_not]; omega
      have d3 : decide (a0.size < i) = false := by rw [decide_eq_false_iff_not]; omega
      go_wp2_with fail
      refine (longest_ok a0 i W _ (by omega) (by omega) (by omega) (by omega)).mono ?_
      rintro e v2 ⟨rfl, u2⟩
      have U2 := Lib.hid (u1.trans u2)
      clear u1 u2
      have e1 := long_dist a0.data.toList i W
      have e2 := long_fits a0.data.toList i W (by rw [ba_length]; exact hi)
      rw [ba_length] at e2
      have e3 := long_zero a0.data.toList i W
      have e4 := (pieces_same a0 i (long a0.data.toList i W).1 (long a0.data.toList i W).2 e1.2).2 (fun j hj => long_same _ _ _ j hj)
      have e5 := fun d => long_best a0.data.toList i W d
      obtain ⟨X, hX⟩ : ∃ X, (long a0.data.toList i W).1 = X := ⟨_, rfl⟩
      obtain ⟨Y, hY⟩ : ∃ Y, (long a0.data.toList i W).2 = Y := ⟨_, rfl⟩
      rw [hX, hY] at e3 e4 e5 ⊢
      rw [hX] at e1
      rw [hY] at e2
      have HB := Lib.hid e5
      have HZ := Lib.hid e3
      clear hX hY e3 e5
      obtain ⟨e1a, e1b⟩ := e1
      have q1 : decide ((Y : Int) < 0) = false := by rw [decide_eq_false_iff_not]; omega
      have q2 : decide ((X : Int) < 0) = false := by rw [decide_eq_false_iff_not]; omega
      have q3 : decide (i < X) = false := by rw [decide_eq_false_iff_not]; omega
      have q4 : decide ((a0.size : Int) < (i : Int) + (Y : Int)) = false := by rw [decide_eq_false_iff_not]; omega
      obtain ⟨b, q5, q5'⟩ : ∃ b : Bool, ((Y : Int) == 0) = b ∧ ((X : Int) == 0) = b := by
        refine ⟨_, rfl, ?_⟩
        have := HZ.out
        rw [Bool.eq_iff_iff, beq_iff_eq, beq_iff_eq]
        omega
      have q6 : ((a0.extract i (i + Y)).toList == (a0.extract (i - X) (i - X + Y)).toList) = true := by
        rw [beq_iff_eq]
        exact (beq_iff_eq.1 e4).symm
      have r1 := str_slice a0 ((i : Int) - (X : Int)) ((i : Int) - (X : Int) + (Y : Int)) (i - X) (i - X + Y) (by omega) (by omega) (by omega) (by omega)
      have r2 := str_slice a0 (i : Int) ((i : Int) + (Y : Int)) i (i + Y) rfl (by omega) (by omega) (by omega)
      have p1 : IntKind.i64.wrap ((i : Int) - (X : Int)) = (i : Int) - (X : Int) := IntWalk.i64_in _ (by omega)
      have p2 : IntKind.i64.wrap ((i : Int) - (X : Int) + (Y : Int)) = (i : Int) - (X : Int) + (Y : Int) := IntWalk.i64_in _ (by omega)
      have p3 : IntKind.i64.wrap ((i : Int) + (Y : Int)) = (i : Int) + (Y : Int) := IntWalk.i64_in _ (by omega)
      clear e4
      go_wp2_with fail
      go_quiet (fail)
      have U3 := Lib.hid (U2.out.trans (Up.drewN _ nq))
      go_wp2_with fail
      clear q1 q2 q3 q4 q5 q5' q6 r1 r2 p1 p2 p3 U2
      generalize v2.drewN nq = v5 at *
      refine (within_some a3 300 300 _ rfl (by omega) (by omega)).mono ?_
      rintro e v3 ⟨D, hD300, rfl, rfl⟩
      go_wp2_with fail
      refine (within_some a4 65 65 _ rfl (by omega) (by omega)).mono ?_
      rintro e v4 ⟨N, hN65, rfl, rfl⟩
      by_cases c0 : D < 1
      · have g0 : decide ((D : Int) < 1) = true := by rw [decide_eq_true_iff]; omega
        go_wp2_with fail
        go_quiet (fail)
        go_wp2_with fail
        go_ret
        exact ⟨rfl, U3.out.trans (Up.drewN _ _)⟩
      have g0 : decide ((D : Int) < 1) = false := by rw [decide_eq_false_iff_not]; omega
      by_cases c1 : i < D
      · have g1 : decide (i < D) = true := by rw [decide_eq_true_iff]; omega
        go_wp2_with fail
        go_quiet (fail)
        go_wp2_with fail
        go_ret
        exact ⟨rfl, U3.out.trans (Up.drewN _ _)⟩
      have g1 : decide (i < D) = false := by rw [decide_eq_false_iff_not]; omega
      by_cases c2 : W < D
      · have g2 : decide (W < D) = true := by rw [decide_eq_true_iff]; omega
        go_wp2_with fail
        go_quiet (fail)
        go_wp2_with fail
        go_ret
        exact ⟨rfl, U3.out.trans (Up.drewN _ _)⟩
      have g2 : decide (W < D) = false := by rw [decide_eq_false_iff_not]; omega
      by_cases c3 : a0.size < i + N
      · have g3 : decide ((a0.size : Int) < (i : Int) + (N : Int)) = true := by rw [decide_eq_true_iff]; omega
        go_wp2_with fail
        go_quiet (fail)
        go_wp2_with fail
        go_ret
        exact ⟨rfl, U3.out.trans (Up.drewN _ _)⟩
      have g3 : decide ((a0.size : Int) < (i : Int) + (N : Int)) = false := by rw [decide_eq_false_iff_not]; omega
      by_cases c4 : N < 1
      · have g4 : decide ((N : Int) < 1) = true := by rw [decide_eq_true_iff]; omega
        go_wp2_with fail
        go_quiet (fail)
        go_wp2_with fail
        go_ret
        exact ⟨rfl, U3.out.trans (Up.drewN _ _)⟩
      have g4 : decide ((N : Int) < 1) = false := by rw [decide_eq_false_iff_not]; omega
      have hcm := pieces_com a0 i D N (by omega) (by unfold most; rw [ba_length]; omega)
      have hbst := HB.out D (by omega) (by omega) (by omega)
      have r1 := str_slice a0 ((i : Int) - (D : Int)) ((i : Int) - (D : Int) + (N : Int)) (i - D) (i - D + N) (by omega) (by omega) (by omega) (by omega)
      have r2 := str_slice a0 (i : Int) ((i : Int) + (N : Int)) i (i + N) rfl (by omega) (by omega) (by omega)
      have p1 : IntKind.i64.wrap ((i : Int) - (D : Int)) = (i : Int) - (D : Int) := IntWalk.i64_in _ (by omega)
      have p2 : IntKind.i64.wrap ((i : Int) - (D : Int) + (N : Int)) = (i : Int) - (D : Int) + (N : Int) := IntWalk.i64_in _ (by omega)
      have p3 : IntKind.i64.wrap ((i : Int) + (N : Int)) = (i : Int) + (N : Int) := IntWalk.i64_in _ (by omega)
      by_cases hc : N ≤ com a0.data.toList i D
      · rw [decide_eq_true hc] at hcm
        by_cases hyn : N < Y
        · have k1 : decide (N < Y) = true := by rw [decide_eq_true_iff]; omega
          clear hbst hc
          go_wp2_with fail
          go_quiet (fail)
          go_wp2_with fail
          go_ret
          exact ⟨rfl, U3.out.trans (Up.drewN _ _)⟩
        · obtain rfl : Y = N := by omega
          have hxd := hbst.2 (by omega)
          have k1 : decide (Y < Y) = false := by rw [decide_eq_false_iff_not]; omega
          have k2 : decide (X ≤ D) = true := by rw [decide_eq_true_iff]; omega
          clear hbst hc
          go_wp2_with fail
          go_quiet (fail)
          go_wp2_with fail
          go_ret
          exact ⟨rfl, U3.out.trans (Up.drewN _ _)⟩
      · rw [decide_eq_false hc] at hcm
        clear hbst hc
        go_wp2_with fail
        go_quiet (fail)
        go_wp2_with fail
        go_ret
        exact ⟨rfl, U3.out.trans (Up.drewN _ _)⟩
    · have HF := Lib.hid hf
      clear hf
      go_wp2_with fail
      refine (longest_arg a0 a1 a2 _ (by omega) HF.out).mono ?_
      rintro e v2 ⟨rfl, rfl⟩
      go_wp2_with fail
      go_ret
      exact ⟨rfl, u1⟩

end Go.Proofs.Ytbcebfjnpeacnaa
