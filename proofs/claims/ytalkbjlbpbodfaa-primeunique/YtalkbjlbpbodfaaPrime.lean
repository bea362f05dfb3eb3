/-
  What the functions of package prime return, at every argument: by the least divisor. Conditions: the arguments are ints.
-/
import Derived.Test.YtalkbjlbpbodfaaKeep
import Derived.Test.YtalkbjlbpbodfaaMath2
namespace Go.Proofs.Ytalkbjlbpbodfaa
open Go.RowKit
open Go.Proofs

/-- what leastFactor hands back -/
def LeastPost (m : Nat) (w : World) (e : Ending) (w' : World) : Prop :=
  ∃ f : Nat, WoolMath.IsLeast f m ∧ f ≤ m ∧ e = .returned (.int .i64 (f : Int)) ∧ Up w w'

def LeastRel (m from_ : Nat) (w : World) (d : Value) (wr : World) : Prop :=
  ∃ D : Nat, from_ ≤ D ∧ D ≤ 2147483647 ∧ (∀ e, 2 ≤ e → e < D → ¬ WoolMath.dvd e m) ∧ d = .int .i64 D ∧ Up w wr

set_option maxRecDepth 100000 in
set_option maxHeartbeats 400000 in
theorem leastFactor_any (M F : Nat) (w : World) (h1 : 2 ≤ M) (h2 : M ≤ 2147483647) (h3 : 2 ≤ F) (h4 : F ≤ 2147483647) (hF : ∀ d, 2 ≤ d → d < F → ¬ WoolMath.dvd d M) :
    Calls Try.prog 11 #[.int .i64 (M : Int), .int .i64 (F : Int)] w (LeastPost M w) := by
  have HF := Lib.hid hF
  clear hF
  have hbl := WoolMath.blen_pos M (by omega)
  have hl : M.log2 ≤ 30 := by
    have := (Nat.log2_lt (show M ≠ 0 by omega)).2 (show M < 2 ^ 31 by omega)
    omega
  have HBL := Lib.hid hbl
  clear hbl
  have hp : 2 ^ (M.log2 / 2 + 1) ≤ 65536 := Nat.pow_le_pow_right (n := 2) (j := 16) (by omega) (by omega)
  go_enter Try.func11, Try.ntmps11
  go_wp2_with fail
  refine (degN M _ h2).mono ?_
  rintro e w' ⟨rfl, rfl⟩
  rw [HBL.out, show ((M.log2 + 1 : Nat) : Int) - 1 = (M.log2 : Int) by omega]
  have hs := WoolMath.least_self (m := M) h1
  have HS := Lib.hid hs
  clear hs
  generalize M.log2 = L at *
  have hpw : wrap64 (2 ^ (L / 2 + 1)) = ((2 ^ (L / 2 + 1) : Nat) : Int) := by
    rw [pow_cast]
    generalize 2 ^ (L / 2 + 1) = z at *
    unfold wrap64
    omega
  generalize 2 ^ (L / 2 + 1) = E at *
  go_wp2_with fail
  rw [hpw]
  clear hpw
  go_loopw [8] (fun d wr => LeastRel M F w d wr) (fun d _ => E - (intOf d).toNat)
  case atStart => exact ⟨F, Nat.le_refl _, h4, HF.out, rfl, Up.refl w⟩
  case round =>
    obtain ⟨D, hD1, hD2, hno, rfl, hu⟩ := hrel
    have HNO := Lib.hid hno
    have HU := Lib.hid hu
    clear hno hu
    by_cases hlt : D < E
    · by_cases hr : WoolMath.pmod M D = 0
      · have hls : WoolMath.IsLeast D M := ⟨by omega, (WoolMath.dvd_iff _ _ (by omega)).2 hr, HNO.out⟩
        have HLS := Lib.hid hls
        have HR := Lib.hid hr
        have hle := WoolMath.dvd_le_num hls.2.1 (by omega)
        clear hr hls
        go_wp2_with fail
        refine (divN M D _ h2 (by omega) (by omega)).mono ?_
        rintro e w2 ⟨rfl, u2⟩
        rw [HR.out]
        go_wp2_with fail
        go_ret
        exact ⟨D, HLS.out, hle, rfl, HU.out.trans u2⟩
      · have hz : ((WoolMath.pmod M D : Int) == 0) = false := by rw [beq_eq_false_iff_ne]; omega
        have hnext : ∀ e, 2 ≤ e → e < D + 1 → ¬ WoolMath.dvd e M := by
          intro e e1 e2 e3
          by_cases he : e = D
          · subst he; exact hr ((WoolMath.dvd_iff _ _ (by omega)).1 e3)
          · exact HNO.out e e1 (by omega) e3
        have HN := Lib.hid hnext
        clear hr hnext
        go_wp2_with fail
        refine (divN M D _ h2 (by omega) (by omega)).mono ?_
        rintro e w2 ⟨rfl, u2⟩
        go_wp2_with fail
        go_roundw
        case rel => exact ⟨D + 1, by omega, by omega, HN.out, by go_num, HU.out.trans u2⟩
        case measure => simp [intOf]; omega
    · have hls := HS.out (fun d d1 d2 => HNO.out d d1 (by omega))
      have HLS := Lib.hid hls
      have dd : decide (D < E) = false := by rw [decide_eq_false_iff_not]; omega
      clear hls
      go_wp2_with fail
      go_ret
      exact ⟨M, HLS.out, Nat.le_refl _, rfl, HU.out⟩

/-! ytalkbjlbpbodfaa# irreducible, Is, Next -/

set_option maxRecDepth 100000 in
theorem irreducible_yes (M : Nat) (w : World) (h2 : M ≤ 2147483647) (hp : WoolMath.Prime M) :
    Calls Try.prog 13 #[.int .i64 (M : Int)] w fun e w' => e = .returned (.bool true) ∧ Up w w' := by
  have h1 := hp.1
  have HP := Lib.hid hp
  clear hp
  have d1 : decide ((1 : Int) < (M : Int)) = true := by rw [decide_eq_true_iff]; omega
  go_enter Try.func13, Try.ntmps13
  go_wp2_with fail
  refine (leastFactor_any M 2 _ h1 h2 (by omega) (by omega) (fun d d1 d2 => by omega)).mono ?_
  rintro e w2 ⟨f, hf, hfl, rfl, u2⟩
  rw [(WoolMath.least_iff hf).2 HP.out]
  clear hf hfl f
  go_wp2_with fail
  go_ret
  exact ⟨rfl, u2⟩

set_option maxRecDepth 100000 in
theorem irreducible_no (M : Nat) (w : World) (h2 : M ≤ 2147483647) (hp : ¬ WoolMath.Prime M) :
    Calls Try.prog 13 #[.int .i64 (M : Int)] w fun e w' => e = .returned (.bool false) ∧ Up w w' := by
  have HP := Lib.hid hp
  clear hp
  by_cases h1 : 2 ≤ M
  · have d1 : decide ((1 : Int) < (M : Int)) = true := by rw [decide_eq_true_iff]; omega
    go_enter Try.func13, Try.ntmps13
    go_wp2_with fail
    refine (leastFactor_any M 2 _ h1 h2 (by omega) (by omega) (fun d d1 d2 => by omega)).mono ?_
    rintro e w2 ⟨f, hf, hfl, rfl, u2⟩
    have hne : ((f : Int) == (M : Int)) = false := by
      rw [beq_eq_false_iff_ne]
      intro h
      exact HP.out ((WoolMath.least_iff hf).1 (by omega))
    clear hf
    go_wp2_with fail
    go_ret
    exact ⟨rfl, u2⟩
  · have d1 : decide ((1 : Int) < (M : Int)) = false := by rw [decide_eq_false_iff_not]; omega
    go_enter Try.func13, Try.ntmps13
    go_wp2_with fail
    go_ret
    exact ⟨rfl, Up.refl w⟩

def NextRel (m top : Nat) (w : World) (d : Value) (wr : World) : Prop :=
  ∃ D : Nat, m ≤ D ∧ D ≤ top ∧ (∀ q, m ≤ q → q < D → ¬ WoolMath.Prime q) ∧ d = .int .i64 D ∧ Up w wr

set_option maxRecDepth 100000 in
set_option maxHeartbeats 400000 in
theorem next_ok (M P : Nat) (w : World) (hP : WoolMath.IsNext P M) (hP2 : P ≤ 2147483647) :
    Calls Try.prog 6 #[.int .i64 (M : Int)] w fun e w' => e = .returned (.tuple #[.int .i64 (P : Int), .int .i64 0]) ∧ Up w w' := by
  have hle := hP.2.1
  have HP := Lib.hid hP
  clear hP
  go_enter Try.func6, Try.ntmps6
  go_wp2_with (go_at_call 10; refine (check_ok _ _ (by omega) (by omega)).mono ?_; rintro e w' ⟨rfl, rfl⟩)
  go_loopw [0] (fun d wr => NextRel M P w d wr) (fun d _ => P - (intOf d).toNat)
  case atStart => exact ⟨M, Nat.le_refl _, hle, fun q q1 q2 => by omega, rfl, Up.refl w⟩
  case round =>
    obtain ⟨D, hD1, hD2, hno, rfl, hu⟩ := hrel
    have HNO := Lib.hid hno
    have HU := Lib.hid hu
    clear hno hu
    have dd : decide ((D : Int) ≤ 2147483647) = true := by rw [decide_eq_true_iff]; omega
    by_cases he : D = P
    · subst he
      go_wp2_with fail
      refine (irreducible_yes D _ (by omega) HP.out.1).mono ?_
      rintro e w2 ⟨rfl, u2⟩
      go_wp2_with fail
      go_ret2
      exact ⟨rfl, HU.out.trans u2⟩
    · have hnp := HP.out.2.2 D hD1 (by omega)
      have HNP := Lib.hid hnp
      have hlt : D < P := by omega
      clear hnp he
      go_wp2_with fail
      refine (irreducible_no D _ (by omega) HNP.out).mono ?_
      rintro e w2 ⟨rfl, u2⟩
      go_wp2_with fail
      go_roundw
      case rel =>
        refine ⟨D + 1, by omega, by omega, fun q q1 q2 => ?_, by go_num, HU.out.trans u2⟩
        exact HP.out.2.2 q q1 (by omega)
      case measure => simp [intOf]; omega

set_option maxRecDepth 100000 in
set_option maxHeartbeats 400000 in
theorem next_none (M : Nat) (w : World) (hM : M ≤ 2147483647) (hno : ∀ q, M ≤ q → q ≤ 2147483647 → ¬ WoolMath.Prime q) :
    Calls Try.prog 6 #[.int .i64 (M : Int)] w fun e w' => e = .returned (.tuple #[.int .i64 0, .int .i64 4]) ∧ Up w w' := by
  have HN := Lib.hid hno
  clear hno
  go_enter Try.func6, Try.ntmps6
  go_wp2_with (go_at_call 10; refine (check_ok _ _ (by omega) (by omega)).mono ?_; rintro e w' ⟨rfl, rfl⟩)
  go_loopw [0] (fun d wr => NextRel M 2147483648 w d wr) (fun d _ => 2147483648 - (intOf d).toNat)
  case atStart => exact ⟨M, Nat.le_refl _, by omega, fun q q1 q2 => by omega, rfl, Up.refl w⟩
  case round =>
    obtain ⟨D, hD1, hD2, hno, rfl, hu⟩ := hrel
    have HU := Lib.hid hu
    clear hno hu
    by_cases hlt : D ≤ 2147483647
    · have dd : decide ((D : Int) ≤ 2147483647) = true := by rw [decide_eq_true_iff]; omega
      have hnp := HN.out D hD1 hlt
      have HNP := Lib.hid hnp
      clear hnp
      go_wp2_with fail
      refine (irreducible_no D _ (by omega) HNP.out).mono ?_
      rintro e w2 ⟨rfl, u2⟩
      go_wp2_with fail
      go_roundw
      case rel =>
        refine ⟨D + 1, by omega, by omega, fun q q1 q2 => ?_, by go_num, HU.out.trans u2⟩
        exact HN.out q q1 (by omega)
      case measure => simp [intOf]; omega
    · have dd : decide ((D : Int) ≤ 2147483647) = false := by rw [decide_eq_false_iff_not]; omega
      go_wp2_with fail
      go_ret2
      exact ⟨rfl, HU.out⟩

set_option maxRecDepth 100000 in
theorem next_bad (a : Int) (w : World) (h : a < 0 ∨ 2147483647 < a) :
    Calls Try.prog 6 #[.int .i64 a] w fun e w' => e = .returned (.tuple #[.int .i64 0, .int .i64 1]) ∧ Up w w' := by
  have H := Lib.hid h
  clear h
  go_enter Try.func6, Try.ntmps6
  go_wp2_with (go_at_call 10; refine (check_bad _ _ H.out).mono ?_; rintro e w' ⟨rfl, rfl⟩)
  go_ret2
  exact ⟨rfl, Up.refl w⟩

end Go.Proofs.Ytalkbjlbpbodfaa
