/-
  What match.common and match.Longest return, at every argument: the error that the document lists first, else the longest match. Conditions: a text of at most 2^47 - 4096 bytes.
-/
import Derived.Test.YtemineffflodcaaJListsOwn01
import Derived.Test.YtemineffflodcaaJListsOwn31
import Derived.Deep.QuietTactic
import Derived.BigQuiet
namespace Go.Proofs.Ytemineffflodcaa
open Go.RowKit
open Go.Proofs
open WoolMatch

def ComRel (L : List UInt8) (i d : Nat) (w : World) (n : Value) (wr : World) : Prop :=
  ∃ k : Nat, k ≤ most L i ∧ n = .int .i64 k ∧ (∀ j, j < k → L[i + j]? = L[i + j - d]?) ∧ Up w wr

set_option maxRecDepth 100000 in
set_option maxHeartbeats 400000 in
theorem common_any (s : ByteArray) (i d : Nat) (w : World) (hs : s.size ≤ 600) (hi : i ≤ s.size) (h1 : 1 ≤ d) (hd : d ≤ i) :
    Calls Try.prog 47 #[.string s, .int .i64 (i : Int), .int .i64 (d : Int)] w fun e w' => e = .returned (.int .i64 (com s.data.toList i d : Nat)) ∧ Up w w' := by
  obtain ⟨M, hM⟩ : ∃ M, most s.data.toList i = M := ⟨_, rfl⟩
  have hM2 : min (s.size - i) 64 = M := by rw [← hM]; unfold most; rw [ba_length]
  have hmin : min ((s.size : Int) - (i : Int)) 64 = (M : Int) := by omega
  have hMs : i + M ≤ s.size := by omega
  have HM := Lib.hid hM
  obtain ⟨C, hC⟩ : ∃ C, com s.data.toList i d = C := ⟨_, rfl⟩
  rw [hC]
  have HC := Lib.hid hC
  clear hM hM2 hC
  go_enter Try.func47, Try.ntmps47
  go_wp2_with fail
  clear hmin
  go_loopw [8] (fun n wr => ComRel s.data.toList i d w n wr) (fun n _ => M - (intOf n).toNat)
  case atStart => exact ⟨0, Nat.zero_le _, rfl, fun j hj => by omega, Up.refl w⟩
  case round =>
    obtain ⟨k, hk, rfl, hj, hu⟩ := hrel
    rw [HM.out] at hk
    have HJ := Lib.hid hj
    have HU := Lib.hid hu
    clear hj hu
    by_cases hlt : k < M
    · have hik : i + k < s.size := by omega
      have hikd : i + k - d < s.size := by omega
      obtain ⟨x, q1⟩ : ∃ x, s.data.toList[i + k]? = some x := ⟨_, list_at s (i + k) hik⟩
      obtain ⟨y, q2⟩ : ∃ y, s.data.toList[i + k - d]? = some y := ⟨_, list_at s (i + k - d) hikd⟩
      have r1 := str_index s ((i : Int) + (k : Int)) (i + k) x (by omega) q1
      have r2 := str_index s ((i : Int) + (k : Int) - (d : Int)) (i + k - d) y (by omega) q2
      have Q1 := Lib.hid q1
      have Q2 := Lib.hid q2
      clear q1 q2
      have w1 : IntKind.i64.wrap ((i : Int) + (k : Int)) = (i : Int) + (k : Int) := IntWalk.i64_in _ (by omega)
      have w2 : IntKind.i64.wrap ((i : Int) + (k : Int) - (d : Int)) = (i : Int) + (k : Int) - (d : Int) := IntWalk.i64_in _ (by omega)
      have dlt : decide (k < M) = true := by rw [decide_eq_true_iff]; exact hlt
      by_cases hxy : x = y
      · subst hxy
        go_wp2_with fail
        go_quiet (fail)
        go_wp2_with fail
        go_roundw
        case rel => exact ⟨k + 1, by rw [HM.out]; omega, by go_num, fun j hj => (by
          by_cases e : j = k
          · subst e; exact Q1.out.trans Q2.out.symm
          · exact HJ.out j (by omega)), HU.out.trans (Up.drewN _ _)⟩
        case measure => simp only [intOf]; omega
      · have dne : ((x.toNat : Int) == (y.toNat : Int)) = false := by
          rw [beq_eq_false_iff_ne]
          intro h
          exact hxy (UInt8.toNat_inj.1 (by omega))
        have hk2 : C = k := by
          rw [← HC.out]
          refine com_eq _ _ _ _ (by rw [HM.out]; omega) HJ.out (.inr ?_)
          rw [Q1.out, Q2.out]
          intro h
          cases h
          exact hxy rfl
        subst hk2
        go_wp2_with fail
        go_quiet (fail)
        go_wp2_with fail
        go_ret
        exact ⟨rfl, HU.out.trans (Up.drewN _ _)⟩
    · have dlt : decide (k < M) = false := by rw [decide_eq_false_iff_not]; exact hlt
      have hk2 : C = k := by
        rw [← HC.out]
        exact com_eq _ _ _ _ (by rw [HM.out]; omega) HJ.out (.inl (by rw [HM.out]; omega))
      subst hk2
      go_wp2_with fail
      go_quiet (fail)
      go_wp2_with fail
      go_ret
      exact ⟨rfl, HU.out.trans (Up.drewN _ _)⟩

def LongRel (L : List UInt8) (i N : Nat) (w : World) (x y d : Value) (wr : World) : Prop :=
  ∃ k : Nat, k ≤ N ∧ d = .int .i64 ((k + 1 : Nat) : Int) ∧ x = .int .i64 ((longF L i k).1 : Nat) ∧ y = .int .i64 ((longF L i k).2 : Nat) ∧ Up w wr

set_option maxRecDepth 100000 in
set_option maxHeartbeats 400000 in
theorem longest_ok (s : ByteArray) (i W : Nat) (w : World) (hs : s.size ≤ 600) (hi : i ≤ s.size) (h1 : 1 ≤ W) (h2 : W ≤ 256) :
    Calls Try.prog 34 #[.string s, .int .i64 (i : Int), .int .i64 (W : Int)] w fun e w' => e = .returned (.tuple #[.int .i64 ((long s.data.toList i W).1 : Nat), .int .i64 ((long s.data.toList i W).2 : Nat), .int .i64 0]) ∧ Up w w' := by
  obtain ⟨N, hN⟩ : ∃ N, min W i = N := ⟨_, rfl⟩
  have hmin : min (W : Int) (i : Int) = (N : Int) := by omega
  have hNi : N ≤ i := by omega
  have hl : long s.data.toList i W = longF s.data.toList i N := by unfold long; rw [hN]
  rw [hl]
  have d1 : decide (600 < (s.size : Int)) = false := by rw [decide_eq_false_iff_not]; omega
  have d2 : decide ((i : Int) < 0) = false := by rw [decide_eq_false_iff_not]; omega
  have d3 : decide (s.size < i) = false := by rw [decide_eq_false_iff_not]; omega
  have d4 : decide ((W : Int) < 1) = false := by rw [decide_eq_false_iff_not]; omega
  have d5 : decide (256 < (W : Int)) = false := by rw [decide_eq_false_iff_not]; omega
  clear hl hN
  go_enter Try.func34, Try.ntmps34
  go_wp2_with fail
  go_loopw [9, 10, 11] (fun x y d wr => LongRel s.data.toList i N w x y d wr) (fun _ _ d _ => N + 1 - (intOf d).toNat)
  case atStart => exact ⟨0, Nat.zero_le _, rfl, rfl, rfl, Up.refl w⟩
  case round =>
    obtain ⟨k, hk, rfl, rfl, rfl, hu⟩ := hrel
    have HU := Lib.hid hu
    clear hu
    have hsm := (longF_spec s.data.toList i k).1
    have hlk : (longF s.data.toList i (k + 1)) = if (longF s.data.toList i k).2 < com s.data.toList i (k + 1) then (k + 1, com s.data.toList i (k + 1)) else longF s.data.toList i k := rfl
    have HLK := Lib.hid hlk
    clear hlk hsm
    obtain ⟨p, hp⟩ : ∃ p, longF s.data.toList i k = p := ⟨_, rfl⟩
    rw [hp]
    have HP := Lib.hid hp
    clear hp
    by_cases hlt : k < N
    · go_wp2_with fail
      refine (common_any s i (k + 1) _ hs hi (by omega) (by omega)).mono ?_
      rintro e w1 ⟨rfl, u1⟩
      have HU1 := Lib.hid (HU.out.trans u1)
      clear u1
      obtain ⟨c, hc⟩ : ∃ c, com s.data.toList i (k + 1) = c := ⟨_, rfl⟩
      rw [hc]
      have hn := HLK.out
      rw [HP.out, hc] at hn
      clear hc
      by_cases hcc : p.2 < c
      · rw [if_pos hcc] at hn
        have HN := Lib.hid hn
        clear hn
        go_wp2_with fail
        go_roundw
        case rel => exact ⟨k + 1, by omega, by go_num, by simp only [HN.out]; go_num, by simp only [HN.out], HU1.out⟩
        case measure => simp only [intOf]; omega
      · rw [if_neg hcc] at hn
        have HN := Lib.hid hn
        clear hn
        go_wp2_with fail
        go_roundw
        case rel => exact ⟨k + 1, by omega, by go_num, by simp only [HN.out], by simp only [HN.out], HU1.out⟩
        case measure => simp only [intOf]; omega
    · obtain rfl : N = k := by omega
      go_wp2_with fail
      go_ret3
      exact ⟨by rw [HP.out]; rfl, HU.out⟩

set_option maxRecDepth 100000 in
theorem longest_large (s : ByteArray) (i W : Int) (w : World) (hs : 600 < s.size) :
    Calls Try.prog 34 #[.string s, .int .i64 i, .int .i64 W] w fun e w' => e = .returned (.tuple #[.int .i64 0, .int .i64 0, .int .i64 2]) ∧ w = w' := by
  have d1 : decide (600 < (s.size : Int)) = true := by rw [decide_eq_true_iff]; omega
  go_enter Try.func34, Try.ntmps34
  go_wp2_with fail
  go_ret3
  exact ⟨rfl, rfl⟩

/-- do the numbers fit? -/
def fits (s : ByteArray) (i W : Int) : Prop := 0 ≤ i ∧ i ≤ (s.size : Int) ∧ 1 ≤ W ∧ W ≤ 256

set_option maxRecDepth 100000 in
theorem longest_arg (s : ByteArray) (i W : Int) (w : World) (hs : s.size ≤ 600) (h : ¬ fits s i W) :
    Calls Try.prog 34 #[.string s, .int .i64 i, .int .i64 W] w fun e w' => e = .returned (.tuple #[.int .i64 0, .int .i64 0, .int .i64 1]) ∧ w = w' := by
  have d1 : decide (600 < (s.size : Int)) = false := by rw [decide_eq_false_iff_not]; omega
  unfold fits at h
  by_cases h2 : i < 0
  · have d2 : decide (i < 0) = true := by rw [decide_eq_true_iff]; omega
    clear h
    go_enter Try.func34, Try.ntmps34
    go_wp2_with fail
    go_ret3
    exact ⟨rfl, rfl⟩
  · have d2 : decide (i < 0) = false := by rw [decide_eq_false_iff_not]; omega
    by_cases h3 : (s.size : Int) < i
    · have d3 : decide ((s.size : Int) < i) = true := by rw [decide_eq_true_iff]; omega
      clear h
      go_enter Try.func34, Try.ntmps34
      go_wp2_with fail
      go_ret3
      exact ⟨rfl, rfl⟩
    · have d3 : decide ((s.size : Int) < i) = false := by rw [decide_eq_false_iff_not]; omega
      by_cases h4 : W < 1
      · have d4 : decide (W < 1) = true := by rw [decide_eq_true_iff]; omega
        clear h
        go_enter Try.func34, Try.ntmps34
        go_wp2_with fail
        go_ret3
        exact ⟨rfl, rfl⟩
      · have d4 : decide (W < 1) = false := by rw [decide_eq_false_iff_not]; omega
        have d5 : decide (256 < W) = true := by rw [decide_eq_true_iff]; omega
        clear h
        go_enter Try.func34, Try.ntmps34
        go_wp2_with fail
        go_ret3
        exact ⟨rfl, rfl⟩

end Go.Proofs.Ytemineffflodcaa
