/-
  What the reference's Longest returns: the longest match; and the law MatchSays, walked: for every text and every two numbers the Go text returns true. Conditions: a text that came in has at most 2^47 - 4096 bytes.
-/
import Derived.Test.YtloiciinmdmdkaaGreatDoorMatch
namespace Go.Proofs.YtloiciinmdmdkaaGreatDoor
open Go.RowKit
open Go.Proofs
open WoolMatch

/-- two pieces agree just where the places do -/
theorem pieces_same (s : ByteArray) (i d n : Nat) (hd : d ≤ i) : ((s.extract (i - d) (i - d + n)).toList == (s.extract i (i + n)).toList) = true ↔ ∀ j, j < n → s.data.toList[i + j]? = s.data.toList[i + j - d]? := by
  rw [beq_iff_eq, ext_list, ext_list, show i - d + n - (i - d) = n by omega, show i + n - i = n by omega]
  constructor
  · intro h j hj
    have := congrArg (fun l : List UInt8 => l[j]?) h
    simp only [List.getElem?_take, List.getElem?_drop, if_pos hj] at this
    rw [show i + j - d = i - d + j by omega]
    exact this.symm
  · intro h
    apply List.ext_getElem?
    intro j
    simp only [List.getElem?_take, List.getElem?_drop]
    by_cases hj : j < n
    · rw [if_pos hj, if_pos hj, h j hj, show i + j - d = i - d + j by omega]
    · rw [if_neg hj, if_neg hj]

theorem pieces_com (s : ByteArray) (i d n : Nat) (hd : d ≤ i) (hn : n ≤ most s.data.toList i) : ((s.extract (i - d) (i - d + n)).toList == (s.extract i (i + n)).toList) = decide (n ≤ com s.data.toList i d) := by
  rw [Bool.eq_iff_iff, pieces_same s i d n hd, decide_eq_true_iff]
  constructor
  · intro h; exact com_ge _ _ _ _ hn h
  · intro h j hj; exact com_same _ _ _ _ (by omega)

def RefORel (L : List UInt8) (i W M : Nat) (w : World) (n : Value) (wr : World) : Prop :=
  ∃ k : Nat, k ≤ M ∧ n = .int .i64 k ∧ (∀ d, 1 ≤ d → d ≤ W → d ≤ i → com L i d ≤ k) ∧ Up w wr

def RefIRel (L : List UInt8) (i W k : Nat) (w : World) (d : Value) (wr : World) : Prop :=
  ∃ D : Nat, 1 ≤ D ∧ D ≤ i + 1 ∧ D ≤ W + 1 ∧ d = .int .i64 D ∧ (∀ x, 1 ≤ x → x < D → com L i x < k) ∧ Up w wr

set_option maxRecDepth 100000 in
set_option maxHeartbeats 400000 in
theorem refLongest_any (s : ByteArray) (i W : Nat) (w : World) (hs : s.size ≤ 600) (hi : i ≤ s.size) (h1 : 1 ≤ W) (h2 : W ≤ 256) :
    Calls Tryz.prog 39 #[.string s, .int .i64 (i : Int), .int .i64 (W : Int)] w fun e w' => e = .returned (.tuple #[.int .i64 ((long s.data.toList i W).1 : Nat), .int .i64 ((long s.data.toList i W).2 : Nat)]) ∧ Up w w' := by
  obtain ⟨M, hM⟩ : ∃ M, most s.data.toList i = M := ⟨_, rfl⟩
  have hM2 : min (s.size - i) 64 = M := by rw [← hM]; unfold most; rw [ba_length]
  have hmin : min 64 ((s.size : Int) - (i : Int)) = (M : Int) := by omega
  have hMs : i + M ≤ s.size := by omega
  have HM := Lib.hid hM
  obtain ⟨p, hp⟩ : ∃ p, long s.data.toList i W = p := ⟨_, rfl⟩
  rw [hp]
  have HP := Lib.hid hp
  clear hM hM2 hp
  go_enter Tryz.func39, Tryz.ntmps39
  go_wp2_with fail
  clear hmin
  go_loopw [8] (fun n wr => RefORel s.data.toList i W M w n wr) (fun n _ => (intOf n).toNat)
  case atStart => exact ⟨M, Nat.le_refl _, rfl, fun d _ _ _ => by rw [← HM.out]; exact com_le _ _ _, Up.refl w⟩
  case round =>
    obtain ⟨k, hk, rfl, hj, hu⟩ := hrel
    have HJ := Lib.hid hj
    have HU := Lib.hid hu
    clear hj hu
    by_cases h0 : 0 < k
    · go_wp2_with fail
      go_loopw [9] (fun d wr => RefIRel s.data.toList i W k w d wr) (fun d _ => i + 1 - (intOf d).toNat)
      case atStart => exact ⟨1, Nat.le_refl _, by omega, by omega, rfl, fun x a b => by omega, HU.out⟩
      case round =>
        obtain ⟨D, hD1, hD2, hD3, rfl, hx, hu⟩ := hrel
        have HX := Lib.hid hx
        have HUI := Lib.hid hu
        clear hx hu
        by_cases hin : D ≤ W ∧ D ≤ i
        · obtain ⟨hDW, hDi⟩ := hin
          have dd1 : decide (D ≤ W) = true := by rw [decide_eq_true_iff]; exact hDW
          have dd2 : decide (D ≤ i) = true := by rw [decide_eq_true_iff]; exact hDi
          have r1 := str_slice s ((i : Int) - (D : Int)) ((i : Int) - (D : Int) + (k : Int)) (i - D) (i - D + k) (by omega) (by omega) (by omega) (by omega)
          have r2 := str_slice s (i : Int) ((i : Int) + (k : Int)) i (i + k) rfl (by omega) (by omega) (by omega)
          have w1 : IntKind.i64.wrap ((i : Int) - (D : Int)) = (i : Int) - (D : Int) := IntWalk.i64_in _ (by omega)
          have w2 : IntKind.i64.wrap ((i : Int) - (D : Int) + (k : Int)) = (i : Int) - (D : Int) + (k : Int) := IntWalk.i64_in _ (by omega)
          have w3 : IntKind.i64.wrap ((i : Int) + (k : Int)) = (i : Int) + (k : Int) := IntWalk.i64_in _ (by omega)
          have hpc := pieces_com s i D k hDi (by rw [HM.out]; exact hk)
          by_cases hc : k ≤ com s.data.toList i D
          · rw [decide_eq_true hc] at hpc
            obtain rfl : p = (D, k) := by
              rw [← HP.out]
              exact long_unique _ _ _ _ _ hD1 hDW hDi hc h0 HJ.out HX.out
            go_wp2_with fail
            go_quiet (fail)
            go_wp2_with fail
            go_ret2
            exact ⟨rfl, HUI.out.trans (Up.drewN _ _)⟩
          · rw [decide_eq_false hc] at hpc
            have HC := Lib.hid hc
            clear hc
            go_wp2_with fail
            go_quiet (fail)
            go_wp2_with fail
            go_roundw
            case rel => exact ⟨D + 1, by omega, by omega, by omega, by go_num, fun x a b => (by
              by_cases e : x = D
              · subst e; have := HC.out; omega
              · exact HX.out x a (by omega)), HUI.out.trans (Up.drewN _ _)⟩
            case measure => simp only [intOf]; omega
        · by_cases hDW : D ≤ W
          · have dd1 : decide (D ≤ W) = true := by rw [decide_eq_true_iff]; exact hDW
            have dd2 : decide (D ≤ i) = false := by rw [decide_eq_false_iff_not]; omega
            have hDi : D = i + 1 := by omega
            have HDI := Lib.hid hDi
            clear hin hDi
            go_wp2_with fail
            go_roundw
            case rel => exact ⟨k - 1, by omega, by go_num, fun d a b c => (by have := HX.out d a (by have := HDI.out; omega); omega), HUI.out⟩
            case measure => simp only [intOf]; omega
          · have dd1 : decide (D ≤ W) = false := by rw [decide_eq_false_iff_not]; exact hDW
            clear hin
            go_wp2_with fail
            go_roundw
            case rel => exact ⟨k - 1, by omega, by go_num, fun d a b c => (by have := HX.out d a (by omega); omega), HUI.out⟩
            case measure => simp only [intOf]; omega
    · obtain rfl : k = 0 := by omega
      obtain rfl : p = (0, 0) := by
        rw [← HP.out]
        exact long_none _ _ _ (fun d a b c => by have := HJ.out d a b c; omega)
      go_wp2_with fail
      go_ret2
      exact ⟨rfl, HU.out⟩

end Go.Proofs.YtloiciinmdmdkaaGreatDoor
