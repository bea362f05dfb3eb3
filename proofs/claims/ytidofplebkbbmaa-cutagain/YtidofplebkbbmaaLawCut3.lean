/-
  The law CutAgain, walked: for every three texts and all numbers the Go text returns true; nothing that was there turns. Conditions: a text that came in has at most 2^47 - 4096 bytes.
-/
import Derived.Test.YtidofplebkbbmaaLawCut2
namespace Go.Proofs.Ytidofplebkbbmaa
open Go.RowKit
open Go.Proofs

theorem endsAgain : ends 2 2 0 (⟨#[120, 121, 97, 98]⟩ : ByteArray).data.toList = [2, 4] := by decide +kernel

/-- the first common cut, or none yet -/
def Common (lx ly : List Nat) (na nb : Nat) (both : Value) : Prop := both = .int .i64 (-1) ∨ ∃ B : Nat, both = .int .i64 B ∧ B ≤ 600 ∧ na + B ∈ lx ∧ nb + B ∈ ly

def AgRel (lx ly : List Nat) (na nb n : Nat) (w : World) (both i : Value) (wr : World) : Prop :=
  ∃ k : Nat, k ≤ n + 1 ∧ i = .int .i64 k ∧ Common lx ly na nb both ∧ w = wr

def AgRel2 (B : Nat) (w : World) (i : Value) (wr : World) : Prop := ∃ k : Nat, B ≤ k ∧ k ≤ 601 ∧ i = .int .i64 k ∧ w = wr

set_option maxRecDepth 100000 in
set_option maxHeartbeats 2000000 in
theorem cutAgain_walk (a0 a1 a2 : ByteArray) (a3 a4 a5 : Int) (w : World) (w0 : a0.size ≤ 140737488351232) (w1 : a1.size ≤ 140737488351232) (w2 : a2.size ≤ 140737488351232) (_w3 : (Lit.int .i64 a3).wf = true) (_w4 : (Lit.int .i64 a4).wf = true) (_w5 : (Lit.int .i64 a5).wf = true) :
    Calls Try.prog 15 #[.string a0, .string a1, .string a2, .int .i64 a3, .int .i64 a4, .int .i64 a5] w fun e w' => e = .returned (.bool true) ∧ Up w w' := by
  have HE := Lib.hid endsAgain
  have hadd1 : ∀ v : World, (Op.stringOp .add a0 a2).run Try.prog v = .ok (.string (a0 ++ a2)) v := fun v => run_string_add_sum v a0 a2 (by omega)
  have hadd2 : ∀ v : World, (Op.stringOp .add a1 a2).run Try.prog v = .ok (.string (a1 ++ a2)) v := fun v => run_string_add_sum v a1 a2 (by omega)
  have hsz1 : (a0 ++ a2).size = a0.size + a2.size := ByteArray.size_append
  have hsz2 : (a1 ++ a2).size = a1.size + a2.size := ByteArray.size_append
  have hal1 := app_list a0 a2
  have hal2 := app_list a1 a2
  generalize a0 ++ a2 = S at *
  generalize a1 ++ a2 = T at *
  have HAL1 := Lib.hid hal1
  have HAL2 := Lib.hid hal2
  have hS0 : a0.size + a2.size ≤ S.size := by omega
  have hT0 : a1.size + a2.size ≤ T.size := by omega
  clear hal1 hal2 hsz1 hsz2
  go_enter Try.func15, Try.ntmps15
  go_wp2_with fail
  refine (ends_ok _ 2 2 0 _ (by decide) (by omega) (by omega) (by omega) (by omega)).mono ?_
  rintro e v1 ⟨v, rfl, hints, u1⟩
  rw [HE.out] at hints
  obtain ⟨o, c, rfl⟩ := hints.shape
  have HINTS := Lib.hid hints
  clear hints
  go_wp2_with fail
  have hlit : Ints (v1.alloc (.cells #[.int .i64 2, .int .i64 4] 3)) 0 (.slice (some ⟨v1.heap.size, 0, none⟩) 2 2) [2, 4] :=
    World.ownsRow_lit v1 _ 2 (Nat.zero_le _) (by unfold maxLen; omega) rfl
  refine (equal_yes _ _ _ _ [2, 4] _ (by simp) (HINTS.out.up (Up.alloc _ _)) hlit).mono ?_
  rintro e v2 ⟨rfl, u2⟩
  have HU := Lib.hid ((u1.trans (Up.alloc _ _)).trans u2)
  clear hlit u1 u2 HINTS
  go_wp2_with fail
  by_cases hok : S.size ≤ 600 ∧ T.size ≤ 600 ∧ 1 ≤ a3 ∧ a3 ≤ a4 ∧ a4 ≤ 600 ∧ 0 ≤ a5 ∧ a5 ≤ 65535
  · obtain ⟨hS, hT, ha⟩ := hok
    obtain ⟨L, rfl⟩ := Int.eq_ofNat_of_zero_le (show 0 ≤ a3 by omega)
    obtain ⟨M, rfl⟩ := Int.eq_ofNat_of_zero_le (show 0 ≤ a4 by omega)
    obtain ⟨K, rfl⟩ := Int.eq_ofNat_of_zero_le (show 0 ≤ a5 by omega)
    have h1 : 1 ≤ L := by omega
    have h2 : L ≤ M := by omega
    have h3 : M ≤ 600 := by omega
    have h4 : K ≤ 65535 := by omega
    clear ha
    refine (ends_ok _ L M K _ hS h1 h2 h3 h4).mono ?_
    rintro e v3 ⟨vx, rfl, hx, u3⟩
    obtain ⟨ox, cx, rfl⟩ := hx.shape
    have HX := Lib.hid hx
    clear hx
    go_wp2_with fail
    refine (ends_ok _ L M K _ hT h1 h2 h3 h4).mono ?_
    rintro e v4 ⟨vy, rfl, hy, u4⟩
    obtain ⟨oy, cy, rfl⟩ := hy.shape
    have HY := Lib.hid hy
    have HX4 := Lib.hid (HX.out.up u4)
    have hagain := fun i j => ends_again L M K h1 h2 a0.data.toList a1.data.toList a2.data.toList i j
    rw [← HAL1.out, ← HAL2.out, len_ba, len_ba] at hagain
    have hlx := ends_length L M K h1 h2 S.data.toList
    have hly := ends_length L M K h1 h2 T.data.toList
    rw [len_ba] at hlx hly
    have HUE := Lib.hid ((HU.out.trans u3).trans u4)
    clear hy HX
    generalize ends L M K S.data.toList = lx at *
    generalize ends L M K T.data.toList = ly at *
    have HAG := Lib.hid hagain
    have hl1 : lx.length ≤ 1000 := by omega
    have hl2 : ly.length ≤ 1000 := by omega
    have hna : a0.size ≤ 600 := by omega
    have hnb : a1.size ≤ 600 := by omega
    have hns : a2.size ≤ 600 := by omega
    clear hagain
    go_wp2_with fail
    go_loopw [19, 63] (fun both i wr => AgRel lx ly a0.size a1.size a2.size v4 both i wr) (fun _ i _ => a2.size + 1 - (intOf i).toNat)
    case atStart => exact ⟨0, by omega, rfl, .inl rfl, rfl⟩
    case round =>
      obtain ⟨k, hk, rfl, hcom, rfl⟩ := hrel
      by_cases hlt : k < a2.size + 1
      · rcases hcom with rfl | ⟨B, rfl, hB, hB1, hB2⟩
        · by_cases hx : a0.size + k ∈ lx
          · by_cases hy : a1.size + k ∈ ly
            · have HXX := Lib.hid hx
              have HYY := Lib.hid hy
              have dx : decide (a0.size + k ∈ lx) = true := by rw [decide_eq_true_iff]; exact hx
              have dy : decide (a1.size + k ∈ ly) = true := by rw [decide_eq_true_iff]; exact hy
              have DX := Lib.hid dx
              have DY := Lib.hid dy
              clear hx hy dx dy
              go_wp2_with fail
              rw [show (a0.size : Int) + (k : Int) = ((a0.size + k : Nat) : Int) by omega]
              refine (contains_any _ _ lx (a0.size + k) _ hl1 HX4.out).mono ?_
              rintro e w5 ⟨rfl, rfl⟩
              rw [DX.out]
              go_wp2_with fail
              rw [show (a1.size : Int) + (k : Int) = ((a1.size + k : Nat) : Int) by omega]
              refine (contains_any _ _ ly (a1.size + k) _ hl2 HY.out).mono ?_
              rintro e w5 ⟨rfl, rfl⟩
              rw [DY.out]
              go_wp2_with fail
              go_roundw
              case rel => exact ⟨k + 1, by omega, by go_num, .inr ⟨k, rfl, by omega, HXX.out, HYY.out⟩, rfl⟩
              case measure => simp only [intOf]; omega
            · have dx : decide (a0.size + k ∈ lx) = true := by rw [decide_eq_true_iff]; exact hx
              have dy : decide (a1.size + k ∈ ly) = false := by rw [decide_eq_false_iff_not]; exact hy
              have DX := Lib.hid dx
              have DY := Lib.hid dy
              clear hx hy dx dy
              go_wp2_with fail
              rw [show (a0.size : Int) + (k : Int) = ((a0.size + k : Nat) : Int) by omega]
              refine (contains_any _ _ lx (a0.size + k) _ hl1 HX4.out).mono ?_
              rintro e w5 ⟨rfl, rfl⟩
              rw [DX.out]
              go_wp2_with fail
              rw [show (a1.size : Int) + (k : Int) = ((a1.size + k : Nat) : Int) by omega]
              refine (contains_any _ _ ly (a1.size + k) _ hl2 HY.out).mono ?_
              rintro e w5 ⟨rfl, rfl⟩
              rw [DY.out]
              go_wp2_with fail
              go_roundw
              case rel => exact ⟨k + 1, by omega, by go_num, .inl rfl, rfl⟩
              case measure => simp only [intOf]; omega
          · have dx : decide (a0.size + k ∈ lx) = false := by rw [decide_eq_false_iff_not]; exact hx
            have DX := Lib.hid dx
            clear hx dx
            go_wp2_with fail
            rw [show (a0.size : Int) + (k : Int) = ((a0.size + k : Nat) : Int) by omega]
            refine (contains_any _ _ lx (a0.size + k) _ hl1 HX4.out).mono ?_
            rintro e w5 ⟨rfl, rfl⟩
            rw [DX.out]
            go_wp2_with fail
            go_roundw
            case rel => exact ⟨k + 1, by omega, by go_num, .inl rfl, rfl⟩
            case measure => simp only [intOf]; omega
        · have HB1 := Lib.hid hB1
          have HB2 := Lib.hid hB2
          clear hB1 hB2
          go_wp2_with fail
          go_roundw
          case rel => exact ⟨k + 1, by omega, by go_num, .inr ⟨B, rfl, hB, HB1.out, HB2.out⟩, rfl⟩
          case measure => simp only [intOf]; omega
      · rcases hcom with rfl | ⟨B, rfl, hB, hB1, hB2⟩
        · go_wp2_with fail
          refine wp_loop_rounds 1 ?_
          rw [rounds_succ]
          go_wp2_with fail
          go_ret
          exact ⟨rfl, HUE.out⟩
        · have HB1 := Lib.hid hB1
          have HB2 := Lib.hid hB2
          clear hB1 hB2
          go_wp2_with fail
          go_loopw [21] (fun i wr => AgRel2 B v4 i wr) (fun i _ => 601 - (intOf i).toNat)
          case atStart => exact ⟨B, Nat.le_refl _, by omega, rfl, rfl⟩
          case round =>
            obtain ⟨j, hj1, hj2, rfl, rfl⟩ := hrel
            by_cases hle : j ≤ a2.size
            · have hiff := HAG.out B j hj1 HB1.out HB2.out
              by_cases hx : a0.size + j ∈ lx
              · have dx : decide (a0.size + j ∈ lx) = true := by rw [decide_eq_true_iff]; exact hx
                have dy : decide (a1.size + j ∈ ly) = true := by rw [decide_eq_true_iff]; exact hiff.1 hx
                have DX := Lib.hid dx
                have DY := Lib.hid dy
                clear hx hiff dx dy
                go_wp2_with fail
                rw [show (a0.size : Int) + (j : Int) = ((a0.size + j : Nat) : Int) by omega]
                refine (contains_any _ _ lx (a0.size + j) _ hl1 HX4.out).mono ?_
                rintro e w5 ⟨rfl, rfl⟩
                rw [DX.out]
                go_wp2_with fail
                rw [show (a1.size : Int) + (j : Int) = ((a1.size + j : Nat) : Int) by omega]
                refine (contains_any _ _ ly (a1.size + j) _ hl2 HY.out).mono ?_
                rintro e w5 ⟨rfl, rfl⟩
                rw [DY.out]
                go_wp2_with fail
                go_roundw
                case rel => exact ⟨j + 1, by omega, by omega, by go_num, rfl⟩
                case measure => simp only [intOf]; omega
              · have dx : decide (a0.size + j ∈ lx) = false := by rw [decide_eq_false_iff_not]; exact hx
                have dy : decide (a1.size + j ∈ ly) = false := by rw [decide_eq_false_iff_not]; exact fun h => hx (hiff.2 h)
                have DX := Lib.hid dx
                have DY := Lib.hid dy
                clear hx hiff dx dy
                go_wp2_with fail
                rw [show (a0.size : Int) + (j : Int) = ((a0.size + j : Nat) : Int) by omega]
                refine (contains_any _ _ lx (a0.size + j) _ hl1 HX4.out).mono ?_
                rintro e w5 ⟨rfl, rfl⟩
                rw [DX.out]
                go_wp2_with fail
                rw [show (a1.size : Int) + (j : Int) = ((a1.size + j : Nat) : Int) by omega]
                refine (contains_any _ _ ly (a1.size + j) _ hl2 HY.out).mono ?_
                rintro e w5 ⟨rfl, rfl⟩
                rw [DY.out]
                go_wp2_with fail
                go_roundw
                case rel => exact ⟨j + 1, by omega, by omega, by go_num, rfl⟩
                case measure => simp only [intOf]; omega
            · have dle : decide ((j : Int) ≤ (a2.size : Int)) = false := by rw [decide_eq_false_iff_not]; omega
              have dle2 : decide (j ≤ a2.size) = false := by rw [decide_eq_false_iff_not]; omega
              go_wp2_with fail
              go_ret
              exact ⟨rfl, HUE.out⟩
  · by_cases hS : S.size ≤ 600
    · by_cases ha : 1 ≤ a3 ∧ a3 ≤ a4 ∧ a4 ≤ 600 ∧ 0 ≤ a5 ∧ a5 ≤ 65535
      · have hT : 600 < T.size := by omega
        obtain ⟨L, rfl⟩ := Int.eq_ofNat_of_zero_le (show 0 ≤ a3 by omega)
        obtain ⟨M, rfl⟩ := Int.eq_ofNat_of_zero_le (show 0 ≤ a4 by omega)
        obtain ⟨K, rfl⟩ := Int.eq_ofNat_of_zero_le (show 0 ≤ a5 by omega)
        refine (ends_ok _ L M K _ hS (by omega) (by omega) (by omega) (by omega)).mono ?_
        rintro e v3 ⟨vx, rfl, hx, u3⟩
        clear hok ha hx
        go_wp2_with fail
        refine (ends_long _ _ _ _ _ hT).mono ?_
        rintro e v4 ⟨rfl, rfl⟩
        go_wp2_with fail
        go_ret
        exact ⟨rfl, HU.out.trans u3⟩
      · refine (ends_arg _ _ _ _ _ hS ha).mono ?_
        rintro e v3 ⟨rfl, rfl⟩
        clear ha hok
        go_wp2_with fail
        refine (ends_any _ _ _ _ _).mono ?_
        rintro e v4 ⟨o4, n4, c4, E4, rfl, u4⟩
        go_wp2_with fail
        go_ret
        exact ⟨rfl, HU.out.trans u4⟩
    · refine (ends_long _ _ _ _ _ (by omega)).mono ?_
      rintro e v3 ⟨rfl, rfl⟩
      clear hok
      go_wp2_with fail
      refine (ends_any _ _ _ _ _).mono ?_
      rintro e v4 ⟨o4, n4, c4, E4, rfl, u4⟩
      go_wp2_with fail
      go_ret
      exact ⟨rfl, HU.out.trans u4⟩

end Go.Proofs.Ytidofplebkbbmaa
