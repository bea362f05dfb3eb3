/-
  What the reference's quick, Least, Prime, Next and Factors return; the law PrimeSays, walked: for every m the Go text returns true; nothing that was there turns. No condition.
-/
import Derived.Test.YtlplmiaebcgnmaaFacts
import Derived.Test.YtlplmiaebcgnmaaRef4
namespace Go.Proofs.Ytlplmiaebcgnmaa
open Go.RowKit
open Go.Proofs

set_option maxRecDepth 100000 in
theorem len_any (x : Int) (w : World) (h0 : 0 ≤ x) (h1 : x ≤ 2147483647) :
    Calls Try.prog 63 #[.int .u64 x] w fun e w' => e = .returned (.int .i64 (WoolMath.blen x.toNat)) ∧ w = w' := by
  go_enter Try.func63, Try.ntmps63
  go_wp2_with (go_at_call 64; refine (len64 _ _ h0 (by omega)).mono ?_; rintro e w' ⟨rfl, rfl⟩)
  go_ret
  exact ⟨rfl, rfl⟩

theorem lenN (x : Nat) (w : World) (h1 : x ≤ 2147483647) :
    Calls Try.prog 63 #[.int .u64 (x : Int)] w fun e w' => e = .returned (.int .i64 (WoolMath.blen x)) ∧ w = w' := by
  have := len_any (x : Int) w (by omega) (by omega)
  rwa [Int.toNat_natCast] at this

/-! ytlplmiaebcgnmaa# quick -/

def QuickRel (M F : Nat) (m : Value) : Prop :=
  ∃ R : Nat, R ≤ 2147483647 ∧ WoolMath.pmod R F = WoolMath.pmod M F ∧ m = .int .i64 R

theorem quick_turn (R F s : Nat) (hF : F ≠ 0) (hR : R ≤ 2147483647) (hs : s + WoolMath.blen F = WoolMath.blen R) :
    R ^^^ (F <<< s) ≤ 2147483647 ∧ WoolMath.blen (R ^^^ (F <<< s)) < WoolMath.blen R ∧ WoolMath.pmod (R ^^^ (F <<< s)) F = WoolMath.pmod R F ∧ F <<< s ≤ 2147483647 := by
  have e : s = WoolMath.blen R - WoolMath.blen F := by omega
  obtain ⟨t1, t2⟩ := WoolMath.turn_blen R F hF (by omega)
  rw [← e] at t1 t2
  have hb := WoolMath.blen_le R 31 (by omega)
  have h31 : R ^^^ (F <<< s) < 2 ^ 31 := Nat.lt_of_lt_of_le t2 (Nat.pow_le_pow_right (by omega) hb)
  have hsh : F <<< s < 2 ^ 31 := by
    have := Nat.xor_lt_two_pow (show R < 2 ^ 31 by omega) h31
    rwa [WoolMath.xor_cancel_left] at this
  refine ⟨by omega, t1, ?_, by omega⟩
  rw [WoolMath.mul_shift, WoolMath.mul_comm, WoolMath.pmod_add_mul _ _ _ hF]

set_option maxRecDepth 100000 in
set_option maxHeartbeats 400000 in
theorem quick_any (F M : Nat) (w : World) (hF0 : F ≠ 0) (hF : F ≤ 2147483647) (hM : M ≤ 2147483647) :
    Calls Try.prog 65 #[.int .i64 (F : Int), .int .i64 (M : Int)] w fun e w' => e = .returned (.bool ((WoolMath.pmod M F : Int) == 0)) ∧ w = w' := by
  have HF := Lib.hid hF0
  have hbF := WoolMath.blen_le F 31 (by omega)
  have hbF0 : 1 ≤ WoolMath.blen F := by rw [WoolMath.blen_pos F hF0]; omega
  clear hF0
  go_enter Try.func65, Try.ntmps65
  go_wp2_with fail
  refine (lenN F _ hF).mono ?_
  rintro e w' ⟨rfl, rfl⟩
  go_wp2_with fail
  go_loop [1] (fun m => QuickRel M F m) (fun m => WoolMath.blen (intOf m).toNat)
  case atStart => exact ⟨M, hM, rfl, rfl⟩
  case round =>
    obtain ⟨R, hR, hmod, rfl⟩ := hrel
    have HMOD := Lib.hid hmod
    clear hmod
    have hbR := WoolMath.blen_le R 31 (by omega)
    by_cases hlt : WoolMath.blen R < WoolMath.blen F
    · have hsm := WoolMath.pmod_small R F HF.out (WoolMath.lt_of_blen R F HF.out hlt)
      have fin : Ending.returned (.bool ((R : Int) == 0)) = .returned (.bool ((WoolMath.pmod M F : Int) == 0)) := by rw [← HMOD.out, hsm]
      have FIN := Lib.hid fin
      clear hsm fin
      go_wp2_with (go_at_call 63; refine (lenN R _ hR).mono ?_; rintro e w' ⟨rfl, rfl⟩)
      go_ret
      exact ⟨FIN.out, rfl⟩
    · obtain ⟨s, hs⟩ : ∃ s : Nat, s + WoolMath.blen F = WoolMath.blen R := ⟨WoolMath.blen R - WoolMath.blen F, by omega⟩
      obtain ⟨t1, t2, t3, t4⟩ := quick_turn R F s HF.out hR hs
      have es : (WoolMath.blen R : Int) - WoolMath.blen F = (s : Int) := by omega
      have d1 : decide (WoolMath.blen R < WoolMath.blen F) = false := by rw [decide_eq_false_iff_not]; omega
      have hw1 : wrap64 ((F : Int) * 2 ^ s) = ((F <<< s : Nat) : Int) := by
        rw [pow_cast, ← Int.natCast_mul, ← Nat.shiftLeft_eq]
        generalize F <<< s = z at *
        unfold wrap64
        omega
      have hx : bits .xor .i64 (R : Int) (wrap64 ((F : Int) * 2 ^ s)) = ((R ^^^ (F <<< s) : Nat) : Int) := by
        rw [hw1]; exact i64_xor_nat _ _ (Nat.lt_of_le_of_lt hR (by decide)) (Nat.lt_of_le_of_lt t4 (by decide))
      have T3 := Lib.hid (t3.trans HMOD.out)
      have HS := Lib.hid hs
      generalize R ^^^ (F <<< s) = X at *
      clear t3 hw1 hs
      have hs31 : s ≤ 31 := by have := HS.out; omega
      go_wp2_with (go_at_call 63; refine (lenN R _ hR).mono ?_; rintro e w' ⟨rfl, rfl⟩)
      go_round
      case rel => exact ⟨X, t1, T3.out, rfl⟩
      case measure => simp only [intOf, Int.toNat_natCast]; exact t2

/-! ytlplmiaebcgnmaa# Least -/

def RLeastRel (m : Nat) (d : Value) : Prop :=
  ∃ D : Nat, 2 ≤ D ∧ D ≤ 65536 ∧ (∀ e, 2 ≤ e → e < D → ¬ WoolMath.dvd e m) ∧ d = .int .i64 D

def RLeastPost (m : Nat) (w : World) (e : Ending) (w' : World) : Prop :=
  ∃ f : Nat, WoolMath.IsLeast f m ∧ f ≤ m ∧ e = .returned (.int .i64 (f : Int)) ∧ w = w'

theorem half_bits (D M : Nat) (hD : 2 ≤ D) (hM : 2 ≤ M) : 2 * WoolMath.blen D ≤ WoolMath.blen M + 1 ↔ D < 2 ^ (M.log2 / 2 + 1) := by
  rw [WoolMath.blen_pos D (by omega), WoolMath.blen_pos M (by omega)]
  constructor
  · intro h
    exact Nat.lt_of_lt_of_le (WoolMath.lt_log2 D) (Nat.pow_le_pow_right (by omega) (by omega))
  · intro h
    have := (Nat.log2_lt (show D ≠ 0 by omega)).2 h
    omega

set_option maxRecDepth 100000 in
set_option maxHeartbeats 400000 in
theorem least_any (M : Nat) (w : World) (h1 : 2 ≤ M) (h2 : M ≤ 2147483647) :
    Calls Try.prog 59 #[.int .i64 (M : Int)] w (RLeastPost M w) := by
  have hbM := WoolMath.blen_le M 31 (by omega)
  have hs := WoolMath.least_self (m := M) h1
  have HS := Lib.hid hs
  clear hs
  have hl : M.log2 ≤ 30 := log2_le30 M (by omega) h2
  have hp : 2 ^ (M.log2 / 2 + 1) ≤ 65536 := Nat.pow_le_pow_right (n := 2) (j := 16) (by omega) (by omega)
  have HP := Lib.hid hp
  clear hp
  go_enter Try.func59, Try.ntmps59
  go_wp2_with fail
  go_loop [3] (fun d => RLeastRel M d) (fun d => 65536 - (intOf d).toNat)
  case atStart => exact ⟨2, by omega, by omega, fun e e1 e2 => by omega, rfl⟩
  case round =>
    obtain ⟨D, hD1, hD2, hno, rfl⟩ := hrel
    have HNO := Lib.hid hno
    clear hno
    have hbD := WoolMath.blen_le D 31 (by omega)
    have hiff := half_bits D M hD1 h1
    by_cases hlt : D < 2 ^ (M.log2 / 2 + 1)
    · have hle := hiff.2 hlt
      have hD3 : D < 65536 := Nat.lt_of_lt_of_le hlt HP.out
      have d1 : decide (2 * (WoolMath.blen D : Int) ≤ (WoolMath.blen M : Int) + 1) = true := by rw [decide_eq_true_iff]; omega
      clear hiff hlt
      by_cases hr : WoolMath.pmod M D = 0
      · have hls : WoolMath.IsLeast D M := ⟨by omega, (WoolMath.dvd_iff _ _ (by omega)).2 hr, HNO.out⟩
        have HLS := Lib.hid hls
        have hle := WoolMath.dvd_le_num hls.2.1 (by omega)
        have z : ((WoolMath.pmod M D : Int) == 0) = true := by rw [beq_iff_eq, hr]; rfl
        have HZ := Lib.hid z
        clear hr hls z
        go_wp2_with fail
        refine (lenN D _ (by omega)).mono ?_
        rintro e w' ⟨rfl, rfl⟩
        go_wp2_with fail
        refine (lenN M _ h2).mono ?_
        rintro e w' ⟨rfl, rfl⟩
        go_wp2_with fail
        refine (quick_any D M _ (by omega) (by omega) h2).mono ?_
        rintro e w' ⟨rfl, rfl⟩
        rw [HZ.out]
        go_wp2_with fail
        go_ret
        exact ⟨D, HLS.out, hle, rfl, rfl⟩
      · have hz : ((WoolMath.pmod M D : Int) == 0) = false := by rw [beq_eq_false_iff_ne]; omega
        have hnext : ∀ e, 2 ≤ e → e < D + 1 → ¬ WoolMath.dvd e M := by
          intro e e1 e2 e3
          by_cases he : e = D
          · subst he; exact hr ((WoolMath.dvd_iff _ _ (by omega)).1 e3)
          · exact HNO.out e e1 (by omega) e3
        have HN := Lib.hid hnext
        have HZ := Lib.hid hz
        clear hr hnext hz
        go_wp2_with fail
        refine (lenN D _ (by omega)).mono ?_
        rintro e w' ⟨rfl, rfl⟩
        go_wp2_with fail
        refine (lenN M _ h2).mono ?_
        rintro e w' ⟨rfl, rfl⟩
        go_wp2_with fail
        refine (quick_any D M _ (by omega) (by omega) h2).mono ?_
        rintro e w' ⟨rfl, rfl⟩
        rw [HZ.out]
        go_wp2_with fail
        go_round
        case rel => exact ⟨D + 1, by omega, by omega, HN.out, by go_num⟩
        case measure => simp [intOf]; omega
    · have hls := HS.out (fun d d1 d2 => HNO.out d d1 (by omega))
      have HLS := Lib.hid hls
      have hle : ¬ 2 * WoolMath.blen D ≤ WoolMath.blen M + 1 := fun h => hlt (hiff.1 h)
      have d1 : decide (2 * (WoolMath.blen D : Int) ≤ (WoolMath.blen M : Int) + 1) = false := by rw [decide_eq_false_iff_not]; omega
      clear hls hle hlt hiff
      go_wp2_with fail
      refine (lenN D _ (by omega)).mono ?_
      rintro e w' ⟨rfl, rfl⟩
      go_wp2_with fail
      refine (lenN M _ h2).mono ?_
      rintro e w' ⟨rfl, rfl⟩
      go_wp2_with fail
      go_ret
      exact ⟨M, HLS.out, Nat.le_refl _, rfl, rfl⟩

/-! ytlplmiaebcgnmaa# Prime, Next -/

set_option maxRecDepth 100000 in
theorem refPrime_yes (M : Nat) (w : World) (h2 : M ≤ 2147483647) (hp : WoolMath.Prime M) :
    Calls Try.prog 38 #[.int .i64 (M : Int)] w fun e w' => e = .returned (.bool true) ∧ w = w' := by
  have h1 := hp.1
  have HP := Lib.hid hp
  clear hp
  have d1 : decide ((2 : Int) ≤ (M : Int)) = true := by rw [decide_eq_true_iff]; omega
  go_enter Try.func38, Try.ntmps38
  go_wp2_with fail
  refine (least_any M _ h1 h2).mono ?_
  rintro e w' ⟨f, hf, hfl, rfl, rfl⟩
  rw [(WoolMath.least_iff hf).2 HP.out]
  clear hf hfl f
  go_wp2_with fail
  go_ret
  exact ⟨rfl, rfl⟩

set_option maxRecDepth 100000 in
theorem refPrime_no (M : Nat) (w : World) (h2 : M ≤ 2147483647) (hp : ¬ WoolMath.Prime M) :
    Calls Try.prog 38 #[.int .i64 (M : Int)] w fun e w' => e = .returned (.bool false) ∧ w = w' := by
  have HP := Lib.hid hp
  clear hp
  by_cases h1 : 2 ≤ M
  · have d1 : decide ((2 : Int) ≤ (M : Int)) = true := by rw [decide_eq_true_iff]; omega
    go_enter Try.func38, Try.ntmps38
    go_wp2_with fail
    refine (least_any M _ h1 h2).mono ?_
    rintro e w' ⟨f, hf, hfl, rfl, rfl⟩
    have hne : ((f : Int) == (M : Int)) = false := by
      rw [beq_eq_false_iff_ne]
      intro h
      exact HP.out ((WoolMath.least_iff hf).1 (by omega))
    clear hf
    go_wp2_with fail
    go_ret
    exact ⟨rfl, rfl⟩
  · have d1 : decide ((2 : Int) ≤ (M : Int)) = false := by rw [decide_eq_false_iff_not]; omega
    go_enter Try.func38, Try.ntmps38
    go_wp2_with fail
    go_ret
    exact ⟨rfl, rfl⟩

set_option maxRecDepth 100000 in
set_option maxHeartbeats 400000 in
theorem refNext_ok (M P : Nat) (w : World) (hP : WoolMath.IsNext P M) (hP2 : P ≤ 2147483647) :
    Calls Try.prog 39 #[.int .i64 (M : Int)] w fun e w' => e = .returned (.int .i64 (P : Int)) ∧ w = w' := by
  have hle := hP.2.1
  have HP := Lib.hid hP
  clear hP
  go_enter Try.func39, Try.ntmps39
  go_wp2_with fail
  go_loop [0] (fun d => ∃ D : Nat, M ≤ D ∧ D ≤ P ∧ d = .int .i64 D) (fun d => P - (intOf d).toNat)
  case atStart => exact ⟨M, Nat.le_refl _, hle, rfl⟩
  case round =>
    obtain ⟨D, hD1, hD2, rfl⟩ := hrel
    have dd : decide ((D : Int) ≤ 2147483647) = true := by rw [decide_eq_true_iff]; omega
    by_cases he : D = P
    · subst he
      go_wp2_with (go_at_call 38; refine (refPrime_yes D _ (by omega) HP.out.1).mono ?_; rintro e w' ⟨rfl, rfl⟩)
      go_ret
      exact ⟨rfl, rfl⟩
    · have hnp := HP.out.2.2 D hD1 (by omega)
      have HNP := Lib.hid hnp
      have hlt : D < P := by omega
      clear hnp he
      go_wp2_with (go_at_call 38; refine (refPrime_no D _ (by omega) HNP.out).mono ?_; rintro e w' ⟨rfl, rfl⟩)
      go_round
      case rel => exact ⟨D + 1, by omega, by omega, by go_num⟩
      case measure => simp [intOf]; omega

set_option maxRecDepth 100000 in
set_option maxHeartbeats 400000 in
theorem refNext_none (M : Nat) (w : World) (hM : M ≤ 2147483647) (hno : ∀ q, M ≤ q → q ≤ 2147483647 → ¬ WoolMath.Prime q) :
    Calls Try.prog 39 #[.int .i64 (M : Int)] w fun e w' => e = .returned (.int .i64 0) ∧ w = w' := by
  have HN := Lib.hid hno
  clear hno
  go_enter Try.func39, Try.ntmps39
  go_wp2_with fail
  go_loop [0] (fun d => ∃ D : Nat, M ≤ D ∧ D ≤ 2147483648 ∧ d = .int .i64 D) (fun d => 2147483648 - (intOf d).toNat)
  case atStart => exact ⟨M, Nat.le_refl _, by omega, rfl⟩
  case round =>
    obtain ⟨D, hD1, hD2, rfl⟩ := hrel
    by_cases hlt : D ≤ 2147483647
    · have dd : decide ((D : Int) ≤ 2147483647) = true := by rw [decide_eq_true_iff]; omega
      have hnp := HN.out D hD1 hlt
      have HNP := Lib.hid hnp
      clear hnp
      go_wp2_with (go_at_call 38; refine (refPrime_no D _ (by omega) HNP.out).mono ?_; rintro e w' ⟨rfl, rfl⟩)
      go_round
      case rel => exact ⟨D + 1, by omega, by omega, by go_num⟩
      case measure => simp [intOf]; omega
    · have dd : decide ((D : Int) ≤ 2147483647) = false := by rw [decide_eq_false_iff_not]; omega
      go_wp2_with fail
      go_ret
      exact ⟨rfl, rfl⟩

/-! ytlplmiaebcgnmaa# Factors -/

def RFacRel (M : Nat) (w : World) (m fs : Value) (wr : World) : Prop :=
  ∃ (R F : Nat) (l : List Nat), FacInv M R F l ∧ m = .int .i64 R ∧ Ints wr w.heap.size fs l ∧ Up w wr

def RFacPost (M : Nat) (w : World) (e : Ending) (w' : World) : Prop :=
  ∃ (v : Value) (l : List Nat), WoolMath.IsFactors l M ∧ l.length ≤ 30 ∧ e = .returned v ∧ Ints w' w.heap.size v l ∧ Up w w'

set_option maxRecDepth 100000 in
set_option maxHeartbeats 400000 in
theorem refFactors_any (M : Nat) (w : World) (h1 : 1 ≤ M) (h2 : M ≤ 2147483647) :
    Calls Try.prog 41 #[.int .i64 (M : Int)] w (RFacPost M w) := by
  obtain ⟨i0, hi, hz0, hz1, hz2⟩ := info_parts intInfo
  have HI := Lib.hid hi
  have HZ0 := Lib.hid hz0
  have HZ1 := Lib.hid hz1
  have HZ2 := Lib.hid hz2
  have hM30 := log2_le30 M (by omega) h2
  clear hi hz0 hz1 hz2
  go_enter Try.func41, Try.ntmps41
  go_wp2_with fail
  go_loopw [0, 3] (fun m fs wr => RFacRel M w m fs wr) (fun m _ _ => (intOf m).toNat)
  case atStart => exact ⟨M, 2, [], facInv_start M h1 h2, rfl, Ints.nil _ _, Up.refl w⟩
  case round =>
    obtain ⟨R, F, l, hinv, rfl, hints, hu⟩ := hrel
    have hb1 := hinv.1
    have hb2 := hinv.2.1
    have hlen := hinv.2.2.2.2.2.2.2.2.2
    have hl30 : l.length ≤ 30 := by omega
    have HINV := Lib.hid hinv
    have HINTS := Lib.hid hints
    have HU := Lib.hid hu
    clear hinv hints hu hlen
    by_cases hR : 2 ≤ R
    · have d1 : decide ((1 : Int) < (R : Int)) = true := by rw [decide_eq_true_iff]; omega
      go_wp2_with fail
      refine (least_any R _ hR hb2).mono ?_
      rintro e w' ⟨f, hf, hfR, rfl, rfl⟩
      obtain ⟨n1, n2, n3, n4, n5⟩ := facInv_next M R F f l hR HINV.out hf
      have hf2 := hf.1
      have HN := Lib.hid n3
      have hs1 := HU.out.size
      clear hf n3
      go_wp2_with (at_builtin; refine wpList_append_own _ rfl _ _ 43 rfl w.heap.size 3 i0 (.int .i64 0) 1 8 Try.underlying43 HI.out HZ0.out HZ1.out HZ2.out rfl (by decide) _ _ _ rfl (World.ownsRow.alloc HINTS.out _) ⟨wr.heap.size, 0, none⟩ 1 1 [.int .i64 (f : Int)] rfl rfl (cell_one_new _ _ _) (one_mem' _ rfl) (by unfold maxLen; omega) (by omega) (by simp; omega) ?_)
      intro v' w2 hown' hgrow _
      have hB : Ints w2 w.heap.size v' (l ++ [f]) := by
        unfold Ints
        rw [intL_snoc, List.length_append]
        exact hown'
      have hUp : Up w w2 := grown_up' (HU.out.trans (Up.alloc _ _)) (World.ownsRow.alloc HINTS.out _) hgrow
      have HBB := Lib.hid hB
      have HUP := Lib.hid hUp
      clear hown' hgrow hB hUp
      have hbR := WoolMath.blen_le R 31 (by omega)
      have hbf := WoolMath.blen_le f 31 (by omega)
      go_wp2_with fail
      refine (coef_any _ _ (by omega)).mono ?_
      rintro e w3 ⟨vx, rfl, hbx, u3⟩
      rw [Int.toNat_natCast] at hbx
      have HBX := Lib.hid hbx
      clear hbx
      go_wp2_with fail
      refine (coef_any _ _ (by omega)).mono ?_
      rintro e w4 ⟨vy, rfl, hby, u4⟩
      rw [Int.toNat_natCast] at hby
      have HBX2 := Lib.hid ((HBX.out.up u4).weak (Nat.zero_le _))
      have HBY := Lib.hid (hby.weak (Nat.zero_le _))
      clear hby HBX
      go_wp2_with fail
      refine (left_any _ _ R f _ _ (by omega) (WoolMath.lt_blen R) (by omega) (by omega) HBX2.out HBY.out).mono ?_
      rintro e w5 ⟨uq, ur, rfl, hbq, _, u5⟩
      have HBQ := Lib.hid hbq
      have HV := Lib.hid ((u3.trans u4).trans u5)
      clear hbq u3 u4 u5
      go_wp2_with fail
      refine (num_any _ _ _ _ _ ?_ (WoolMath.lt_blen _) HBQ.out).mono ?_
      · exact Nat.le_trans (WoolMath.blen_le _ 31 (by omega)) (by omega)
      rintro e w' ⟨rfl, rfl⟩
      go_wp2_with fail
      go_roundw
      case rel => exact ⟨_, f, l ++ [f], HN.out, rfl, HBB.out.up HV.out, HUP.out.trans HV.out⟩
      case measure => simp only [intOf]; omega
    · have hR1 : R = 1 := by omega
      subst hR1
      have HE := Lib.hid (facInv_end M F l HINV.out)
      go_wp2_with fail
      go_ret
      exact ⟨_, l, HE.out, hl30, rfl, HINTS.out, HU.out⟩

end Go.Proofs.Ytlplmiaebcgnmaa
