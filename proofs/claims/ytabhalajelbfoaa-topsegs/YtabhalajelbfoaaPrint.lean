/-
  What the functions of package print return, at every argument: the error that the document lists first, else the fingerprint by the plain mathematics of polynomials. Conditions: the arguments are ints and strings.
-/
import Derived.Test.YtabhalajelbfoaaKeep
import Derived.Deep.RegionHeld3
namespace Go.Proofs.Ytabhalajelbfoaa
open Go.RowKit
open Go.Proofs

/-- a text as a polynomial: a 1, and its bits behind it -/
def sp (l : List UInt8) : Nat := l.foldl (fun p c => WoolMath.mul p 256 ^^^ c.toNat) 1

theorem sp_nil : sp [] = 1 := rfl
theorem sp_snoc (l : List UInt8) (c : UInt8) : sp (l ++ [c]) = WoolMath.mul (sp l) 256 ^^^ c.toNat := by
  unfold sp; rw [List.foldl_append]; rfl

/-- the fingerprint -/
def fp (M : Nat) (l : List UInt8) : Nat := WoolMath.pmod (sp l) M

theorem fp_nil (M : Nat) (h : 2 ≤ M) : fp M [] = 1 := by
  unfold fp
  rw [sp_nil]
  refine WoolMath.pmod_small _ _ (by omega) ?_
  have h1 : 1 ≤ M.log2 := (Nat.le_log2 (by omega)).2 h
  exact Nat.one_lt_two_pow (by omega)

theorem fp_snoc (M : Nat) (h : 2 ≤ M) (l : List UInt8) (c : UInt8) :
    fp M (l ++ [c]) = WoolMath.pmod (WoolMath.mul (fp M l) 256) M ^^^ WoolMath.pmod c.toNat M := by
  unfold fp
  rw [sp_snoc, WoolMath.pmod_xor _ _ _ (by omega), WoolMath.pmod_mul_left _ _ _ (by omega)]

theorem fp_lt (M : Nat) (h : 2 ≤ M) (l : List UInt8) : fp M l < 2 ^ M.log2 := WoolMath.pmod_lt _ _ (by omega)
theorem fp_le (M : Nat) (h : 2 ≤ M) (h2 : M ≤ 2147483647) (l : List UInt8) : fp M l < 1073741824 := pmod_le _ _ (by omega) h2

theorem mod_ok (m : Int) (w : World) (h0 : 2 ≤ m) (h1 : m ≤ 2147483647) :
    Calls Try.prog 63 #[.int .i64 m] w fun e w' => e = .returned (.int .i64 0) ∧ w = w' := by
  have d1 : decide (m < 2) = false := by rw [decide_eq_false_iff_not]; omega
  go_enter Try.func63, Try.ntmps63
  go_wp2_with (go_at_call 53; refine (check_ok _ _ (by omega) h1).mono ?_; rintro e w' ⟨rfl, rfl⟩)
  go_ret
  exact ⟨rfl, rfl⟩

theorem mod_bad (m : Int) (w : World) (h : m < 2 ∨ 2147483647 < m) :
    Calls Try.prog 63 #[.int .i64 m] w fun e w' => e = .returned (.int .i64 1) ∧ w = w' := by
  by_cases h0 : m < 2
  · have d1 : decide (m < 2) = true := by rw [decide_eq_true_iff]; omega
    clear h
    go_enter Try.func63, Try.ntmps63
    go_wp2
    go_ret
    exact ⟨rfl, rfl⟩
  · have d1 : decide (m < 2) = false := by rw [decide_eq_false_iff_not]; omega
    have hb : m < 0 ∨ 2147483647 < m := by omega
    have HB := Lib.hid hb
    clear h hb
    go_enter Try.func63, Try.ntmps63
    go_wp2_with (go_at_call 53; refine (check_bad _ _ HB.out).mono ?_; rintro e w' ⟨rfl, rfl⟩)
    go_ret
    exact ⟨rfl, rfl⟩

theorem times_any (A B M : Nat) (w : World) (hA : A ≤ 2147483647) (hB : B ≤ 2147483647) (hM0 : 0 < M) (hM : M ≤ 2147483647) :
    Calls Try.prog 64 #[.int .i64 (A : Int), .int .i64 (B : Int), .int .i64 (M : Int)] w fun e w' => e = .returned (.int .i64 (WoolMath.pmod (WoolMath.mul A B) M : Nat)) ∧ Up w w' := by
  generalize hR : WoolMath.pmod (WoolMath.mul A B) M = R
  have HR := Lib.hid hR
  clear hR
  go_enter Try.func64, Try.ntmps64
  go_wp2_with fail
  refine (modMulN A B M _ hA hB hM0 hM).mono ?_
  rintro e w1 ⟨rfl, u1⟩
  rw [HR.out]
  go_wp2_with fail
  go_ret
  exact ⟨rfl, u1⟩

theorem prem_any (A M : Nat) (w : World) (hA : A ≤ 2147483647) (hM0 : 0 < M) (hM : M ≤ 2147483647) :
    Calls Try.prog 65 #[.int .i64 (A : Int), .int .i64 (M : Int)] w fun e w' => e = .returned (.int .i64 (WoolMath.pmod A M : Nat)) ∧ Up w w' := by
  generalize hR : WoolMath.pmod A M = R
  have HR := Lib.hid hR
  clear hR
  go_enter Try.func65, Try.ntmps65
  go_wp2_with fail
  refine (divN A M _ hA hM0 hM).mono ?_
  rintro e w1 ⟨rfl, u1⟩
  rw [HR.out]
  generalize WoolMath.pdiv A M = Q at *
  go_wp2_with fail
  go_ret
  exact ⟨rfl, u1⟩

/-! ytabhalajelbfoaa# Of -/

def OfRel (M : Nat) (s : ByteArray) (w : World) (p i : Value) (wr : World) : Prop :=
  ∃ k : Nat, k ≤ s.size ∧ i = .int .i64 k ∧ p = .int .i64 (fp M (s.data.toList.take k) : Nat) ∧ Up w wr

set_option maxRecDepth 100000 in
set_option maxHeartbeats 400000 in
theorem of_ok (M : Nat) (s : ByteArray) (w : World) (h0 : 2 ≤ M) (h1 : M ≤ 2147483647) (hs : s.size ≤ 600) :
    Calls Try.prog 55 #[.int .i64 (M : Int), .string s] w fun e w' => e = .returned (.tuple #[.int .i64 (fp M s.data.toList : Nat), .int .i64 0]) ∧ Up w w' := by
  generalize hF : fp M s.data.toList = F
  have HF := Lib.hid hF
  clear hF
  go_enter Try.func55, Try.ntmps55
  go_wp2_with (go_at_call 63; refine (mod_ok _ _ (by omega) (by omega)).mono ?_; rintro e w' ⟨rfl, rfl⟩)
  go_loopw [7, 19] (fun p i wr => OfRel M s w p i wr) (fun _ i _ => s.size - (intOf i).toNat)
  case atStart => exact ⟨0, by omega, rfl, by rw [List.take_zero, fp_nil M h0]; rfl, Up.refl w⟩
  case round =>
    obtain ⟨k, hk, rfl, rfl, hu⟩ := hrel
    have hlt0 := fp_le M h0 h1 (s.data.toList.take k)
    by_cases hlt : k < s.size
    · have hsn := fp_snoc M h0 (s.data.toList.take k) s[k]
      rw [← take_snoc s k hlt] at hsn
      have hc : s[k].toNat < 256 := UInt8.toNat_lt _
      have hx := i64_xor_nat (WoolMath.pmod (WoolMath.mul (fp M (s.data.toList.take k)) 256) M) (WoolMath.pmod s[k].toNat M) (Nat.lt_trans (pmod_le _ _ (by omega) h1) (by decide)) (Nat.lt_trans (pmod_le _ _ (by omega) h1) (by decide))
      rw [← hsn] at hx
      generalize hP : fp M (s.data.toList.take k) = P at *
      generalize hQ : fp M (s.data.toList.take (k + 1)) = Q at *
      generalize hX : WoolMath.pmod (WoolMath.mul P 256) M = X at *
      generalize hY : WoolMath.pmod s[k].toNat M = Y at *
      have HU := Lib.hid hu
      have HQ := Lib.hid hQ
      have HX := Lib.hid hX
      have HY := Lib.hid hY
      have HXY := Lib.hid hx
      have HW := Lib.hid (wrap_i64_nat s[k].toNat (by omega))
      clear hu hQ hP hX hY hsn hx
      go_wp2_with fail
      go_region_held3 (fun _ => True) (trivial) (first
        | (go_at_call 64; refine (times_any P 256 M _ (by omega) (by omega) (by omega) (by omega)).mono ?_; rintro e w1 ⟨rfl, u1⟩; rw [HX.out])
        | (go_at_call 65; rw [HW.out]; refine (prem_any s[k].toNat M _ (by omega) (by omega) (by omega)).mono ?_; rintro e w2 ⟨rfl, u2⟩; rw [HY.out]))
      all_goals
        rw [HXY.out]
        go_wp2_with fail
        go_roundw
        case rel => exact ⟨k + 1, by omega, by go_num, by rw [HQ.out], ((HU.out.trans (Below.drew (Up.refl _))).trans u1).trans u2⟩
        case measure => simp only [intOf]; omega
    · obtain rfl : k = s.size := by omega
      have HT := Lib.hid (show s.data.toList.take s.size = s.data.toList from List.take_of_length_le (by simp))
      rw [HT.out]
      rw [HF.out] at *
      go_wp2_with fail
      go_ret2
      exact ⟨rfl, hu⟩

set_option maxRecDepth 100000 in
theorem of_long (M : Nat) (s : ByteArray) (w : World) (h0 : 2 ≤ M) (h1 : M ≤ 2147483647) (hs : 600 < s.size) :
    Calls Try.prog 55 #[.int .i64 (M : Int), .string s] w fun e w' => e = .returned (.tuple #[.int .i64 0, .int .i64 2]) ∧ w = w' := by
  go_enter Try.func55, Try.ntmps55
  go_wp2_with (go_at_call 63; refine (mod_ok _ _ (by omega) (by omega)).mono ?_; rintro e w' ⟨rfl, rfl⟩)
  go_ret2
  exact ⟨rfl, rfl⟩

set_option maxRecDepth 100000 in
theorem of_bad (m : Int) (s : ByteArray) (w : World) (h : m < 2 ∨ 2147483647 < m) :
    Calls Try.prog 55 #[.int .i64 m, .string s] w fun e w' => e = .returned (.tuple #[.int .i64 0, .int .i64 1]) ∧ w = w' := by
  have H := Lib.hid h
  clear h
  go_enter Try.func55, Try.ntmps55
  go_wp2_with (go_at_call 63; refine (mod_bad _ _ H.out).mono ?_; rintro e w' ⟨rfl, rfl⟩)
  go_ret2
  exact ⟨rfl, rfl⟩

/-- Of, whatever it answers -/
def OfPost (w : World) (e : Ending) (w' : World) : Prop := ∃ V E : Int, e = .returned (.tuple #[.int .i64 V, .int .i64 E]) ∧ Up w w'

theorem of_any (M : Nat) (s : ByteArray) (w : World) (h0 : 2 ≤ M) (h1 : M ≤ 2147483647) :
    Calls Try.prog 55 #[.int .i64 (M : Int), .string s] w (OfPost w) := by
  by_cases h : s.size ≤ 600
  · exact (of_ok M s w h0 h1 h).mono fun e w' ⟨he, hu⟩ => ⟨_, _, he, hu⟩
  · exact (of_long M s w h0 h1 (by omega)).mono fun e w' ⟨he, hu⟩ => ⟨_, _, he, Up.of_eq hu⟩

/-! ytabhalajelbfoaa# Join, Roll -/

/-- is a a rest by m? -/
def isRest (a : Int) (M : Nat) : Prop := 0 ≤ a ∧ a < ((2 ^ M.log2 : Nat) : Int)

theorem pow_log2_le (M : Nat) (h0 : M ≠ 0) (h : M ≤ 2147483647) : 2 ^ M.log2 ≤ 1073741824 := by
  have := (Nat.log2_lt h0).2 (show M < 2 ^ 31 by omega)
  exact Nat.pow_le_pow_right (n := 2) (by omega) (show M.log2 ≤ 30 by omega)

theorem rest_blen (A M : Nat) (h : 2 ≤ M) : A < 2 ^ M.log2 ↔ WoolMath.blen A < WoolMath.blen M := by
  rw [WoolMath.blen_pos M (by omega)]
  constructor
  · intro h1
    have := WoolMath.blen_le A _ h1
    omega
  · intro h1
    exact Nat.lt_of_lt_of_le (WoolMath.lt_blen A) (Nat.pow_le_pow_right (by omega) (by omega))

/-- what Join answers -/
def joinV (M A B N : Nat) : Nat := WoolMath.pmod (WoolMath.mul A (WoolMath.pmod (WoolMath.pw 256 N) M)) M ^^^ B ^^^ WoolMath.pmod (WoolMath.pw 256 N) M

theorem lt63 (a : Nat) (h : a < 1073741824) : a < 9223372036854775808 := by omega

end Go.Proofs.Ytabhalajelbfoaa
