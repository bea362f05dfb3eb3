/-
  What the functions of package poly return, at every argument: the error of Check for the first argument that is no polynomial, else what the plain mathematics says. Conditions: the arguments are ints.
-/
import Derived.Test.YtabhalajelbfoaaArith
import Derived.Below
import Derived.Test.YtabhalajelbfoaaUp
namespace Go.Proofs.Ytabhalajelbfoaa
open Go.RowKit
open Go.Proofs

/-- is a number a polynomial? -/
def okP (a : Int) : Prop := 0 ≤ a ∧ a ≤ 2147483647

theorem check_ok (a : Int) (w : World) (h0 : 0 ≤ a) (h1 : a ≤ 2147483647) :
    Calls Try.prog 53 #[.int .i64 a] w fun e w' => e = .returned (.int .i64 0) ∧ w = w' := by
  have d1 : decide (a < 0) = false := by rw [decide_eq_false_iff_not]; omega
  have d2 : decide (2147483647 < a) = false := by rw [decide_eq_false_iff_not]; omega
  go_enter Try.func53, Try.ntmps53
  go_wp2
  go_ret
  exact ⟨rfl, rfl⟩

theorem check_bad (a : Int) (w : World) (h : a < 0 ∨ 2147483647 < a) :
    Calls Try.prog 53 #[.int .i64 a] w fun e w' => e = .returned (.int .i64 1) ∧ w = w' := by
  by_cases h0 : a < 0
  · have d1 : decide (a < 0) = true := by rw [decide_eq_true_iff]; omega
    go_enter Try.func53, Try.ntmps53
    go_wp2
    go_ret
    exact ⟨rfl, rfl⟩
  · have d1 : decide (a < 0) = false := by rw [decide_eq_false_iff_not]; omega
    have d2 : decide (2147483647 < a) = true := by rw [decide_eq_true_iff]; omega
    go_enter Try.func53, Try.ntmps53
    go_wp2
    go_ret
    exact ⟨rfl, rfl⟩

/-- a row of numbers in memory, from a block's first cell -/
def Row (w : World) (b : Nat) (zs : List Int) : Prop := ∀ i, i < zs.length → w.cell? ⟨b, i, none⟩ = some (.int .i64 (zs[i]?.getD 0))

/-- each of them is a polynomial -/
def AllP (zs : List Int) : Prop := ∀ j, j < zs.length → 0 ≤ zs[j]?.getD 0 ∧ zs[j]?.getD 0 ≤ 2147483647

def ChkRel (zs : List Int) (i : Value) : Prop := ∃ k : Nat, k ≤ zs.length ∧ i = .int .i64 k ∧ ∀ j, j < k → 0 ≤ zs[j]?.getD 0 ∧ zs[j]?.getD 0 ≤ 2147483647

set_option maxRecDepth 100000 in
theorem checkAll_ok (zs : List Int) (b : Nat) (n : Nat) (w : World) (hn : n ≤ 1000) (hL : zs.length = n) (hr : Row w b zs) (hall : AllP zs) :
    Calls Try.prog 35 #[.slice (some ⟨b, 0, none⟩) n n] w fun e w' => e = .returned (.int .i64 0) ∧ w = w' := by
  have HR := Lib.hid hr
  have HA := Lib.hid hall
  have HL := Lib.hid hL
  clear hr hall hL
  go_enter Try.func35, Try.ntmps35
  go_wp2
  go_loop [8] (fun i => ∃ k : Nat, k ≤ n ∧ i = .int .i64 k) (fun i => n - (intOf i).toNat)
  case atStart => exact ⟨0, by omega, rfl⟩
  case round =>
    obtain ⟨k, hk, rfl⟩ := hrel
    by_cases hlt : k < n
    · have hc := HR.out k (by rw [HL.out]; exact hlt)
      have ha := HA.out k (by rw [HL.out]; exact hlt)
      obtain ⟨ha0, ha1⟩ := ha
      generalize zs[k]?.getD 0 = z at *
      go_wp2_with (go_at_call 53; refine (check_ok _ _ ha0 ha1).mono ?_; rintro e w' ⟨rfl, rfl⟩)
      go_round
      case rel => exact ⟨k + 1, by omega, by go_num⟩
      case measure => simp [intOf]; omega
    · have d : decide (k < n) = false := by rw [decide_eq_false_iff_not]; omega
      go_wp2
      go_ret
      exact ⟨rfl, rfl⟩

set_option maxRecDepth 100000 in
theorem checkAll_bad (zs : List Int) (b : Nat) (n : Nat) (w : World) (hn : n ≤ 1000) (hL : zs.length = n) (hr : Row w b zs) (hall : ¬ AllP zs) :
    Calls Try.prog 35 #[.slice (some ⟨b, 0, none⟩) n n] w fun e w' => e = .returned (.int .i64 1) ∧ w = w' := by
  have HR := Lib.hid hr
  have HA := Lib.hid hall
  have HL := Lib.hid hL
  clear hr hall hL
  go_enter Try.func35, Try.ntmps35
  go_wp2
  go_loop [8] (fun i => ChkRel zs i) (fun i => n - (intOf i).toNat)
  case atStart => exact ⟨0, by omega, rfl, fun j hj => by omega⟩
  case round =>
    obtain ⟨k, hk, rfl, hj⟩ := hrel
    rw [HL.out] at hk
    have HJ := Lib.hid hj
    clear hj
    by_cases hlt : k < n
    · have hc := HR.out k (by rw [HL.out]; exact hlt)
      by_cases hb : 0 ≤ zs[k]?.getD 0 ∧ zs[k]?.getD 0 ≤ 2147483647
      · have hnext : ChkRel zs (.int .i64 ((k + 1 : Nat) : Int)) := ⟨k + 1, by rw [HL.out]; omega, rfl, fun j hj => by
          by_cases e : j = k
          · subst e; exact hb
          · exact HJ.out j (by omega)⟩
        have HN := Lib.hid hnext
        obtain ⟨ha0, ha1⟩ := hb
        clear hnext
        generalize zs[k]?.getD 0 = z at *
        go_wp2_with (go_at_call 53; refine (check_ok _ _ ha0 ha1).mono ?_; rintro e w' ⟨rfl, rfl⟩)
        go_round
        case rel => exact HN.out
        case measure => simp [intOf]; omega
      · have hb' : zs[k]?.getD 0 < 0 ∨ 2147483647 < zs[k]?.getD 0 := by omega
        have HB := Lib.hid hb'
        clear hb hb'
        generalize zs[k]?.getD 0 = z at *
        go_wp2_with (go_at_call 53; refine (check_bad _ _ HB.out).mono ?_; rintro e w' ⟨rfl, rfl⟩)
        go_ret
        exact ⟨rfl, rfl⟩
    · exfalso
      have : k = n := by omega
      subst this
      exact HA.out (fun j hj => HJ.out j (by rw [← HL.out]; exact hj))

/-! ytabhalajelbfoaa# Deg, Add, Mul -/

theorem conv_u64 (a : Int) (h0 : 0 ≤ a) (h1 : a ≤ 2147483647) : IntKind.u64.wrap a = a := by rw [IntKind.wrap_u64]; omega

theorem row2 (w : World) (a b : Int) (t : TypeId) : Row (w.alloc (.cells #[.int .i64 a, .int .i64 b] t)) w.heap.size [a, b] := by
  intro i hi
  simp at hi
  match i, hi with
  | 0, _ => go_simp
  | 1, _ => go_simp

theorem ofInt64 (a : Nat) (ha : a < 9223372036854775808) : (BitVec.ofInt 64 (a : Int)).toNat = a := by
  rw [BitVec.ofInt_natCast, BitVec.toNat_ofNat]; exact Nat.mod_eq_of_lt (by omega)

theorem wrap_i64_nat (n : Nat) (h : n < 9223372036854775808) : IntKind.i64.wrap (n : Int) = n := by
  simp only [IntKind.wrap, IntKind.bits, IntKind.signed]
  simp
  omega

theorem i64_xor_nat (a b : Nat) (ha : a < 9223372036854775808) (hb : b < 9223372036854775808) : bits .xor .i64 (a : Int) (b : Int) = ((a ^^^ b : Nat) : Int) := by
  have hx : a ^^^ b < 2 ^ 63 := Nat.xor_lt_two_pow (by omega) (by omega)
  show IntKind.i64.wrap ((BitVec.ofInt 64 (a : Int) ^^^ BitVec.ofInt 64 (b : Int)).toNat : Int) = _
  rw [BitVec.toNat_xor, ofInt64 a ha, ofInt64 b hb]
  exact wrap_i64_nat _ hx

theorem i64_and_nat (a b : Nat) (ha : a < 9223372036854775808) (hb : b < 9223372036854775808) : bits .and .i64 (a : Int) (b : Int) = ((a &&& b : Nat) : Int) := by
  have hx : a &&& b < 2 ^ 63 := Nat.and_lt_two_pow _ (by omega)
  show IntKind.i64.wrap ((BitVec.ofInt 64 (a : Int) &&& BitVec.ofInt 64 (b : Int)).toNat : Int) = _
  rw [BitVec.toNat_and, ofInt64 a ha, ofInt64 b hb]
  exact wrap_i64_nat _ hx

theorem i64_xor_int (a b : Int) (h0 : 0 ≤ a) (h1 : a ≤ 2147483647) (h2 : 0 ≤ b) (h3 : b ≤ 2147483647) : bits .xor .i64 a b = ((a.toNat ^^^ b.toNat : Nat) : Int) := by
  have := i64_xor_nat a.toNat b.toNat (by omega) (by omega)
  rwa [Int.toNat_of_nonneg h0, Int.toNat_of_nonneg h2] at this

theorem all2 (a b : Int) (h0 : 0 ≤ a) (h1 : a ≤ 2147483647) (h2 : 0 ≤ b) (h3 : b ≤ 2147483647) : AllP [a, b] := by
  intro j hj
  simp at hj
  match j, hj with
  | 0, _ => exact ⟨h0, h1⟩
  | 1, _ => exact ⟨h2, h3⟩

theorem bad2 (a b : Int) (h : a < 0 ∨ 2147483647 < a ∨ b < 0 ∨ 2147483647 < b) : ¬ AllP [a, b] := by
  intro hall
  have x0 : 0 ≤ a ∧ a ≤ 2147483647 := hall 0 (by simp)
  have x1 : 0 ≤ b ∧ b ≤ 2147483647 := hall 1 (by simp)
  omega

theorem row3 (w : World) (a b c : Int) (t : TypeId) : Row (w.alloc (.cells #[.int .i64 a, .int .i64 b, .int .i64 c] t)) w.heap.size [a, b, c] := by
  intro i hi
  simp at hi
  match i, hi with
  | 0, _ => go_simp
  | 1, _ => go_simp
  | 2, _ => go_simp

theorem all3 (a b c : Int) (h0 : 0 ≤ a) (h1 : a ≤ 2147483647) (h2 : 0 ≤ b) (h3 : b ≤ 2147483647) (h4 : 0 ≤ c) (h5 : c ≤ 2147483647) : AllP [a, b, c] := by
  intro j hj
  simp at hj
  match j, hj with
  | 0, _ => exact ⟨h0, h1⟩
  | 1, _ => exact ⟨h2, h3⟩
  | 2, _ => exact ⟨h4, h5⟩

theorem bad3 (a b c : Int) (h : a < 0 ∨ 2147483647 < a ∨ b < 0 ∨ 2147483647 < b ∨ c < 0 ∨ 2147483647 < c) : ¬ AllP [a, b, c] := by
  intro hall
  have x0 : 0 ≤ a ∧ a ≤ 2147483647 := hall 0 (by simp)
  have x1 : 0 ≤ b ∧ b ≤ 2147483647 := hall 1 (by simp)
  have x2 : 0 ≤ c ∧ c ≤ 2147483647 := hall 2 (by simp)
  omega

/-- the product fits -/
theorem mul_fits (a b : Nat) (ha : a ≤ 2147483647) (hb : b ≤ 2147483647) : WoolMath.mul a b < 2305843009213693952 :=
  WoolMath.mul_lt a b 31 30 (by omega) (by omega)

set_option maxRecDepth 100000 in
theorem mul_ok (a b : Int) (w : World) (h0 : 0 ≤ a) (h1 : a ≤ 2147483647) (h2 : 0 ≤ b) (h3 : b ≤ 2147483647) (hf : WoolMath.mul a.toNat b.toNat ≤ 2147483647) :
    Calls Try.prog 15 #[.int .i64 a, .int .i64 b] w fun e w' => e = .returned (.tuple #[.int .i64 (WoolMath.mul a.toNat b.toNat), .int .i64 0]) ∧ Up w w' := by
  have hbl := WoolMath.blen_le _ 31 (show WoolMath.mul a.toNat b.toNat < 2 ^ 31 by omega)
  generalize hM : WoolMath.mul a.toNat b.toNat = M at *
  have HM := Lib.hid hM
  clear hM
  have d : decide ((30 : Int) < (WoolMath.blen M : Int) - 1) = false := by rw [decide_eq_false_iff_not]; omega
  have d' : decide ((31 : Int) < (WoolMath.blen M : Int)) = false := by rw [decide_eq_false_iff_not]; omega
  go_enter Try.func15, Try.ntmps15
  go_wp2_with (first
    | (go_at_call 35; refine (checkAll_ok [a, b] _ 2 _ (by omega) rfl (row2 _ _ _ _) (all2 a b h0 h1 h2 h3)).mono ?_; rintro e w' ⟨rfl, rfl⟩)
    | (go_at_call 36; refine (product_any _ _ _ h0 (by omega) h2 (by omega)).mono ?_; rintro e w' ⟨rfl, rfl⟩; rw [HM.out])
    | (go_at_call 37; refine (degree_any _ _ (by omega) (by omega)).mono ?_; rintro e w' ⟨rfl, rfl⟩; rw [Int.toNat_natCast]))
  go_ret2
  exact ⟨rfl, Up.alloc _ _⟩

set_option maxRecDepth 100000 in
theorem mul_large (a b : Int) (w : World) (h0 : 0 ≤ a) (h1 : a ≤ 2147483647) (h2 : 0 ≤ b) (h3 : b ≤ 2147483647) (hf : 2147483647 < WoolMath.mul a.toNat b.toNat) :
    Calls Try.prog 15 #[.int .i64 a, .int .i64 b] w fun e w' => e = .returned (.tuple #[.int .i64 0, .int .i64 2]) ∧ Up w w' := by
  have hm := mul_fits a.toNat b.toNat (by omega) (by omega)
  have hbl := WoolMath.lt_blen (WoolMath.mul a.toNat b.toNat)
  have hub := WoolMath.blen_le _ 61 (show WoolMath.mul a.toNat b.toNat < 2 ^ 61 from hm)
  have hge : 32 ≤ WoolMath.blen (WoolMath.mul a.toNat b.toNat) := by
    apply Nat.le_of_not_lt
    intro h
    have := Nat.pow_le_pow_right (n := 2) (by omega) (show WoolMath.blen (WoolMath.mul a.toNat b.toNat) ≤ 31 by omega)
    omega
  clear hbl
  generalize hM : WoolMath.mul a.toNat b.toNat = M at *
  have HM := Lib.hid hM
  clear hM
  have d : decide ((30 : Int) < (WoolMath.blen M : Int) - 1) = true := by rw [decide_eq_true_iff]; omega
  have d' : decide ((31 : Int) < (WoolMath.blen M : Int)) = true := by rw [decide_eq_true_iff]; omega
  go_enter Try.func15, Try.ntmps15
  go_wp2_with (first
    | (go_at_call 35; refine (checkAll_ok [a, b] _ 2 _ (by omega) rfl (row2 _ _ _ _) (all2 a b h0 h1 h2 h3)).mono ?_; rintro e w' ⟨rfl, rfl⟩)
    | (go_at_call 36; refine (product_any _ _ _ h0 (by omega) h2 (by omega)).mono ?_; rintro e w' ⟨rfl, rfl⟩; rw [HM.out])
    | (go_at_call 37; refine (degree_any _ _ (by omega) (by omega)).mono ?_; rintro e w' ⟨rfl, rfl⟩; rw [Int.toNat_natCast]))
  go_ret2
  exact ⟨rfl, Up.alloc _ _⟩

set_option maxRecDepth 100000 in
theorem mul_bad (a b : Int) (w : World) (h : a < 0 ∨ 2147483647 < a ∨ b < 0 ∨ 2147483647 < b) :
    Calls Try.prog 15 #[.int .i64 a, .int .i64 b] w fun e w' => e = .returned (.tuple #[.int .i64 0, .int .i64 1]) ∧ Up w w' := by
  have H := Lib.hid h
  clear h
  go_enter Try.func15, Try.ntmps15
  go_wp2_with (go_at_call 35; refine (checkAll_bad [a, b] _ 2 _ (by omega) rfl (row2 _ _ _ _) (bad2 a b H.out)).mono ?_; rintro e w' ⟨rfl, rfl⟩)
  go_ret2
  exact ⟨rfl, Up.alloc _ _⟩

end Go.Proofs.Ytabhalajelbfoaa
