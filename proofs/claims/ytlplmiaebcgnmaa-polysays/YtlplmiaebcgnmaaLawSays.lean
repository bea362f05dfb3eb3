/-
  The law PolySays, walked: for every a, b the Go text returns true; nothing that was there turns. No condition.
-/
import Derived.Test.YtlplmiaebcgnmaaRef3
import Derived.BigRegion
import Derived.OpenShut
namespace Go.Proofs.Ytlplmiaebcgnmaa
open Go.RowKit
open Go.Proofs

theorem row1 (w : World) (a : Int) (t : TypeId) : Row (w.alloc (.cells #[.int .i64 a] t)) w.heap.size [a] := by
  intro i hi
  simp at hi
  subst hi
  go_simp

theorem all1 (a : Int) (h0 : 0 ≤ a) (h1 : a ≤ 2147483647) : AllP [a] := by
  intro j hj
  simp at hj
  subst hj
  exact ⟨h0, h1⟩

theorem bad1 (a : Int) (h : a < 0 ∨ 2147483647 < a) : ¬ AllP [a] := by
  intro hall
  have x0 : 0 ≤ a ∧ a ≤ 2147483647 := hall 0 (by simp)
  omega

theorem lt_of_blen31 (a : Nat) (h : WoolMath.blen a ≤ 31) : a < 2147483648 :=
  Nat.lt_of_lt_of_le (WoolMath.lt_blen a) (Nat.pow_le_pow_right (n := 2) (j := 31) (by omega) h)

set_option maxRecDepth 100000 in
set_option maxHeartbeats 1000000 in
/-- a is none -/
theorem polySays_one (a0 a1 : Int) (w : World) (h : a0 < 0 ∨ 2147483647 < a0) :
    Calls Try.prog 3 #[.int .i64 a0, .int .i64 a1] w fun e w' => e = .returned (.bool true) ∧ Up w w' := by
  have H := Lib.hid h
  clear h
  go_enter Try.func3, Try.ntmps3
  go_wp2_with fail
  refine (deg_bad _ _ H.out).mono ?_
  rintro e w' ⟨rfl, rfl⟩
  go_wp2_with fail
  refine (add_bad _ _ _ (by have := H.out; omega)).mono ?_
  rintro e w1 ⟨rfl, u1⟩
  go_wp2_with fail
  refine (mul_bad _ _ _ (by have := H.out; omega)).mono ?_
  rintro e w2 ⟨rfl, u2⟩
  go_wp2_with fail
  refine (check_bad _ _ H.out).mono ?_
  rintro e w' ⟨rfl, rfl⟩
  go_wp2_with fail
  refine (refPoly_bad [a0] _ 1 _ (by omega) rfl (row1 _ _ _) (bad1 a0 H.out)).mono ?_
  rintro e w' ⟨rfl, rfl⟩
  have u3 := Up.alloc w2 (.cells #[.int .i64 a0] 3)
  generalize w2.alloc (.cells #[.int .i64 a0] 3) = w3 at *
  go_wp2_with fail
  refine (check_bad _ _ (by omega)).mono ?_
  rintro e w' ⟨rfl, rfl⟩
  go_wp2_with fail
  refine (refPoly_bad [a0] _ 1 _ (by omega) rfl (row1 _ _ _) (bad1 a0 H.out)).mono ?_
  rintro e w' ⟨rfl, rfl⟩
  go_wp2_with fail
  go_ret
  exact ⟨rfl, ((u1.trans u2).trans u3).trans (Up.alloc _ _)⟩

set_option maxRecDepth 100000 in
set_option maxHeartbeats 1000000 in
/-- b is none -/
theorem polySays_two (A : Nat) (a1 : Int) (w : World) (hA : A ≤ 2147483647) (h : a1 < 0 ∨ 2147483647 < a1) (hw : a1 < 9223372036854775808) :
    Calls Try.prog 3 #[.int .i64 (A : Int), .int .i64 a1] w fun e w' => e = .returned (.bool true) ∧ Up w w' := by
  have H := Lib.hid h
  clear h
  go_enter Try.func3, Try.ntmps3
  go_wp2_with fail
  refine (degN A _ hA).mono ?_
  rintro e w' ⟨rfl, rfl⟩
  go_wp2_with fail
  refine (add_bad _ _ _ (by have := H.out; omega)).mono ?_
  rintro e w1 ⟨rfl, u1⟩
  go_wp2_with fail
  refine (mul_bad _ _ _ (by have := H.out; omega)).mono ?_
  rintro e w2 ⟨rfl, u2⟩
  go_wp2_with fail
  refine (check_ok _ _ (by omega) (by omega)).mono ?_
  rintro e w' ⟨rfl, rfl⟩
  go_wp2_with fail
  refine (refPoly_ok [(A : Int)] _ 1 _ (by omega) rfl (row1 _ _ _) (all1 _ (by omega) (by omega))).mono ?_
  rintro e w' ⟨rfl, rfl⟩
  have u3 := Up.alloc w2 (.cells #[.int .i64 (A : Int)] 3)
  generalize w2.alloc (.cells #[.int .i64 (A : Int)] 3) = w3 at *
  go_wp2_with fail
  refine (check_bad _ _ (by omega)).mono ?_
  rintro e w' ⟨rfl, rfl⟩
  go_wp2_with fail
  refine (refPoly_ok [(A : Int)] _ 1 _ (by omega) rfl (row1 _ _ _) (all1 _ (by omega) (by omega))).mono ?_
  rintro e w' ⟨rfl, rfl⟩
  have u4 := Up.alloc w3 (.cells #[.int .i64 (A : Int)] 3)
  generalize w3.alloc (.cells #[.int .i64 (A : Int)] 3) = w4 at *
  have HU := Lib.hid (((u1.trans u2).trans u3).trans u4)
  clear u1 u2 u3 u4
  go_wp2_with fail
  refine (coef_any _ _ (by omega)).mono ?_
  rintro e w5 ⟨vx, rfl, hbx, u5⟩
  rw [Int.toNat_natCast] at hbx
  have hsh := hbx.shape
  obtain ⟨ox, cx, rfl⟩ := hsh
  clear hbx
  go_wp2_with fail
  refine (coef_any _ _ hw).mono ?_
  rintro e w6 ⟨vy, rfl, hby, u6⟩
  clear hby
  have HV := Lib.hid ((HU.out.trans u5).trans u6)
  clear u5 u6
  have hbl := WoolMath.blen_le A 31 (by omega)
  go_wp2_with fail
  refine (refPoly_bad [a1] _ 1 _ (by omega) rfl (row1 _ _ _) (bad1 a1 H.out)).mono ?_
  rintro e w' ⟨rfl, rfl⟩
  go_wp2_with fail
  go_ret
  exact ⟨rfl, HV.out.trans (Up.alloc _ _)⟩

/-- the sum at the head of the round j: its first j coefficients are there -/
def SumRel (S G n : Nat) (w : World) (i : Value) (wr : World) : Prop :=
  ∃ J : Nat, J ≤ n ∧ i = .int .i64 J ∧ Bits wr w.heap.size (.slice (some ⟨G, 0, none⟩) n n) n (S % 2 ^ J) ∧ Up w wr

theorem sum_next {w : World} {base g n c S J : Nat} (h : Bits w base (.slice (some ⟨g, 0, none⟩) n c) n (S % 2 ^ J)) (b : Bool) (hb : b = S.testBit J) :
    Bits (w.setCell ⟨g, J, none⟩ (.bool b)) base (.slice (some ⟨g, 0, none⟩) n c) n (S % 2 ^ (J + 1)) := by
  have := (World.ownsRow.stored h J (.bool b)).1
  rw [bitsL_set (S % 2 ^ J) (S % 2 ^ (J + 1)) n J b ?_ ?_] at this
  · exact this
  · rw [Nat.testBit_mod_two_pow]; simp [hb]
  · intro i hi
    rw [Nat.testBit_mod_two_pow, Nat.testBit_mod_two_pow]
    by_cases h1 : i < J
    · simp [h1, show i < J + 1 by omega]
    · simp [h1, show ¬ i < J + 1 by omega]

set_option maxRecDepth 100000 in
set_option maxHeartbeats 2000000 in
/-- both are polynomials: up to the sum's loop -/
theorem polySays_both (A B : Nat) (w : World) (hA : A ≤ 2147483647) (hB : B ≤ 2147483647) (P E : Nat)
    (hP : P = 0 ∧ E = 2 ∧ 31 < WoolMath.blen (WoolMath.mul A B) ∨ P = WoolMath.mul A B ∧ E = 0 ∧ WoolMath.blen (WoolMath.mul A B) ≤ 31)
    (hmul : ∀ w0 : World, Calls Try.prog 21 #[.int .i64 (A : Int), .int .i64 (B : Int)] w0 fun e w' => e = .returned (.tuple #[.int .i64 (P : Int), .int .i64 (E : Int)]) ∧ Up w0 w') :
    Calls Try.prog 3 #[.int .i64 (A : Int), .int .i64 (B : Int)] w fun e w' => e = .returned (.bool true) ∧ Up w w' := by
  have HMUL := Lib.hid hmul
  have HP := Lib.hid hP
  clear hmul hP
  obtain ⟨i0, hi, hz0, hz1, hz2⟩ := info_parts boolInfo
  have HI := Lib.hid hi
  have HZ0 := Lib.hid hz0
  have HZ1 := Lib.hid hz1
  have HZ2 := Lib.hid hz2
  clear hi hz0 hz1 hz2
  go_enter Try.func3, Try.ntmps3
  go_wp2_with fail
  refine (degN A _ hA).mono ?_
  rintro e w' ⟨rfl, rfl⟩
  go_wp2_with fail
  refine (addN A B _ hA hB).mono ?_
  rintro e w1 ⟨rfl, u1⟩
  go_wp2_with fail
  refine (HMUL.out _).mono ?_
  rintro e w2 ⟨rfl, u2⟩
  go_wp2_with fail
  refine (check_ok _ _ (by omega) (by omega)).mono ?_
  rintro e w' ⟨rfl, rfl⟩
  go_wp2_with fail
  refine (refPoly_ok [(A : Int)] _ 1 _ (by omega) rfl (row1 _ _ _) (all1 _ (by omega) (by omega))).mono ?_
  rintro e w' ⟨rfl, rfl⟩
  have u3 := Up.alloc w2 (.cells #[.int .i64 (A : Int)] 3)
  generalize w2.alloc (.cells #[.int .i64 (A : Int)] 3) = w3 at *
  go_wp2_with fail
  refine (check_bad _ _ (by omega)).mono ?_
  rintro e w' ⟨rfl, rfl⟩
  go_wp2_with fail
  refine (refPoly_ok [(A : Int)] _ 1 _ (by omega) rfl (row1 _ _ _) (all1 _ (by omega) (by omega))).mono ?_
  rintro e w' ⟨rfl, rfl⟩
  have u4 := Up.alloc w3 (.cells #[.int .i64 (A : Int)] 3)
  generalize w3.alloc (.cells #[.int .i64 (A : Int)] 3) = w4 at *
  have HU := Lib.hid (((u1.trans u2).trans u3).trans u4)
  clear u1 u2 u3 u4
  go_wp2_with fail
  refine (coef_any _ _ (by omega)).mono ?_
  rintro e w5 ⟨vx, rfl, hbx, u5⟩
  rw [Int.toNat_natCast] at hbx
  obtain ⟨ox, cx, rfl⟩ := hbx.shape
  have HBX := Lib.hid hbx
  clear hbx
  go_wp2_with fail
  refine (coef_any _ _ (by omega)).mono ?_
  rintro e w6 ⟨vy, rfl, hby, u6⟩
  rw [Int.toNat_natCast] at hby
  obtain ⟨oy, cy, rfl⟩ := hby.shape
  have HBX2 := Lib.hid (HBX.out.up u6)
  have HBY := Lib.hid hby
  clear hby HBX
  have HV := Lib.hid ((HU.out.trans u5).trans u6)
  clear HU
  have hs5 := u5.size
  have hs6 := u6.size
  clear u5 u6
  have hbl := WoolMath.blen_le A 31 (by omega)
  have hbl2 := WoolMath.blen_le B 31 (by omega)
  have hlA := WoolMath.lt_blen A
  have hlB := WoolMath.lt_blen B
  have HLA := Lib.hid hlA
  have HLB := Lib.hid hlB
  clear hlA hlB
  go_wp2_with fail
  refine (refPoly_ok [(B : Int)] _ 1 _ (by omega) rfl (row1 _ _ _) (all1 _ (by omega) (by omega))).mono ?_
  rintro e w' ⟨rfl, rfl⟩
  have u7 := Up.alloc w6 (.cells #[.int .i64 (B : Int)] 3)
  generalize w6.alloc (.cells #[.int .i64 (B : Int)] 3) = w7 at *
  have HBX3 := Lib.hid (HBX2.out.up u7)
  have HBY2 := Lib.hid (HBY.out.up u7)
  have HW := Lib.hid (HV.out.trans u7)
  clear HBX2 HBY HV u7
  generalize hX : WoolMath.blen A = X at *
  generalize hY : WoolMath.blen B = Y at *
  have HX := Lib.hid hX
  have HY := Lib.hid hY
  clear hX hY
  go_wp2_with (at_make; refine wpList_make_full _ rfl _ _ 28 rfl w7.heap.size 4 i0 (.bool false) 1 Try.underlying28 HI.out HZ0.out HZ1.out .i64 .i64 _ _ (max X Y) rfl rfl (by omega) (by omega) (by rw [HZ2.out]; omega) (by unfold maxLen; omega) (Nat.le_refl _) ?_)
  intro w8 hown hgrow
  generalize hn : max X Y = n at *
  have hb0 : Bits w8 w7.heap.size (.slice (some ⟨w7.heap.size, 0, none⟩) n n) n ((A ^^^ B) % 2 ^ 0) := by
    unfold Bits
    rw [Nat.pow_zero, Nat.mod_one, ← bitsL_zero]
    rw [← toList_madeCells_one (.bool false) n]
    exact hown
  have hu0 : Up w7 w8 := Below.grown (Up.refl w7) hgrow (Nat.le_refl _) (fun k hk => by cases hk)
  have HB0 := Lib.hid hb0
  have HU0 := Lib.hid hu0
  have HN := Lib.hid hn
  have hn31 : n ≤ 31 := by omega
  have hXn : X ≤ n := by omega
  have hYn : Y ≤ n := by omega
  have hXY : n ≤ X ∨ n ≤ Y := by omega
  have HXY := Lib.hid hXY
  clear hown hgrow hb0 hu0 hn hXY
  go_wp2_with fail
  go_loopw [108] (fun i wr => SumRel (A ^^^ B) w7.heap.size n w7 i wr) (fun i _ => n - (intOf i).toNat)
  case atStart => exact ⟨0, by omega, rfl, HB0.out, HU0.out⟩
  case round =>
    obtain ⟨J, hJ, rfl, hbJ, huJ⟩ := hrel
    have HBJ := Lib.hid hbJ
    have HUJ := Lib.hid huJ
    clear hbJ huJ
    by_cases hlt : J < n
    · have hc0 := HBJ.out.cell J hlt
      have hfz := World.ownsRow.frozenAt HBJ.out J
      have hS : (A ^^^ B).testBit J = (A.testBit J ^^ B.testBit J) := Nat.testBit_xor ..
      have HS := Lib.hid hS
      have HNX := Lib.hid (fun b hb => sum_next HBJ.out b hb)
      have HUN := Lib.hid (fun b => HUJ.out.set w7.heap.size J (.bool b) (Nat.le_refl _))
      generalize ((A ^^^ B) % 2 ^ J).testBit J = z0 at *
      clear hS
      by_cases hx : J < X
      · obtain ⟨gx, cx', hsx, _, hgx, hcx, hcx2⟩ := HBX3.out.block (by omega)
        simp only [Value.slice.injEq, true_and] at hsx
        obtain ⟨rfl, rfl⟩ := hsx
        have hcX := (HBX3.out.up HUJ.out).cell J hx
        generalize A.testBit J = xb at *
        by_cases hy : J < Y
        · obtain ⟨gy, cy', hsy, _, hgy, hcy, hcy2⟩ := HBY2.out.block (by omega)
          simp only [Value.slice.injEq, true_and] at hsy
          obtain ⟨rfl, rfl⟩ := hsy
          have hcY := (HBY2.out.up HUJ.out).cell J hy
          generalize B.testBit J = yb at *
          have hx' : (J : Int) < (X : Int) := by omega
          have hy' : (J : Int) < (Y : Int) := by omega
          have hn' : (J : Int) < (n : Int) := by omega
          have hg1 : decide (X ≤ J) = false := by rw [decide_eq_false_iff_not]; omega
          have t1 : (false ^^ false) = false := rfl
          cases xb
          · cases yb
            · have HNX2 := Lib.hid (HNX.out false (by rw [HS.out]; rfl))
              have HUN2 := Lib.hid (HUN.out false)
              clear HNX HUN HS t1
              go_wp2_with fail
              go_region
              go_wp2_with fail
              go_roundw
              case rel => exact ⟨J + 1, by omega, by go_num, HNX2.out, Below.drew HUN2.out⟩
              case measure => simp [intOf]; omega
            · have HNX2 := Lib.hid (HNX.out true (by rw [HS.out]; rfl))
              have HUN2 := Lib.hid (HUN.out true)
              clear HNX HUN HS t1
              go_wp2_with fail
              go_region
              go_wp2_with fail
              go_roundw
              case rel => exact ⟨J + 1, by omega, by go_num, HNX2.out, Below.drew HUN2.out⟩
              case measure => simp [intOf]; omega
          · cases yb
            · have HNX2 := Lib.hid (HNX.out true (by rw [HS.out]; rfl))
              have HUN2 := Lib.hid (HUN.out true)
              clear HNX HUN HS t1
              go_wp2_with fail
              go_region
              go_wp2_with fail
              go_roundw
              case rel => exact ⟨J + 1, by omega, by go_num, HNX2.out, Below.drew HUN2.out⟩
              case measure => simp [intOf]; omega
            · have HNX2 := Lib.hid (HNX.out false (by rw [HS.out]; rfl))
              have HUN2 := Lib.hid (HUN.out false)
              clear HNX HUN HS t1
              go_wp2_with fail
              go_region
              go_wp2_with fail
              go_roundw
              case rel => exact ⟨J + 1, by omega, by go_num, HNX2.out, Below.drew HUN2.out⟩
              case measure => simp [intOf]; omega
        · have hyb : B.testBit J = false := Nat.testBit_lt_two_pow (Nat.lt_of_lt_of_le HLB.out (Nat.pow_le_pow_right (by omega) (by omega)))
          rw [hyb] at HS
          clear hyb
          have hx' : (J : Int) < (X : Int) := by omega
          have hn' : (J : Int) < (n : Int) := by omega
          have hg1 : decide (X ≤ J) = false := by rw [decide_eq_false_iff_not]; omega
          have hg2 : decide (J < Y) = false := by rw [decide_eq_false_iff_not]; omega
          cases xb
          · have HNX2 := Lib.hid (HNX.out false (by rw [HS.out]; rfl))
            have HUN2 := Lib.hid (HUN.out false)
            clear HNX HUN HS
            go_wp2_with fail
            go_region
            go_wp2_with fail
            go_roundw
            case rel => exact ⟨J + 1, by omega, by go_num, HNX2.out, Below.drew HUN2.out⟩
            case measure => simp [intOf]; omega
          · have HNX2 := Lib.hid (HNX.out true (by rw [HS.out]; rfl))
            have HUN2 := Lib.hid (HUN.out true)
            clear HNX HUN HS
            go_wp2_with fail
            go_region
            go_wp2_with fail
            go_roundw
            case rel => exact ⟨J + 1, by omega, by go_num, HNX2.out, Below.drew HUN2.out⟩
            case measure => simp [intOf]; omega
      · have hxb : A.testBit J = false := Nat.testBit_lt_two_pow (Nat.lt_of_lt_of_le HLA.out (Nat.pow_le_pow_right (by omega) (by omega)))
        rw [hxb] at HS
        clear hxb
        have hy : J < Y := by have := HXY.out; omega
        obtain ⟨gy, cy', hsy, _, hgy, hcy, hcy2⟩ := HBY2.out.block (by omega)
        simp only [Value.slice.injEq, true_and] at hsy
        obtain ⟨rfl, rfl⟩ := hsy
        have hcY := (HBY2.out.up HUJ.out).cell J hy
        generalize B.testBit J = yb at *
        have hy' : (J : Int) < (Y : Int) := by omega
        have hn' : (J : Int) < (n : Int) := by omega
        have hg1 : decide (J < X) = false := by rw [decide_eq_false_iff_not]; omega
        have hg2 : decide (X ≤ J) = true := by rw [decide_eq_true_iff]; omega
        have HNX2 := Lib.hid (HNX.out yb (by rw [HS.out]; cases yb <;> rfl))
        have HUN2 := Lib.hid (HUN.out yb)
        clear HNX HUN HS
        go_wp2_with fail
        go_region
        go_wp2_with fail
        go_roundw
        case rel => exact ⟨J + 1, by omega, by go_num, HNX2.out, Below.drew HUN2.out⟩
        case measure => simp [intOf]; omega
    · have : J = n := by omega
      subst this
      have dd : decide (J < J) = false := by simp
      have hSl : A ^^^ B < 2 ^ J := Nat.xor_lt_two_pow (Nat.lt_of_lt_of_le HLA.out (Nat.pow_le_pow_right (by omega) hXn)) (Nat.lt_of_lt_of_le HLB.out (Nat.pow_le_pow_right (by omega) hYn))
      have hfin := HBJ.out
      rw [Nat.mod_eq_of_lt hSl] at hfin
      have HFIN := Lib.hid hfin
      have HSL := Lib.hid hSl
      clear hfin hSl
      go_wp2_with fail
      refine (num_any _ _ J _ _ (by omega) HSL.out HFIN.out).mono ?_
      rintro e w' ⟨rfl, rfl⟩
      have hPX := (HBX3.out.up HUJ.out).weak (Nat.zero_le _)
      have hPY := (HBY2.out.up HUJ.out).weak (Nat.zero_le _)
      have HPX := Lib.hid hPX
      have HPY := Lib.hid hPY
      clear hPX hPY
      go_wp2_with fail
      refine (prod_any _ _ A B X Y _ (by omega) (by omega) HLA.out HLB.out HPX.out HPY.out).mono ?_
      rintro e w9 ⟨vq, rfl, hbq, u9⟩
      obtain ⟨oq, cq, rfl⟩ := hbq.shape
      have HQ := Lib.hid hbq
      have HT := Lib.hid ((HW.out.trans HUJ.out).trans u9)
      clear hbq u9
      have hlM := WoolMath.lt_blen (WoolMath.mul A B)
      have HLM := Lib.hid hlM
      clear hlM
      have hub : WoolMath.blen (WoolMath.mul A B) ≤ 61 := WoolMath.blen_le _ 61 (mul_fits A B hA hB)
      generalize hL : WoolMath.blen (WoolMath.mul A B) = L at *
      rcases HP.out with ⟨rfl, rfl, hlarge⟩ | ⟨rfl, rfl, hfit⟩
      · clear hL
        have d31 : decide ((31 : Int) < (L : Int)) = true := by rw [decide_eq_true_iff]; omega
        go_wp2_with fail
        go_ret
        exact ⟨rfl, HT.out⟩
      · clear hL
        have d31 : decide ((31 : Int) < (L : Int)) = false := by rw [decide_eq_false_iff_not]; omega
        go_wp2_with fail
        refine (num_any _ _ L _ _ (by omega) HLM.out HQ.out).mono ?_
        rintro e w' ⟨rfl, rfl⟩
        go_wp2_with fail
        go_ret
        exact ⟨rfl, HT.out⟩

theorem polySays_walk (a0 a1 : Int) (w : World) (_w0 : (Lit.int .i64 a0).wf = true) (w1 : (Lit.int .i64 a1).wf = true) :
    Calls Try.prog 3 #[.int .i64 a0, .int .i64 a1] w fun e w' => e = .returned (.bool true) ∧ Up w w' := by
  by_cases h0 : a0 < 0 ∨ 2147483647 < a0
  · exact polySays_one a0 a1 w h0
  · obtain ⟨A, rfl⟩ := Int.eq_ofNat_of_zero_le (show 0 ≤ a0 by omega)
    by_cases h1 : a1 < 0 ∨ 2147483647 < a1
    · refine polySays_two A a1 w (by omega) h1 ?_
      have := bounds_i64 w1
      omega
    · obtain ⟨B, rfl⟩ := Int.eq_ofNat_of_zero_le (show 0 ≤ a1 by omega)
      have hA : A ≤ 2147483647 := by omega
      have hB : B ≤ 2147483647 := by omega
      by_cases hl : WoolMath.blen (WoolMath.mul A B) ≤ 31
      · have hm : WoolMath.mul A B ≤ 2147483647 := by
          have := lt_of_blen31 _ hl
          omega
        exact polySays_both A B w hA hB (WoolMath.mul A B) 0 (.inr ⟨rfl, rfl, hl⟩) (fun w0 => mulN A B w0 hA hB hm)
      · have hm : 2147483647 < WoolMath.mul A B := by
          apply Nat.lt_of_not_le
          intro h
          exact hl (WoolMath.blen_le _ 31 (by omega))
        exact polySays_both A B w hA hB 0 2 (.inl ⟨rfl, rfl, by omega⟩) (fun w0 => mul_large _ _ w0 (by omega) (by omega) (by omega) (by omega) (by rw [Int.toNat_natCast, Int.toNat_natCast]; exact hm))

end Go.Proofs.Ytlplmiaebcgnmaa
