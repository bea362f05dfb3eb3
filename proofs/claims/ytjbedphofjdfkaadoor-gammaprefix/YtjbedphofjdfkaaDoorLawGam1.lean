/-
  The walks of the laws GammaPrefix and GammaKraft. Conditions: as each says (one cell of the table deBruijn64tab).
-/
import Derived.Test.YtjbedphofjdfkaaDoorGam
import Derived.Test.YtjbedphofjdfkaaDoorWithin
import Derived.Deep.QuietTactic
import Derived.BigQuiet
namespace Go.Proofs.YtjbedphofjdfkaaDoor
open Go.RowKit
open Go.Proofs

theorem gam_one : bs (WoolBits.gam 1) = ⟨#[49]⟩ := by
  simp [WoolBits.gam, WoolBits.len_small 1 (by omega), WoolBits.dg_small 1 (by omega), bs, WoolBits.bit]

theorem del_one : bs (WoolBits.del 1) = ⟨#[49]⟩ := by
  simp [WoolBits.del, WoolBits.gam, WoolBits.len_small 1 (by omega), WoolBits.dg_small 1 (by omega), bs, WoolBits.bit]

theorem no_prefix (a b : List UInt8) (h : ¬ a <+: b) : Lib.hasPrefix (bs b).data.toList (bs a).data.toList = false := by
  rw [bs_list, bs_list]
  unfold Lib.hasPrefix
  cases e : a.isPrefixOf b with
  | false => rfl
  | true => exact absurd (List.isPrefixOf_iff_prefix.1 e) h

set_option maxHeartbeats 1000000 in
set_option maxRecDepth 100000 in
theorem gammaPrefix_walk (a0 a1 : Int) (w : World) (_w0 : (Lit.int .i64 a0).wf = true) (_w1 : (Lit.int .i64 a1).wf = true) (hT : Tab w) :
    Calls Tryd.prog 7 #[.int .i64 a0, .int .i64 a1] w fun e w' => e = .returned (.bool true) ∧ Up w w' := by
  go_enter Tryd.func7, Tryd.ntmps7
  go_wp2_with fail
  refine (gamma_yes 1 _ (by omega) (by omega) hT).mono ?_
  rintro e w1 ⟨rfl, u1⟩
  rw [gam_one]
  go_wp2_with fail
  refine (delta_yes 1 _ (by omega) (by omega) (hT.up u1)).mono ?_
  rintro e w2 ⟨rfl, u2⟩
  rw [del_one]
  have U2 := u1.trans u2
  clear u1 u2
  go_wp2_with fail
  refine (within_any a0 2147483647 _ (by omega) (by omega)).mono ?_
  rintro e w3 ⟨rfl, rfl⟩
  have hA := within_lt a0 (2147483647 : Int).toNat (by decide)
  generalize within a0 (2147483647 : Int).toNat = A0 at *
  rw [show (2147483647 : Int).toNat = 2147483647 from rfl] at hA
  go_wp2_with fail
  refine (within_any a1 2147483647 _ (by omega) (by omega)).mono ?_
  rintro e w3 ⟨rfl, rfl⟩
  have hB := within_lt a1 (2147483647 : Int).toNat (by decide)
  generalize within a1 (2147483647 : Int).toNat = B0 at *
  rw [show (2147483647 : Int).toNat = 2147483647 from rfl] at hB
  obtain ⟨A, rA⟩ : ∃ A : Nat, (1 : Int) + (A0 : Int) = (A : Int) := ⟨1 + A0, by omega⟩
  obtain ⟨B, rB⟩ : ∃ B : Nat, (1 : Int) + (B0 : Int) = (B : Int) := ⟨1 + B0, by omega⟩
  have a1' : 1 ≤ A := by omega
  have a2' : A ≤ 2147483647 := by omega
  have b1' : 1 ≤ B := by omega
  have b2' : B ≤ 2147483647 := by omega
  clear hA hB
  go_wp2_with fail
  refine (gamma_yes A _ a1' a2' (hT.up U2)).mono ?_
  rintro e w3 ⟨rfl, u3⟩
  have U3 := U2.trans u3
  clear u3
  go_wp2_with fail
  refine (gamma_yes B _ b1' b2' (hT.up U3)).mono ?_
  rintro e w4 ⟨rfl, u4⟩
  have U4 := U3.trans u4
  clear u4
  go_wp2_with fail
  refine (delta_yes A _ a1' a2' (hT.up U4)).mono ?_
  rintro e w5 ⟨rfl, u5⟩
  have U5 := U4.trans u5
  clear u5
  go_wp2_with fail
  refine (delta_yes B _ b1' b2' (hT.up U5)).mono ?_
  rintro e w6 ⟨rfl, u6⟩
  have U6 := U5.trans u6
  clear u6 U2 U3 U4 U5
  have sp := bs_size (WoolBits.gam A)
  have sq := bs_size (WoolBits.gam B)
  have su := bs_size (WoolBits.del A)
  have sv := bs_size (WoolBits.del B)
  have hn1 : A ≠ B → Lib.hasPrefix (bs (WoolBits.gam B)).data.toList (bs (WoolBits.gam A)).data.toList = false := fun h => no_prefix _ _ fun k => h (WoolBits.gam_prefix A B a1' (by omega) b1' (by omega) k)
  have hn2 : A ≠ B → Lib.hasPrefix (bs (WoolBits.del B)).data.toList (bs (WoolBits.del A)).data.toList = false := fun h => no_prefix _ _ fun k => h (WoolBits.del_prefix A B a1' (by omega) b1' (by omega) k)
  have hm1 : A ≤ B → (bs (WoolBits.gam A)).size ≤ (bs (WoolBits.gam B)).size := fun h => by rw [sp, sq]; exact WoolBits.gam_mono h
  have hm2 : A ≤ B → (bs (WoolBits.del A)).size ≤ (bs (WoolBits.del B)).size := fun h => by rw [su, sv]; exact WoolBits.del_mono h
  have hm3 : 16 ≤ A → (bs (WoolBits.del A)).size ≤ (bs (WoolBits.gam A)).size := fun h => by rw [su, sp]; exact WoolBits.del_le_gam A h (by omega)
  clear sp sq su sv
  generalize bs (WoolBits.gam A) = p at *
  generalize bs (WoolBits.gam B) = q at *
  generalize bs (WoolBits.del A) = u at *
  generalize bs (WoolBits.del B) = v at *
  have h16 : ∃ c : Bool, decide ((A : Int) < 16) = c ∧ (c = false → decide (u.size ≤ p.size) = true) := ⟨_, rfl, fun h => by
    rw [decide_eq_false_iff_not] at h; rw [decide_eq_true_iff]; exact hm3 (by omega)⟩
  obtain ⟨c16, hc, hc'⟩ := h16
  by_cases hab : A = B
  · subst hab
    have d1 : decide (p.size ≤ q.size) = true := by rw [decide_eq_true_iff]; exact hm1 (Nat.le_refl _)
    have d2 : decide (u.size ≤ v.size) = true := by rw [decide_eq_true_iff]; exact hm2 (Nat.le_refl _)
    clear hn1 hn2 hm1 hm2 hm3
    cases c16 with
    | true =>
      clear hc'
      go_wp2
      go_ret
      exact ⟨rfl, U6⟩
    | false =>
      have d3 := hc' rfl
      clear hc'
      go_wp2
      go_ret
      exact ⟨rfl, U6⟩
  · have hn1 := hn1 hab
    have hn2 := hn2 hab
    have HN1 := Lib.hid hn1
    have HN2 := Lib.hid hn2
    have hne : (A != B) = true := by simpa using hab
    have hne' : ((A : Int) != (B : Int)) = true := by simp; omega
    have hne2 : ((A : Int) == (B : Int)) = false := by simp; omega
    clear hn1 hn2
    rcases Nat.lt_or_gt_of_ne hab with hlt | hlt
    · have d0 : decide (B < A) = false := by rw [decide_eq_false_iff_not]; omega
      have d1 : decide (p.size ≤ q.size) = true := by rw [decide_eq_true_iff]; exact hm1 (by omega)
      have d2 : decide (u.size ≤ v.size) = true := by rw [decide_eq_true_iff]; exact hm2 (by omega)
      clear hm1 hm2 hm3
      cases c16 with
      | true =>
        clear hc'
        go_wp2_with (go_at_call 33; refine (Tryd.strings_HasPrefix _ _ _).mono ?_; rintro e w7 ⟨rfl, rfl⟩; first | rw [HN1.out] | rw [HN2.out])
        go_ret
        exact ⟨rfl, U6⟩
      | false =>
        have d3 := hc' rfl
        clear hc'
        go_wp2_with (go_at_call 33; refine (Tryd.strings_HasPrefix _ _ _).mono ?_; rintro e w7 ⟨rfl, rfl⟩; first | rw [HN1.out] | rw [HN2.out])
        go_ret
        exact ⟨rfl, U6⟩
    · have d0 : decide (B < A) = true := by rw [decide_eq_true_iff]; omega
      clear hm1 hm2 hm3
      cases c16 with
      | true =>
        clear hc'
        go_wp2_with (go_at_call 33; refine (Tryd.strings_HasPrefix _ _ _).mono ?_; rintro e w7 ⟨rfl, rfl⟩; first | rw [HN1.out] | rw [HN2.out])
        go_ret
        exact ⟨rfl, U6⟩
      | false =>
        have d3 := hc' rfl
        clear hc'
        go_wp2_with (go_at_call 33; refine (Tryd.strings_HasPrefix _ _ _).mono ?_; rintro e w7 ⟨rfl, rfl⟩; first | rw [HN1.out] | rw [HN2.out])
        go_ret
        exact ⟨rfl, U6⟩

end Go.Proofs.YtjbedphofjdfkaaDoor
