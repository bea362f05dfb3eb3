/-
  The walk of the law PackSays. Conditions: the row of tokens can be read; a text of at most 1048576 bytes; one cell of the table deBruijn64tab.
-/
import Derived.Test.YtjbedphofjdfkaaDoorRefPack4
namespace Go.Proofs.YtjbedphofjdfkaaDoor
open Go.RowKit
open Go.Proofs
open WoolLz WoolPack

theorem text_like (s : ByteArray) : (s.toList == s.toList) = true := by simp

set_option maxRecDepth 100000 in
set_option maxHeartbeats 2000000 in
theorem packSays_list (a0 : Option Addr) (len0 cap0 : Nat) (z0 : List Tok) (s : List UInt8) (w : World) (w0 : Toks w (.slice a0 len0 cap0) z0) (hs : s.length ≤ 1048576) (hT : Tab w) :
    Calls Tryd.prog 4 #[.slice a0 len0 cap0, .string (bs s)] w fun e w' => e = .returned (.bool true) ∧ Up w w' := by
  have HX := Lib.hid w0
  clear w0
  go_enter Tryd.func4, Tryd.ntmps4
  go_wp2_with fail
  refine (bits_any _ z0 _ HX.out hT).mono ?_
  rintro e w1 ⟨rfl, u1⟩
  by_cases hx : (exp [] z0).1 = 0
  · have HV : Hid (bitsV z0 = .tuple #[.string (bs (pack z0)), .int .i64 0]) := by
      show _ = _
      unfold bitsV
      rw [if_pos hx, hx]
    have HX0 := Lib.hid hx
    have heq := text_like (bs (pack z0))
    rw [HV.out]
    clear hx
    go_wp2_with fail
    refine (refExpand_any _ z0 _ (HX.out.up u1)).mono ?_
    rintro e w2 ⟨rfl, u2⟩
    rw [HX0.out]
    have U2 := u1.trans u2
    clear u1 u2
    go_wp2_with fail
    refine (rPack_any _ z0 _ (HX.out.up U2) HX0.out).mono ?_
    rintro e w3 ⟨rfl, u3⟩
    have U := U2.trans u3
    clear u3 U2
    go_wp2_with fail
    refine (tokens_any s _ (by omega)).mono ?_
    rintro e w5 ⟨v1, rfl, hv1, u5⟩
    have U5 := U.trans u5
    have HV1 := Lib.hid hv1.toks
    obtain ⟨o1, c1, hsh1, _⟩ := hv1.toks
    subst hsh1
    clear u5 U hv1
    go_wp2_with fail
    refine (rTokens_any s _ (by omega)).mono ?_
    rintro e w6 ⟨v2, rfl, hv2, u6⟩
    have U6 := U5.trans u6
    have HV2 := Lib.hid hv2.toks
    have HV3 := Lib.hid (HV1.out.up u6)
    obtain ⟨o2, c2, hsh2, _⟩ := hv2.toks
    subst hsh2
    clear u6 U5 hv2 HV1
    obtain ⟨F, hF⟩ : ∃ F, (toks s).2 = F := ⟨_, rfl⟩
    rw [hF]
    clear hF
    go_wp2_with fail
    refine (equalT_yes _ _ (toks s).1 _ HV3.out HV2.out).mono ?_
    rintro e w7 ⟨rfl, u7⟩
    go_wp2
    go_ret
    exact ⟨rfl, U6.trans u7⟩
  · have HV : Hid (bitsV z0 = .tuple #[.string ⟨#[]⟩, .int .i64 (exp [] z0).1]) := by
      show _ = _
      unfold bitsV
      rw [if_neg hx]
      rfl
    rw [HV.out]
    obtain ⟨E, hE⟩ : ∃ E, (exp [] z0).1 = E := ⟨_, rfl⟩
    rw [hE] at hx
    rw [hE]
    have HE := Lib.hid hE
    have hx1 : (E != 0) = true := by rw [bne_iff_ne]; exact hx
    clear hE hx HV
    go_wp2_with fail
    refine (refExpand_any _ z0 _ (HX.out.up u1)).mono ?_
    rintro e w2 ⟨rfl, u2⟩
    rw [HE.out]
    have U := u1.trans u2
    clear u1 u2
    go_wp2_with fail
    refine (tokens_any s _ (by omega)).mono ?_
    rintro e w5 ⟨v1, rfl, hv1, u5⟩
    have U5 := U.trans u5
    have HV1 := Lib.hid hv1.toks
    obtain ⟨o1, c1, hsh1, _⟩ := hv1.toks
    subst hsh1
    clear u5 U hv1
    go_wp2_with fail
    refine (rTokens_any s _ (by omega)).mono ?_
    rintro e w6 ⟨v2, rfl, hv2, u6⟩
    have U6 := U5.trans u6
    have HV2 := Lib.hid hv2.toks
    have HV3 := Lib.hid (HV1.out.up u6)
    obtain ⟨o2, c2, hsh2, _⟩ := hv2.toks
    subst hsh2
    clear u6 U5 hv2 HV1
    obtain ⟨F, hF⟩ : ∃ F, (toks s).2 = F := ⟨_, rfl⟩
    rw [hF]
    clear hF
    go_wp2_with fail
    refine (equalT_yes _ _ (toks s).1 _ HV3.out HV2.out).mono ?_
    rintro e w7 ⟨rfl, u7⟩
    go_wp2
    go_ret
    exact ⟨rfl, U6.trans u7⟩

theorem packSays_walk (a0 : Option Addr) (len0 cap0 : Nat) (z0 : List Tok) (a1 : ByteArray) (w : World) (w0 : Toks w (.slice a0 len0 cap0) z0) (w1 : a1.size ≤ 1048576) (hT : Tab w) :
    Calls Tryd.prog 4 #[.slice a0 len0 cap0, .string a1] w fun e w' => e = .returned (.bool true) ∧ Up w w' := by
  rw [← bs_of a1]
  exact packSays_list a0 len0 cap0 z0 _ w w0 (by rw [ba_length]; exact w1) hT

end Go.Proofs.YtjbedphofjdfkaaDoor
