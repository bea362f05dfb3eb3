/-
  The walk of the law PackBack. Conditions: the row of tokens can be read; one cell of the table deBruijn64tab.
-/
import Derived.Test.YtjbedphofjdfkaaDoorPack5
import Derived.Test.YtjbedphofjdfkaaDoorPack3
namespace Go.Proofs.YtjbedphofjdfkaaDoor
open Go.RowKit
open Go.Proofs
open WoolLz WoolPack

theorem one_tok : bitsV [⟨0, 0, 97⟩] = .tuple #[.string (bs (pack [⟨0, 0, 97⟩])), .int .i64 0] := by
  unfold bitsV
  rw [show exp [] [⟨0, 0, 97⟩] = (0, [97]) by decide +kernel]
  rfl

theorem one_bits : bs (pack [⟨0, 0, 97⟩]) = ⟨#[48, 48, 49, 49, 48, 48, 48, 48, 49]⟩ := by
  simp [pack, enc, b8, WoolBits.dg_step, WoolBits.dg_small, WoolBits.bit, bs]

theorem one_bytes : bytesV [48, 48, 49, 49, 48, 48, 48, 48, 49] = .tuple #[.string ⟨#[48, 192]⟩, .int .i64 0] := by
  unfold bytesV
  rw [show WoolBits.isB [48, 48, 49, 49, 48, 48, 48, 48, 49] = true by decide +kernel, show byts [48, 48, 49, 49, 48, 48, 48, 48, 49] = [48, 192] by decide +kernel]
  rfl

theorem text_same (s : ByteArray) : (s.toList == s.toList) = true := by simp

theorem toks_pack (l : List Tok) (h : (exp [] l).1 = 0) : toks (pack l) = (l, 0) := by
  unfold toks
  rw [if_neg (by rw [isB_pack]; decide), rall_pack l (exp_good l [] h)]
  rw [if_neg (by simp), if_neg (by simp [h])]

set_option maxRecDepth 100000 in
set_option maxHeartbeats 2000000 in
theorem packBack_walk (a0 : Option Addr) (len0 cap0 : Nat) (z0 : List Tok) (w : World) (w0 : Toks w (.slice a0 len0 cap0) z0) (hT : Tab w) :
    Calls Tryd.prog 8 #[.slice a0 len0 cap0] w fun e w' => e = .returned (.bool true) ∧ Up w w' := by
  have HL := Lib.hid (Toks.laid w [⟨0, 0, 97⟩] (by simp))
  have HX := Lib.hid w0
  clear w0
  go_enter Tryd.func8, Tryd.ntmps8
  go_wp2_with fail
  refine (bits_any _ _ _ HL.out (hT.up (Up.alloc _ _))).mono ?_
  rintro e w1 ⟨rfl, u1⟩
  rw [one_tok, one_bits]
  have U1 := Up.after _ _ _ u1
  clear u1
  go_wp2_with fail
  rw [show (⟨#[48, 48, 49, 49, 48, 48, 48, 48, 49]⟩ : ByteArray) = bs [48, 48, 49, 49, 48, 48, 48, 48, 49] from rfl]
  refine (bytesP_any [48, 48, 49, 49, 48, 48, 48, 48, 49] _ (by simp)).mono ?_
  rintro e w2 ⟨rfl, u2⟩
  rw [one_bytes, show bs [48, 48, 49, 49, 48, 48, 48, 48, 49] = ⟨#[48, 48, 49, 49, 48, 48, 48, 48, 49]⟩ from rfl]
  have U2 := U1.trans u2
  clear u2 U1 HL
  go_wp2_with fail
  refine (bits_any _ z0 _ (HX.out.up U2) (hT.up U2)).mono ?_
  rintro e w3 ⟨rfl, u3⟩
  have U3 := U2.trans u3
  clear u3 U2
  by_cases hx : (exp [] z0).1 = 0
  · have HV : Hid (bitsV z0 = .tuple #[.string (bs (pack z0)), .int .i64 0]) := by
      show _ = _
      unfold bitsV
      rw [if_pos hx, hx]
    have hg := exp_good z0 [] hx
    have hfew := exp_few z0 hx
    have hpb := pack_bound z0 hg
    have hib := isB_pack z0
    have HBV : Hid (bytesV (pack z0) = .tuple #[.string (bs (byts (pack z0))), .int .i64 0]) := by
      show _ = _
      unfold bytesV
      rw [if_pos hib, if_pos hib]
    have HUV : Hid (unbV (byts (pack z0)) = .tuple #[.string (bs (pack z0)), .int .i64 0]) := by
      show _ = _
      unfold unbV
      rw [unb_byts _ hib]
      rfl
    have HTV := Lib.hid (toks_pack z0 hx)
    have hbl := byts_length (pack z0)
    have hpad := pad_lt (pack z0).length
    have hpm := pad_mod (pack z0).length
    have s1 := bs_size (pack z0)
    have s2 := bs_size (byts (pack z0))
    have heq := text_same (bs (pack z0))
    rw [HV.out]
    obtain ⟨S, hS⟩ : ∃ S, pack z0 = S := ⟨_, rfl⟩
    rw [hS] at HBV HUV HTV hbl hpad hpm s1 s2 heq hpb
    rw [hS]
    obtain ⟨B, hB⟩ : ∃ B, byts S = B := ⟨_, rfl⟩
    rw [hB] at HBV HUV hbl s2
    obtain ⟨n, hn⟩ : ∃ n, S.length = n := ⟨_, rfl⟩
    obtain ⟨m, hm⟩ : ∃ m, B.length = m := ⟨_, rfl⟩
    rw [hn] at s1 hbl hpad hpm hpb
    rw [hm] at s2 hbl
    generalize pad n = q at *
    have hm8 : 8 * m = n + 1 + q := by omega
    have hgt : n < 8 * m := by omega
    have hle : 8 * m ≤ n + 8 := by omega
    have hn2 : n ≤ 18600 := by omega
    have HSL : Hid (S.length ≤ 18600) := by show S.length ≤ 18600; omega
    have HBL : Hid (B.length ≤ 18600) := by show B.length ≤ 18600; omega
    have g1 : decide ((n : Int) < 8 * (m : Int)) = true := by rw [decide_eq_true_iff]; omega
    have g2 : decide (8 * (m : Int) ≤ (n : Int) + 8) = true := by rw [decide_eq_true_iff]; omega
    have hm2 : m ≤ 18600 := by omega
    clear hx hg hfew hpb hib hbl hpad hpm hS hB hn hm hm8
    go_wp2_with fail
    refine (bytesP_any S _ (by have := HSL.out; omega)).mono ?_
    rintro e w4 ⟨rfl, u4⟩
    have U4 := U3.trans u4
    rw [HBV.out]
    clear u4 U3
    go_wp2_with fail
    refine (unbytesP_any B _ (by have := HBL.out; omega) (hT.up U4)).mono ?_
    rintro e w5 ⟨rfl, u5⟩
    have U5 := U4.trans u5
    rw [HUV.out]
    clear u5 U4
    go_wp2_with fail
    refine (tokens_any S _ (by have := HSL.out; omega)).mono ?_
    rintro e w6 ⟨v, rfl, hv, u6⟩
    rw [HTV.out] at hv ⊢
    have U6 := U5.trans u6
    have HV6 := Lib.hid hv.toks
    obtain ⟨oo, co, hshape, _⟩ := hv.toks
    subst hshape
    clear u6 U5 hv
    go_wp2_with fail
    refine (equalT_yes _ _ z0 _ HV6.out (HX.out.up U6)).mono ?_
    rintro e w7 ⟨rfl, u7⟩
    go_wp2
    go_ret
    exact ⟨rfl, U6.trans u7⟩
  · have HV : Hid (bitsV z0 = .tuple #[.string ⟨#[]⟩, .int .i64 (exp [] z0).1]) := by
      show _ = _
      unfold bitsV
      rw [if_neg hx]
      rfl
    rw [HV.out]
    obtain ⟨E, hE⟩ : ∃ E, (exp [] z0).1 = E := ⟨_, rfl⟩
    rw [hE] at hx
    rw [hE]
    have hx1 : (E != 0) = true := by rw [bne_iff_ne]; exact hx
    clear hE hx HV
    go_wp2
    go_ret
    exact ⟨rfl, U3⟩

end Go.Proofs.YtjbedphofjdfkaaDoor
