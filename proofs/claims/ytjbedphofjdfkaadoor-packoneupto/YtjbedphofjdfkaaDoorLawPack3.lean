/-
  The walk of the law PackOne. Conditions: texts of at most 1048576 bytes; one cell of the table deBruijn64tab.
-/
import Derived.Test.YtjbedphofjdfkaaDoorLawPack2
namespace Go.Proofs.YtjbedphofjdfkaaDoor
open Go.RowKit
open Go.Proofs
open WoolLz WoolPack

theorem one_list : pack [⟨0, 0, 97⟩] = [48, 48, 49, 49, 48, 48, 48, 48, 49] := bs_inj one_bits

theorem one_toks : toks [48, 48, 49, 49, 48, 48, 48, 48, 49] = ([⟨0, 0, 97⟩], 0) := by
  rw [← one_list]
  exact toks_pack _ (by decide +kernel)

theorem one_unb : unbV [128] = .tuple #[.string ⟨#[]⟩, .int .i64 0] := by
  unfold unbV
  rw [show ([128] : List UInt8) = byts [] by decide +kernel, unb_byts [] rfl]
  rfl

theorem toks_ok (s : List UInt8) (h : (toks s).2 = 0) : WoolBits.isB s = true ∧ (exp [] (toks s).1).1 = 0 ∧ pack (toks s).1 = s := by
  unfold toks at h ⊢
  by_cases h1 : WoolBits.isB s = false
  · rw [if_pos h1] at h; cases h
  · rw [if_neg h1] at h ⊢
    have hb : WoolBits.isB s = true := by simpa using h1
    by_cases h2 : (rall s).2 = 0
    · have e2 : ¬ (rall s).2 ≠ 0 := fun k => k h2
      rw [if_neg e2] at h ⊢
      by_cases h3 : (exp [] (rall s).1).1 = 0
      · have e3 : ¬ (exp [] (rall s).1).1 ≠ 0 := fun k => k h3
        rw [if_neg e3]
        exact ⟨hb, h3, pack_rall _ s (Nat.le_refl _) hb h2⟩
      · rw [if_pos h3] at h; exact absurd h h3
    · rw [if_pos h2] at h
      exact absurd (Int.ofNat.inj h) h2

set_option maxRecDepth 100000 in
set_option maxHeartbeats 2000000 in
theorem packOne_bad (s b : List UInt8) (w : World) (hs : s.length ≤ 1048576) (hb : b.length ≤ 17592186040320) (hT : Tab w) (hn : b.getLast? = none ∨ b.getLast? = some 0) :
    Calls Tryd.prog 9 #[.string (bs s), .string (bs b)] w fun e w' => e = .returned (.bool true) ∧ Up w w' := by
  have HUV : Hid (unbV b = .tuple #[.string ⟨#[]⟩, .int .i64 3]) := by
    show _ = _
    unfold unbV unb
    rw [if_pos hn]
    rfl
  clear hn
  go_enter Tryd.func9, Tryd.ntmps9
  go_wp2_with fail
  rw [show (⟨#[48, 48, 49, 49, 48, 48, 48, 48, 49]⟩ : ByteArray) = bs [48, 48, 49, 49, 48, 48, 48, 48, 49] from rfl]
  refine (tokens_any [48, 48, 49, 49, 48, 48, 48, 48, 49] _ (by simp)).mono ?_
  rintro e w1 ⟨v, rfl, hv, u1⟩
  rw [one_toks] at hv ⊢
  have HV1 := Lib.hid (hv.toks.up (Up.alloc w1 (.cells (tokL [⟨0, 0, 97⟩]).toArray 36)))
  have HL1 := Lib.hid (Toks.laid w1 [⟨0, 0, 97⟩] (by simp))
  obtain ⟨oo, co, hshape, _⟩ := hv.toks
  subst hshape
  clear hv
  go_wp2_with fail
  refine (equalT_yes _ _ [⟨0, 0, 97⟩] _ HV1.out HL1.out).mono ?_
  rintro e w2 ⟨rfl, u2⟩
  have U2 := u1.trans (Up.after _ _ _ u2)
  clear u1 u2 HV1 HL1
  go_wp2_with fail
  rw [show (⟨#[128]⟩ : ByteArray) = bs [128] from rfl]
  refine (unbytesP_any [128] _ (by simp) (hT.up U2)).mono ?_
  rintro e w3 ⟨rfl, u3⟩
  rw [one_unb]
  have U3 := U2.trans u3
  clear u3 U2
  go_wp2_with fail
  refine (tokens_any s _ (by omega)).mono ?_
  rintro e w4 ⟨v2, rfl, hv2, u4⟩
  have U4 := U3.trans u4
  clear u4 U3
  by_cases hx : (toks s).2 = 0
  · obtain ⟨t1, t2, t3⟩ := toks_ok s hx
    have HBT : Hid (bitsV (toks s).1 = .tuple #[.string (bs s), .int .i64 0]) := by
      show _ = _
      unfold bitsV
      rw [if_pos t2, t2, t3]
    rw [hx]
    have HT2 := Lib.hid hv2.toks
    obtain ⟨o2, c2, hshape2, _⟩ := hv2.toks
    subst hshape2
    have heq2 := text_same (bs s)
    clear hx t1 t2 t3 hv2
    go_wp2_with fail
    refine (bits_any _ _ _ HT2.out (hT.up U4)).mono ?_
    rintro e w5 ⟨rfl, u5⟩
    rw [HBT.out]
    have U := U4.trans u5
    clear u5 U4
    go_wp2_with fail
    refine (unbytesP_any b _ hb (hT.up U)).mono ?_
    rintro e w9 ⟨rfl, u9⟩
    rw [HUV.out]
    go_wp2
    go_ret
    exact ⟨rfl, U.trans u9⟩
  · obtain ⟨E, hE⟩ : ∃ E, (toks s).2 = E := ⟨_, rfl⟩
    rw [hE] at hx
    rw [hE]
    have hx1 : (E == 0) = false := by rw [beq_eq_false_iff_ne]; exact hx
    have U := U4
    obtain ⟨o2, c2, hshape2, _⟩ := hv2.toks
    subst hshape2
    clear hE hx hv2 U4
    go_wp2_with fail
    refine (unbytesP_any b _ hb (hT.up U)).mono ?_
    rintro e w9 ⟨rfl, u9⟩
    rw [HUV.out]
    go_wp2
    go_ret
    exact ⟨rfl, U.trans u9⟩

set_option maxRecDepth 100000 in
set_option maxHeartbeats 2000000 in
theorem packOne_good (s b : List UInt8) (w : World) (hs : s.length ≤ 1048576) (hb : b.length ≤ 17592186040320) (hT : Tab w) (hn : ¬ (b.getLast? = none ∨ b.getLast? = some 0)) :
    Calls Tryd.prog 9 #[.string (bs s), .string (bs b)] w fun e w' => e = .returned (.bool true) ∧ Up w w' := by
  have hu : unb b = (ul (al b), 0) := by unfold unb; rw [if_neg hn]
  obtain ⟨P, hP⟩ : ∃ P, ul (al b) = P := ⟨_, rfl⟩
  rw [hP] at hu
  have HUV : Hid (unbV b = .tuple #[.string (bs P), .int .i64 0]) := by
    show _ = _
    unfold unbV
    rw [hu]
    rfl
  obtain ⟨k1, k2⟩ := byts_unb b (by rw [hu])
  rw [hu] at k1 k2
  have k1 : byts P = b := k1
  have k2 : WoolBits.isB P = true := k2
  have HBV : Hid (bytesV P = .tuple #[.string (bs b), .int .i64 0]) := by
    show _ = _
    unfold bytesV
    rw [if_pos k2, if_pos k2, k1]
  have HPL : Hid (P.length ≤ 140737488351232) := by
    show P.length ≤ 140737488351232
    have := byts_length P
    rw [k1] at this
    have := pad_mod P.length
    omega
  have heq := text_same (bs b)
  clear hn hu hP k1 k2
  go_enter Tryd.func9, Tryd.ntmps9
  go_wp2_with fail
  rw [show (⟨#[48, 48, 49, 49, 48, 48, 48, 48, 49]⟩ : ByteArray) = bs [48, 48, 49, 49, 48, 48, 48, 48, 49] from rfl]
  refine (tokens_any [48, 48, 49, 49, 48, 48, 48, 48, 49] _ (by simp)).mono ?_
  rintro e w1 ⟨v, rfl, hv, u1⟩
  rw [one_toks] at hv ⊢
  have HV1 := Lib.hid (hv.toks.up (Up.alloc w1 (.cells (tokL [⟨0, 0, 97⟩]).toArray 36)))
  have HL1 := Lib.hid (Toks.laid w1 [⟨0, 0, 97⟩] (by simp))
  obtain ⟨oo, co, hshape, _⟩ := hv.toks
  subst hshape
  clear hv
  go_wp2_with fail
  refine (equalT_yes _ _ [⟨0, 0, 97⟩] _ HV1.out HL1.out).mono ?_
  rintro e w2 ⟨rfl, u2⟩
  have U2 := u1.trans (Up.after _ _ _ u2)
  clear u1 u2 HV1 HL1
  go_wp2_with fail
  rw [show (⟨#[128]⟩ : ByteArray) = bs [128] from rfl]
  refine (unbytesP_any [128] _ (by simp) (hT.up U2)).mono ?_
  rintro e w3 ⟨rfl, u3⟩
  rw [one_unb]
  have U3 := U2.trans u3
  clear u3 U2
  go_wp2_with fail
  refine (tokens_any s _ (by omega)).mono ?_
  rintro e w4 ⟨v2, rfl, hv2, u4⟩
  have U4 := U3.trans u4
  clear u4 U3
  by_cases hx : (toks s).2 = 0
  · obtain ⟨t1, t2, t3⟩ := toks_ok s hx
    have HBT : Hid (bitsV (toks s).1 = .tuple #[.string (bs s), .int .i64 0]) := by
      show _ = _
      unfold bitsV
      rw [if_pos t2, t2, t3]
    rw [hx]
    have HT2 := Lib.hid hv2.toks
    obtain ⟨o2, c2, hshape2, _⟩ := hv2.toks
    subst hshape2
    have heq2 := text_same (bs s)
    clear hx t1 t2 t3 hv2
    go_wp2_with fail
    refine (bits_any _ _ _ HT2.out (hT.up U4)).mono ?_
    rintro e w5 ⟨rfl, u5⟩
    rw [HBT.out]
    have U := U4.trans u5
    clear u5 U4
    go_wp2_with fail
    refine (unbytesP_any b _ hb (hT.up U)).mono ?_
    rintro e w9 ⟨rfl, u9⟩
    rw [HUV.out]
    have U9 := U.trans u9
    clear u9
    go_wp2_with fail
    refine (bytesP_any P _ HPL.out).mono ?_
    rintro e w10 ⟨rfl, u10⟩
    rw [HBV.out]
    go_wp2
    go_ret
    exact ⟨rfl, U9.trans u10⟩
  · obtain ⟨E, hE⟩ : ∃ E, (toks s).2 = E := ⟨_, rfl⟩
    rw [hE] at hx
    rw [hE]
    have hx1 : (E == 0) = false := by rw [beq_eq_false_iff_ne]; exact hx
    have U := U4
    obtain ⟨o2, c2, hshape2, _⟩ := hv2.toks
    subst hshape2
    clear hE hx hv2 U4
    go_wp2_with fail
    refine (unbytesP_any b _ hb (hT.up U)).mono ?_
    rintro e w9 ⟨rfl, u9⟩
    rw [HUV.out]
    have U9 := U.trans u9
    clear u9
    go_wp2_with fail
    refine (bytesP_any P _ HPL.out).mono ?_
    rintro e w10 ⟨rfl, u10⟩
    rw [HBV.out]
    go_wp2
    go_ret
    exact ⟨rfl, U9.trans u10⟩

theorem packOne_walk (a0 a1 : ByteArray) (w : World) (w0 : a0.size ≤ 1048576) (w1 : a1.size ≤ 1048576) (hT : Tab w) :
    Calls Tryd.prog 9 #[.string a0, .string a1] w fun e w' => e = .returned (.bool true) ∧ Up w w' := by
  rw [← bs_of a0, ← bs_of a1]
  by_cases hn : a1.data.toList.getLast? = none ∨ a1.data.toList.getLast? = some 0
  · exact packOne_bad _ _ w (by rw [ba_length]; exact w0) (by rw [ba_length]; omega) hT hn
  · exact packOne_good _ _ w (by rw [ba_length]; exact w0) (by rw [ba_length]; omega) hT hn

end Go.Proofs.YtjbedphofjdfkaaDoor
