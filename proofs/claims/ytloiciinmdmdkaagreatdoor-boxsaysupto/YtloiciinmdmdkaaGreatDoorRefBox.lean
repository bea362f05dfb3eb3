/-
  What the reference's Shut and Open return. Conditions: a text of at most 600 bytes (Shut), of at most 1048577 bytes (Open).
-/
import Derived.Test.YtloiciinmdmdkaaGreatDoorBox2
import Derived.Test.YtloiciinmdmdkaaGreatDoorRefLz
import Derived.Test.YtloiciinmdmdkaaGreatDoorRefPack2
import Derived.Test.YtloiciinmdmdkaaGreatDoorRefPack4
namespace Go.Proofs.YtloiciinmdmdkaaGreatDoor
open Go.RowKit
open Go.Proofs
open WoolLz WoolPack WoolBox

/-- what may be meant by a box -/
def rmid (b : List UInt8) : List UInt8 := if b.head? = some 1 then (exp [] (toksM (unb (b.drop 1)).1).1).2 else b.drop 1

theorem rmid_shut (s : List UInt8) (h : s.length ≤ 600) : rmid (shut s) = s := by
  have hp := par_good s h
  have h0 : (exp [] (par s 256 0)).1 = 0 := by rw [hp]
  unfold shut
  split
  · unfold rmid
    rw [if_pos (by simp), List.drop_one, List.tail_cons]
    unfold shv
    rw [unb_byts _ (isB_pack _), toks_pack _ h0, hp]
  · unfold rmid
    rw [if_neg (by simp), List.drop_one, List.tail_cons]

theorem open_mid (b : List UInt8) : openV b = if 600 < (rmid b).length then ([], 3) else if shut (rmid b) = b then (rmid b, 0) else ([], 3) := by
  by_cases h1 : (openV b).2 = 0
  · obtain ⟨h2, h3⟩ := open_ok b h1
    have h4 : rmid b = (openV b).1 := by
      have := rmid_shut (openV b).1 h3
      rwa [h2] at this
    rw [h4, if_neg (by omega), if_pos h2]
    exact Prod.ext rfl h1
  · rw [open_err b h1]
    split
    · rfl
    · rename_i h2
      split
      · rename_i h3
        have := open_shut (rmid b) (by omega)
        rw [h3] at this
        rw [this] at h1
        exact absurd rfl h1
      · rfl

set_option maxRecDepth 100000 in
set_option maxHeartbeats 400000 in
theorem rShut_any (s : List UInt8) (w : World) (hs : s.length ≤ 600) :
    Calls Tryz.prog 6 #[.string (bs s)] w fun e w' => e = .returned (.string (bs (shut s))) ∧ Up w w' := by
  have hsz := bs_size s
  have hsz2 := bs_size (shv s)
  have hbl := pack_par_len s hs
  have hshl := shv_len s
  have HP := Lib.hid (refParse_any (bs s) 256 w (by rw [hsz]; exact hs) (by omega) (by omega))
  have HL := Lib.hid (show (bs s).data.toList = s from bs_list s)
  have HX : Hid ((exp [] (par s 256 0)).1 = 0) := by show _ = _; rw [par_good s hs]
  have HB := Lib.hid (WoolPack.isB_pack (par s 256 0))
  have hadd1 := add_bs [1] (shv s) (by rw [hshl]; simp; omega)
  have hadd0 := add_bs [0] s (by simp; omega)
  rw [List.singleton_append] at hadd1 hadd0
  have HS1 : Hid ((shv s).length < s.length → shut s = 1 :: shv s) := fun h => by unfold shut; rw [if_pos h]
  have HS0 : Hid (¬ (shv s).length < s.length → shut s = 0 :: s) := fun h => by unfold shut; rw [if_neg h]
  have HPL : Hid ((pack (par s 256 0)).length ≤ 140737488351232) := by show (pack (par s 256 0)).length ≤ 140737488351232; omega
  have HY := Lib.hid (show byts (pack (par s 256 0)) = shv s from rfl)
  obtain ⟨n, hn⟩ : ∃ n, s.length = n := ⟨_, rfl⟩
  obtain ⟨m, hm⟩ : ∃ m, (shv s).length = m := ⟨_, rfl⟩
  rw [hn] at hsz hs HS1 HS0
  rw [hm] at hsz2 hshl HS1 HS0
  have hm2 : m ≤ 3000 := by omega
  clear hbl hshl hn hm
  go_enter Tryz.func6, Tryz.ntmps6
  go_wp2_with fail
  refine HP.out.mono ?_
  rintro e w1 ⟨v, rfl, hot, u1⟩
  rw [HL.out] at hot
  have HO := Lib.hid (OToks.toks hot)
  clear hot
  go_wp2_with fail
  refine (rPack_any v (par s 256 0) _ HO.out HX.out).mono ?_
  rintro e w2 ⟨rfl, u2⟩
  go_wp2_with fail
  refine (rBytes_any (pack (par s 256 0)) _ HPL.out HB.out).mono ?_
  rintro e w3 ⟨rfl, u3⟩
  rw [HY.out]
  by_cases hlt : m < n
  · rw [show (bs [1] : ByteArray) = ⟨#[1]⟩ from rfl] at hadd1
    go_wp2_with fail
    go_ret
    exact ⟨by rw [HS1.out hlt]; rfl, u1.trans (u2.trans u3)⟩
  · rw [show (bs [0] : ByteArray) = ⟨#[0]⟩ from rfl] at hadd0
    go_wp2_with fail
    go_ret
    exact ⟨by rw [HS0.out hlt]; rfl, u1.trans (u2.trans u3)⟩

/-- the last steps of Open: what may be meant is S -/
def LastV (S b : List UInt8) : List UInt8 × Nat := if 600 < S.length then ([], 3) else if shut S = b then (S, 0) else ([], 3)

theorem shut_plain0 : shut [] = [0] := by
  unfold shut
  rw [if_neg (by simp)]

theorem exp_short (l : List Tok) : (exp [] l).2.length ≤ 600 := by
  by_cases h : (exp [] l).1 = 0
  · exact exp_600 l [] (by simp) h
  · rw [exp_bad l [] h]; simp

set_option maxRecDepth 100000 in
set_option maxHeartbeats 400000 in
theorem rOpen_any (b : List UInt8) (w : World) (hl : b.length ≤ 1048577) :
    Calls Tryz.prog 8 #[.string (bs b)] w fun e w' => e = .returned (openR b) ∧ Up w w' := by
  have hsz := bs_size b
  have HV : Hid (openR b = .tuple #[.string (bs (LastV (rmid b) b).1), .int .i64 (((LastV (rmid b) b).2 : Nat) : Int)]) := by
    show _ = _
    unfold openR
    rw [open_mid]
    rfl
  by_cases h0 : b = []
  · subst h0
    have hm : LastV (rmid []) [] = ([], 3) := by
      unfold LastV
      rw [show rmid [] = [] from rfl, if_neg (by simp), shut_plain0, if_neg (by simp)]
    rw [hm] at HV
    have HS : Hid (shut [] = [0]) := shut_plain0
    rw [show (bs [] : ByteArray) = ⟨#[]⟩ from rfl] at *
    clear hm hsz hl
    go_enter Tryz.func8, Tryz.ntmps8
    go_wp2_with fail
    refine (rShut_any [] _ (by simp)).mono ?_
    rintro e w1 ⟨rfl, u1⟩
    rw [HS.out, show (bs [0] : ByteArray) = ⟨#[0]⟩ from rfl]
    go_wp2_with fail
    go_ret2
    exact ⟨by rw [HV.out]; rfl, u1⟩
  have hpos : 0 < b.length := List.length_pos_iff.2 h0
  have hne := not_empty b hpos
  have hi := index_bs b 0 hpos
  rw [show ((0 : Nat) : Int) = 0 from rfl] at hi
  have hfr := from_bs b 1 1 rfl hpos
  have hdl : (b.drop 1).length ≤ 1048576 := by rw [List.length_drop]; omega
  have hhd : b.head? = some b[0] := by
    cases b with
    | nil => simp at hpos
    | cons x r => rfl
  by_cases h1 : b.head? = some 1
  · have hb1 : b[0].toNat = 1 := by rw [h1] at hhd; simp at hhd; rw [← hhd]; rfl
    rw [hb1, show ((1 : Nat) : Int) = 1 from rfl] at hi
    have hmid : rmid b = (exp [] (toksM (unb (b.drop 1)).1).1).2 := by unfold rmid; rw [if_pos h1]
    rw [hmid] at HV
    have hul := unb_len (b.drop 1)
    obtain ⟨D, hD⟩ : ∃ D, b.drop 1 = D := ⟨_, rfl⟩
    rw [hD] at HV hfr hdl hul
    have HD : Hid (D.length ≤ 17592186040320) := by show D.length ≤ 17592186040320; omega
    have HU := Lib.hid (show unbV D = .tuple #[.string (bs (unb D).1), .int .i64 (((unb D).2 : Nat) : Int)] from rfl)
    obtain ⟨X, hX⟩ : ∃ X, (unb D).1 = X := ⟨_, rfl⟩
    obtain ⟨Y, hY⟩ : ∃ Y, (unb D).2 = Y := ⟨_, rfl⟩
    rw [hX] at HV HU hul
    rw [hY] at HU
    have HX : Hid (X.length ≤ 4000000000000) := by show X.length ≤ 4000000000000; omega
    obtain ⟨l, hL⟩ : ∃ l, (toksM X).1 = l := ⟨_, rfl⟩
    obtain ⟨E, hE⟩ : ∃ E, (toksM X).2 = E := ⟨_, rfl⟩
    rw [hL] at HV
    have hsh := exp_short l
    obtain ⟨S, hS⟩ : ∃ S, (exp [] l).2 = S := ⟨_, rfl⟩
    obtain ⟨G, hG⟩ : ∃ G, (exp [] l).1 = G := ⟨_, rfl⟩
    rw [hS] at HV hsh
    have HL := Lib.hid hL
    have HE := Lib.hid hE
    have HS := Lib.hid hS
    have HG := Lib.hid hG
    have HSL := Lib.hid hsh
    have hS2 := bs_size S
    obtain ⟨n, hn⟩ : ∃ n, S.length = n := ⟨_, rfl⟩
    rw [hn] at hS2 hsh
    by_cases h3 : shut S = b
    · have hlv : LastV S b = (S, 0) := by unfold LastV; rw [if_neg (by omega), if_pos h3]
      rw [hlv] at HV
      have H3 := Lib.hid h3
      clear hlv h3 hL hE hS hG hX hY hD hmid h1 hhd hb1 hul hdl hn h0 hl
      go_enter Tryz.func8, Tryz.ntmps8
      go_wp2_with fail
      refine (rUnbytes_any D _ HD.out).mono ?_
      rintro e w1 ⟨rfl, u1⟩
      rw [HU.out]
      go_wp2_with fail
      refine (rTokens_any X _ HX.out).mono ?_
      rintro e w2 ⟨v, rfl, hot, u2⟩
      rw [toks_eq, HL.out] at hot
      rw [toks_eq, HE.out]
      have HO := Lib.hid (OToks.toks hot)
      clear hot
      go_wp2_with fail
      refine (refExpand_any v l _ HO.out).mono ?_
      rintro e w3 ⟨rfl, u3⟩
      rw [HS.out, HG.out, show (⟨S.toArray⟩ : ByteArray) = bs S from rfl]
      go_wp2_with fail
      refine (rShut_any S _ HSL.out).mono ?_
      rintro e w4 ⟨rfl, u4⟩
      rw [H3.out]
      go_wp2_with fail
      go_ret2
      exact ⟨by rw [HV.out]; rfl, u1.trans (u2.trans (u3.trans u4))⟩
    · have hlv : LastV S b = ([], 3) := by unfold LastV; rw [if_neg (by omega), if_neg h3]
      rw [hlv] at HV
      have f1 : ((bs (shut S)).toList == (bs b).toList) = false := by
        rw [ByteArray.toList_eq, ByteArray.toList_eq, bs_list, bs_list]
        simpa using h3
      obtain ⟨Z, hZ⟩ : ∃ Z, shut S = Z := ⟨_, rfl⟩
      rw [hZ] at f1
      have HZ := Lib.hid hZ
      clear hlv h3 hL hE hS hG hX hY hD hmid h1 hhd hb1 hul hdl hn hZ h0 hl
      go_enter Tryz.func8, Tryz.ntmps8
      go_wp2_with fail
      refine (rUnbytes_any D _ HD.out).mono ?_
      rintro e w1 ⟨rfl, u1⟩
      rw [HU.out]
      go_wp2_with fail
      refine (rTokens_any X _ HX.out).mono ?_
      rintro e w2 ⟨v, rfl, hot, u2⟩
      rw [toks_eq, HL.out] at hot
      rw [toks_eq, HE.out]
      have HO := Lib.hid (OToks.toks hot)
      clear hot
      go_wp2_with fail
      refine (refExpand_any v l _ HO.out).mono ?_
      rintro e w3 ⟨rfl, u3⟩
      rw [HS.out, HG.out, show (⟨S.toArray⟩ : ByteArray) = bs S from rfl]
      go_wp2_with fail
      refine (rShut_any S _ HSL.out).mono ?_
      rintro e w4 ⟨rfl, u4⟩
      rw [HZ.out]
      go_wp2_with fail
      go_ret2
      exact ⟨by rw [HV.out]; rfl, u1.trans (u2.trans (u3.trans u4))⟩
  · have hb1 : (((b[0].toNat : Nat) : Int) == 1) = false := by
      rw [beq_eq_false_iff_ne]
      intro h
      apply h1
      rw [hhd]
      congr 1
      exact UInt8.toNat_inj.1 (by show b[0].toNat = 1; omega)
    have hmid : rmid b = b.drop 1 := by unfold rmid; rw [if_neg h1]
    rw [hmid] at HV
    obtain ⟨x, hx⟩ : ∃ x, b[0].toNat = x := ⟨_, rfl⟩
    rw [hx] at hi hb1
    obtain ⟨S, hD⟩ : ∃ D, b.drop 1 = D := ⟨_, rfl⟩
    rw [hD] at HV hfr
    have hS2 := bs_size S
    by_cases h2 : 600 < S.length
    · have hlv : LastV S b = ([], 3) := by unfold LastV; rw [if_pos h2]
      rw [hlv] at HV
      obtain ⟨n, hn⟩ : ∃ n, S.length = n := ⟨_, rfl⟩
      rw [hn] at hS2 h2
      clear hlv hD hmid h1 hhd hdl hn h0 hl hx
      go_enter Tryz.func8, Tryz.ntmps8
      go_wp2_with fail
      go_ret2
      exact ⟨by rw [HV.out]; rfl, Up.refl _⟩
    · have HSL : Hid (S.length ≤ 600) := by show S.length ≤ 600; omega
      by_cases h3 : shut S = b
      · have hlv : LastV S b = (S, 0) := by unfold LastV; rw [if_neg h2, if_pos h3]
        rw [hlv] at HV
        have H3 := Lib.hid h3
        obtain ⟨n, hn⟩ : ∃ n, S.length = n := ⟨_, rfl⟩
        rw [hn] at hS2 h2
        clear hlv hD hmid h1 hhd hdl hn h3 h0 hl hx
        go_enter Tryz.func8, Tryz.ntmps8
        go_wp2_with fail
        refine (rShut_any S _ HSL.out).mono ?_
        rintro e w4 ⟨rfl, u4⟩
        rw [H3.out]
        go_wp2_with fail
        go_ret2
        exact ⟨by rw [HV.out]; rfl, u4⟩
      · have hlv : LastV S b = ([], 3) := by unfold LastV; rw [if_neg h2, if_neg h3]
        rw [hlv] at HV
        have f1 : ((bs (shut S)).toList == (bs b).toList) = false := by
          rw [ByteArray.toList_eq, ByteArray.toList_eq, bs_list, bs_list]
          simpa using h3
        obtain ⟨Z, hZ⟩ : ∃ Z, shut S = Z := ⟨_, rfl⟩
        rw [hZ] at f1
        have HZ := Lib.hid hZ
        obtain ⟨n, hn⟩ : ∃ n, S.length = n := ⟨_, rfl⟩
        rw [hn] at hS2 h2
        clear hlv hD hmid h1 hhd hdl hn h3 hZ h0 hl hx
        go_enter Tryz.func8, Tryz.ntmps8
        go_wp2_with fail
        refine (rShut_any S _ HSL.out).mono ?_
        rintro e w4 ⟨rfl, u4⟩
        rw [HZ.out]
        go_wp2_with fail
        go_ret2
        exact ⟨by rw [HV.out]; rfl, u4⟩

end Go.Proofs.YtloiciinmdmdkaaGreatDoor
