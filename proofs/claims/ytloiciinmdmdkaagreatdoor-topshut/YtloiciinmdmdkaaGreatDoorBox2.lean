/-
  What box's unpack, read and Open return. Conditions: one cell of the table deBruijn64tab (Tab); a text of at most 2^48 bytes.
-/
import Derived.Test.YtloiciinmdmdkaaGreatDoorBox1
namespace Go.Proofs.YtloiciinmdmdkaaGreatDoor
open Go.RowKit
open Go.Proofs
open WoolLz WoolPack WoolBox

theorem unb_len (t : List UInt8) : (unb t).1.length ≤ 8 * t.length := by
  unfold unb
  split
  · simp
  · show (ul (al t)).length ≤ _
    unfold ul
    rw [List.length_reverse, List.length_drop]
    have h1 := (List.dropWhile_sublist (· == (48 : UInt8)) (l := (al t).reverse)).length_le
    rw [List.length_reverse, al_length] at h1
    omega

theorem toks_eq (s : List UInt8) : toks s = toksM s := rfl

/-- tokens that were read can be expanded -/
theorem toks_exp (s : List UInt8) (h : (toksM s).2 = 0) : (exp [] (toksM s).1).1 = 0 := by
  unfold toksM at h ⊢
  split
  · rename_i h1; rw [if_pos h1] at h; simp at h
  · rename_i h1
    rw [if_neg h1] at h
    split
    · rename_i h2; rw [if_pos h2] at h; simp at h; omega
    · rename_i h2
      rw [if_neg h2] at h
      split
      · rename_i h3; rw [if_pos h3] at h; exact absurd h h3
      · rename_i h3; simpa using h3

set_option maxRecDepth 100000 in
set_option maxHeartbeats 400000 in
theorem unpack_any (t : List UInt8) (w : World) (hl : t.length ≤ 601) (hT : Tab w) :
    Calls Tryz.prog 41 #[.string (bs t)] w fun e w' => e = .returned (.tuple #[.string (bs (unpk t).1), .int .i64 (unpk t).2]) ∧ Up w w' := by
  have hul := unb_len t
  have HU := Lib.hid (unbytesP_any t w (by omega) hT)
  have HV := Lib.hid (show unbV t = .tuple #[.string (bs (unb t).1), .int .i64 (((unb t).2 : Nat) : Int)] from rfl)
  by_cases h1 : (unb t).2 = 0
  · have HL : Hid ((unb t).1.length ≤ 4000000000000) := by show (unb t).1.length ≤ 4000000000000; omega
    rw [h1] at HV
    by_cases h2 : (toksM (unb t).1).2 = 0
    · have HR : Hid (unpk t = ((exp [] (toksM (unb t).1).1).2, 0)) := by
        show _ = _
        unfold unpk
        rw [if_neg (by simpa using h1), if_neg (by simpa using h2)]
      have HX := Lib.hid (toks_exp _ h2)
      have HT2 := Lib.hid h2
      clear h1 h2 hul hl
      go_enter Tryz.func41, Tryz.ntmps41
      go_wp2_with fail
      refine HU.out.mono ?_
      rintro e w1 ⟨rfl, u1⟩
      rw [HV.out]
      go_wp2_with fail
      refine (tokens_any (unb t).1 _ HL.out).mono ?_
      rintro e w2 ⟨v, rfl, hot, u2⟩
      rw [toks_eq] at hot ⊢
      have HO := Lib.hid (OToks.toks hot)
      clear hot
      rw [HT2.out]
      go_wp2_with fail
      refine (expand_any v (toksM (unb t).1).1 _ HO.out).mono ?_
      rintro e w3 ⟨rfl, u3⟩
      rw [HX.out]
      go_wp2_with fail
      go_ret2
      exact ⟨by rw [HR.out]; rfl, u1.trans (u2.trans u3)⟩
    · have HR : Hid (unpk t = ([], (toksM (unb t).1).2)) := by
        show _ = _
        unfold unpk
        rw [if_neg (by simpa using h1), if_pos h2]
      obtain ⟨E, hE⟩ : ∃ E, (toksM (unb t).1).2 = E := ⟨_, rfl⟩
      rw [hE] at h2 HR
      have HE := Lib.hid hE
      have d1 : (E != 0) = true := by simpa using h2
      have d2 : (E == 0) = false := by simpa using h2
      clear h1 h2 hul hl hE
      go_enter Tryz.func41, Tryz.ntmps41
      go_wp2_with fail
      refine HU.out.mono ?_
      rintro e w1 ⟨rfl, u1⟩
      rw [HV.out]
      go_wp2_with fail
      refine (tokens_any (unb t).1 _ HL.out).mono ?_
      rintro e w2 ⟨v, rfl, hot, u2⟩
      rw [toks_eq, HE.out]
      clear hot
      go_wp2_with fail
      go_ret2
      exact ⟨by rw [HR.out]; rfl, u1.trans u2⟩
  · have HR : Hid (unpk t = ([], ((unb t).2 : Int))) := by
      show _ = _
      unfold unpk
      rw [if_pos h1]
    obtain ⟨E, hE⟩ : ∃ E, (unb t).2 = E := ⟨_, rfl⟩
    rw [hE] at h1 HR HV
    have d1 : ((E : Int) != 0) = true := by simp; omega
    have d2 : ((E : Int) == 0) = false := by simp; omega
    clear h1 hul hl hE
    go_enter Tryz.func41, Tryz.ntmps41
    go_wp2_with fail
    refine HU.out.mono ?_
    rintro e w1 ⟨rfl, u1⟩
    rw [HV.out]
    go_wp2_with fail
    go_ret2
    exact ⟨by rw [HR.out]; rfl, u1⟩

theorem pre_one (b : List UInt8) (c : UInt8) : Lib.hasPrefix b [c] = decide (b.head? = some c) := by
  unfold Lib.hasPrefix
  cases b with
  | nil => simp
  | cons x r =>
    simp [List.isPrefixOf]
    rw [Bool.eq_iff_iff, beq_iff_eq, decide_eq_true_iff]
    exact eq_comm

theorem trim_one (b : List UInt8) (c : UInt8) (h : b.head? = some c) : Lib.trimPrefix b [c] = b.drop 1 := by
  unfold Lib.trimPrefix
  rw [pre_one, decide_eq_true h]
  rfl

set_option maxRecDepth 100000 in
set_option maxHeartbeats 400000 in
theorem read_any (b : List UInt8) (w : World) (hT : Tab w) :
    Calls Tryz.prog 19 #[.string (bs b)] w fun e w' => e = .returned (.tuple #[.string (bs (readV b).1), .int .i64 (readV b).2]) ∧ Up w w' := by
  have hsz := bs_size b
  have HL := Lib.hid (show (bs b).data.toList = b from bs_list b)
  by_cases h1 : 601 < b.length
  · have HR : Hid (readV b = ([], 3)) := by
      show _ = _
      unfold readV
      rw [if_pos h1]
    obtain ⟨n, hn⟩ : ∃ n, b.length = n := ⟨_, rfl⟩
    rw [hn] at hsz h1
    clear hn
    go_enter Tryz.func19, Tryz.ntmps19
    go_wp2_with fail
    go_ret2
    exact ⟨by rw [HR.out]; rfl, Up.refl _⟩
  · have hdl : (b.drop 1).length ≤ 601 := by rw [List.length_drop]; omega
    have HDS : Hid ((bs (b.drop 1)).size ≤ 1000) := by show (bs (b.drop 1)).size ≤ 1000; rw [bs_size]; omega
    have HDL := Lib.hid hdl
    by_cases h2 : b.head? = some 0
    · have HR : Hid (readV b = (b.drop 1, 0)) := by
        show _ = _
        unfold readV
        rw [if_neg h1, if_pos h2]
      have HP : Hid (Lib.hasPrefix b [0] = true) := by show _ = _; rw [pre_one, decide_eq_true h2]
      have HTR := Lib.hid (trim_one b 0 h2)
      obtain ⟨D, hD⟩ : ∃ D, b.drop 1 = D := ⟨_, rfl⟩
      rw [hD] at HR HTR HDS
      obtain ⟨n, hn⟩ : ∃ n, b.length = n := ⟨_, rfl⟩
      rw [hn] at hsz h1
      clear hn hD hdl h2 HDL
      go_enter Tryz.func19, Tryz.ntmps19
      go_wp2_with fail
      refine (Tryz.strings_CutPrefix (bs b) ⟨#[0]⟩ _).mono ?_
      rintro e w1 ⟨rfl, rfl⟩
      rw [HL.out, show (⟨#[0]⟩ : ByteArray).data.toList = [0] from rfl, HP.out, HTR.out, show (⟨D.toArray⟩ : ByteArray) = bs D from rfl]
      go_wp2_with fail
      refine (clone_str (bs D) _ HDS.out).mono ?_
      rintro e w2 ⟨rfl, u2⟩
      go_wp2_with fail
      go_ret2
      exact ⟨by rw [HR.out]; rfl, u2⟩
    · have HP : Hid (Lib.hasPrefix b [0] = false) := by show _ = _; rw [pre_one, decide_eq_false h2]
      by_cases h3 : b.head? = some 1
      · have HR : Hid (readV b = unpk (b.drop 1)) := by
          show _ = _
          unfold readV
          rw [if_neg h1, if_neg h2, if_pos h3]
        have HP1 : Hid (Lib.hasPrefix b [1] = true) := by show _ = _; rw [pre_one, decide_eq_true h3]
        have HTR := Lib.hid (trim_one b 1 h3)
        obtain ⟨D, hD⟩ : ∃ D, b.drop 1 = D := ⟨_, rfl⟩
        rw [hD] at HR HTR HDL
        obtain ⟨n, hn⟩ : ∃ n, b.length = n := ⟨_, rfl⟩
        rw [hn] at hsz h1
        clear hn hD hdl h2 h3 HDS
        go_enter Tryz.func19, Tryz.ntmps19
        go_wp2_with fail
        refine (Tryz.strings_CutPrefix (bs b) ⟨#[0]⟩ _).mono ?_
        rintro e w1 ⟨rfl, rfl⟩
        rw [HL.out, show (⟨#[0]⟩ : ByteArray).data.toList = [0] from rfl, HP.out]
        go_wp2_with fail
        refine (Tryz.strings_CutPrefix (bs b) ⟨#[1]⟩ _).mono ?_
        rintro e w1 ⟨rfl, rfl⟩
        rw [HL.out, show (⟨#[1]⟩ : ByteArray).data.toList = [1] from rfl, HP1.out, HTR.out, show (⟨D.toArray⟩ : ByteArray) = bs D from rfl]
        go_wp2_with fail
        refine (unpack_any D _ HDL.out hT).mono ?_
        rintro e w2 ⟨rfl, u2⟩
        go_wp2_with fail
        go_ret2
        exact ⟨by rw [HR.out]; rfl, u2⟩
      · have HR : Hid (readV b = ([], 3)) := by
          show _ = _
          unfold readV
          rw [if_neg h1, if_neg h2, if_neg h3]
        have HP1 : Hid (Lib.hasPrefix b [1] = false) := by show _ = _; rw [pre_one, decide_eq_false h3]
        obtain ⟨n, hn⟩ : ∃ n, b.length = n := ⟨_, rfl⟩
        rw [hn] at hsz h1
        clear hn hdl h2 h3 HDS HDL
        go_enter Tryz.func19, Tryz.ntmps19
        go_wp2_with fail
        refine (Tryz.strings_CutPrefix (bs b) ⟨#[0]⟩ _).mono ?_
        rintro e w1 ⟨rfl, rfl⟩
        rw [HL.out, show (⟨#[0]⟩ : ByteArray).data.toList = [0] from rfl, HP.out]
        go_wp2_with fail
        refine (Tryz.strings_CutPrefix (bs b) ⟨#[1]⟩ _).mono ?_
        rintro e w1 ⟨rfl, rfl⟩
        rw [HL.out, show (⟨#[1]⟩ : ByteArray).data.toList = [1] from rfl, HP1.out]
        go_wp2_with fail
        go_ret2
        exact ⟨by rw [HR.out]; rfl, Up.refl _⟩

/-- what Open answers, as the two results -/
def openR (b : List UInt8) : Value := .tuple #[.string (bs (openV b).1), .int .i64 (((openV b).2 : Nat) : Int)]

set_option maxRecDepth 100000 in
set_option maxHeartbeats 400000 in
theorem open_any (b : List UInt8) (w : World) (hT : Tab w) :
    Calls Tryz.prog 7 #[.string (bs b)] w fun e w' => e = .returned (openR b) ∧ Up w w' := by
  have HR := Lib.hid (read_any b w hT)
  by_cases h1 : (readV b).2 = 0
  · rw [h1] at HR
    by_cases h2 : 600 < (readV b).1.length
    · have HV : Hid (openR b = .tuple #[.string (bs []), .int .i64 3]) := by
        show _ = _
        unfold openR openV
        rw [if_neg (by simpa using h1), if_pos h2]
        rfl
      have H2 := Lib.hid h2
      obtain ⟨S, hS⟩ : ∃ S, (readV b).1 = S := ⟨_, rfl⟩
      rw [hS] at HR H2
      clear h1 h2 hS
      go_enter Tryz.func7, Tryz.ntmps7
      go_wp2_with fail
      refine HR.out.mono ?_
      rintro e w1 ⟨rfl, u1⟩
      go_wp2_with fail
      refine (shut_long S _ H2.out).mono ?_
      rintro e w2 ⟨rfl, rfl⟩
      go_wp2_with fail
      go_ret2
      exact ⟨by rw [HV.out]; rfl, u1⟩
    · have H2 : Hid ((readV b).1.length ≤ 600) := by show (readV b).1.length ≤ 600; omega
      by_cases h3 : shut (readV b).1 = b
      · have HV : Hid (openR b = .tuple #[.string (bs (readV b).1), .int .i64 0]) := by
          show _ = _
          unfold openR openV
          rw [if_neg (by simpa using h1), if_neg h2, if_pos h3]
          rfl
        have H3 := Lib.hid h3
        obtain ⟨S, hS⟩ : ∃ S, (readV b).1 = S := ⟨_, rfl⟩
        rw [hS] at HR H2 HV H3
        clear h1 h2 hS h3
        go_enter Tryz.func7, Tryz.ntmps7
        go_wp2_with fail
        refine HR.out.mono ?_
        rintro e w1 ⟨rfl, u1⟩
        go_wp2_with fail
        refine (shut_ok S _ H2.out (hT.up u1)).mono ?_
        rintro e w2 ⟨rfl, u2⟩
        rw [H3.out]
        go_wp2_with fail
        go_ret2
        exact ⟨by rw [HV.out]; rfl, u1.trans u2⟩
      · have HV : Hid (openR b = .tuple #[.string (bs []), .int .i64 3]) := by
          show _ = _
          unfold openR openV
          rw [if_neg (by simpa using h1), if_neg h2, if_neg h3]
          rfl
        obtain ⟨S, hS⟩ : ∃ S, (readV b).1 = S := ⟨_, rfl⟩
        rw [hS] at HR H2 h3
        have f1 : ((bs (shut S)).toList == (bs b).toList) = false := by
          rw [ByteArray.toList_eq, ByteArray.toList_eq, bs_list, bs_list]
          simpa using h3
        obtain ⟨Z, hZ⟩ : ∃ Z, shut S = Z := ⟨_, rfl⟩
        rw [hZ] at f1
        have HZ := Lib.hid hZ
        clear h1 h2 hS h3 hZ
        go_enter Tryz.func7, Tryz.ntmps7
        go_wp2_with fail
        refine HR.out.mono ?_
        rintro e w1 ⟨rfl, u1⟩
        go_wp2_with fail
        refine (shut_ok S _ H2.out (hT.up u1)).mono ?_
        rintro e w2 ⟨rfl, u2⟩
        rw [HZ.out]
        go_wp2_with fail
        go_ret2
        exact ⟨by rw [HV.out]; rfl, u1.trans u2⟩
  · have HV : Hid (openR b = .tuple #[.string (bs []), .int .i64 3]) := by
      show _ = _
      unfold openR openV
      rw [if_pos h1]
      rfl
    obtain ⟨E, hE⟩ : ∃ E, (readV b).2 = E := ⟨_, rfl⟩
    obtain ⟨S, hS⟩ : ∃ S, (readV b).1 = S := ⟨_, rfl⟩
    rw [hE, hS] at HR
    rw [hE] at h1
    have d1 : (E != 0) = true := by simpa using h1
    have d2 : (E == 0) = false := by simpa using h1
    clear h1 hE hS
    go_enter Tryz.func7, Tryz.ntmps7
    go_wp2_with fail
    refine HR.out.mono ?_
    rintro e w1 ⟨rfl, u1⟩
    go_wp2_with fail
    go_ret2
    exact ⟨by rw [HV.out]; rfl, u1⟩

end Go.Proofs.YtloiciinmdmdkaaGreatDoor
