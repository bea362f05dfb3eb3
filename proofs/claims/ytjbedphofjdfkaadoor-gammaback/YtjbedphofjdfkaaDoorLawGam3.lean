/-
  The walk of the law GammaBack. Condition: one cell of the table deBruijn64tab.
-/
import Derived.Test.YtjbedphofjdfkaaDoorGam3
import Derived.Shelf.Strings.SlTrimAscii
namespace Go.Proofs.YtjbedphofjdfkaaDoor
open Go.RowKit
open Go.Proofs

theorem mem_dropWhile {p : UInt8 → Bool} {c : UInt8} : ∀ {l : List UInt8}, c ∈ l → p c = false → c ∈ l.dropWhile p
  | x :: l, hc, hp => by
    rw [List.dropWhile_cons]
    by_cases hx : p x = true
    · rw [if_pos hx]
      rcases List.mem_cons.1 hc with rfl | h
      · rw [hp] at hx; cases hx
      · exact mem_dropWhile h hp
    · rw [if_neg hx]; exact hc

theorem dropWhile_all {p : UInt8 → Bool} : ∀ {l : List UInt8}, (∀ c ∈ l, p c = true) → l.dropWhile p = []
  | [], _ => rfl
  | x :: l, h => by
    rw [List.dropWhile_cons, if_pos (h x (List.mem_cons_self ..))]
    exact dropWhile_all fun c hc => h c (List.mem_cons_of_mem _ hc)

theorem in_set (c : UInt8) : ([48, 49] : List UInt8).contains c = (c == 48 || c == 49) := by
  rw [Bool.eq_iff_iff]; simp

theorem trim_yes (l : List UInt8) (h : WoolBits.isB l = true) : Lib.trimS l [48, 49] = [] := by
  have h1 : Lib.trimRightS l [48, 49] = [] := by
    unfold Lib.trimRightS
    rw [dropWhile_all (fun c hc => by
      rw [in_set]
      have := (WoolBits.isB_iff _).1 h c (by simpa using hc)
      simpa using this)]
    rfl
  unfold Lib.trimS
  rw [h1]
  rfl

theorem trim_no (l : List UInt8) (h : WoolBits.isB l = false) : Lib.trimS l [48, 49] ≠ [] := by
  obtain ⟨c, hc, hp⟩ : ∃ c ∈ l, (c == 48 || c == 49) = false := by
    unfold WoolBits.isB at h
    rw [List.all_eq_false] at h
    obtain ⟨c, hc, hp⟩ := h
    exact ⟨c, hc, by simpa using hp⟩
  have h1 : c ∈ Lib.trimRightS l [48, 49] := by
    unfold Lib.trimRightS
    rw [List.mem_reverse]
    exact mem_dropWhile (List.mem_reverse.2 hc) (by rw [in_set]; exact hp)
  have h2 : c ∈ Lib.trimS l [48, 49] := by
    unfold Lib.trimS Lib.trimLeftS
    exact mem_dropWhile h1 (by rw [in_set]; exact hp)
  intro e
  rw [e] at h2
  cases h2

theorem trim01 (l : List UInt8) (w : World) (hl : l.length ≤ 281474976710656) :
    Calls Tryd.prog 31 #[.string (bs l), .string ⟨#[48, 49]⟩] w fun e w' => e = .returned (.string (bs (Lib.trimS l [48, 49]))) ∧ Up w w' := by
  refine (Any.strings_Trim_laid Tryd.lays160 (by kernel_rfl) (bs l) ⟨#[48, 49]⟩ w (by rw [bs_size]; omega) (by decide) (fun j b hj => ?_)).mono ?_
  · have hm : b ∈ ([48, 49] : List UInt8) := List.mem_of_getElem? hj
    have : b = 48 ∨ b = 49 := by simpa using hm
    rcases this with rfl | rfl <;> decide
  · rintro e w' ⟨rfl, u⟩
    rw [bs_list]
    exact ⟨rfl, u⟩

theorem gam_five : bs (WoolBits.gam 5) = ⟨#[48, 48, 49, 48, 49]⟩ := by
  simp [WoolBits.gam, WoolBits.len_step, WoolBits.len_small, WoolBits.dg_step, WoolBits.dg_small, bs, WoolBits.bit]

theorem del_five : bs (WoolBits.del 5) = ⟨#[48, 49, 49, 48, 49]⟩ := by
  simp [WoolBits.del, WoolBits.gam, WoolBits.len_step, WoolBits.len_small, WoolBits.dg_step, WoolBits.dg_small, bs, WoolBits.bit]

theorem three_eq (a b c : Nat) : three (a, b, c) = .tuple #[.int .i64 (a : Int), .int .i64 (b : Int), .int .i64 (c : Int)] := rfl

set_option maxHeartbeats 2000000 in
set_option maxRecDepth 100000 in
theorem gammaBack_yes (n : Nat) (m : List UInt8) (w : World) (h1 : 1 ≤ n) (h2 : n ≤ 2147483647) (hm : m.length ≤ 140737488351232) (hT : Tab w) :
    Calls Tryd.prog 6 #[.int .i64 (n : Int), .string (bs m)] w fun e w' => e = .returned (.bool true) ∧ Up w w' := by
  have hL := WoolBits.len_pos n
  have hL2 : WoolBits.len n ≤ 31 := WoolBits.len_lt 31 n (by simp; omega) (by omega)
  have hL5 := WoolBits.len_lt 5 (WoolBits.len n) (by simp; omega) (by omega)
  have hgl := WoolBits.gam_length n
  have hdl := WoolBits.del_length n
  have r1 := WoolBits.rg_gam n h1 (by omega) [] rfl
  have r2 := WoolBits.rd_del n h1 (by omega) [] rfl
  rw [List.append_nil] at r1 r2
  have r3 : WoolBits.isB m = true → WoolBits.rg (WoolBits.gam n ++ m) = (n, (WoolBits.gam n).length, 0) := WoolBits.rg_gam n h1 (by omega) m
  have r4 : WoolBits.isB m = true → WoolBits.rd (WoolBits.del n ++ m) = (n, (WoolBits.del n).length, 0) := WoolBits.rd_del n h1 (by omega) m
  have r5 := WoolBits.rg_form (WoolBits.gam n) m
  have r6 := WoolBits.rd_form (WoolBits.del n) m
  have sg := bs_size (WoolBits.gam n)
  have sd := bs_size (WoolBits.del n)
  have lx : (WoolBits.gam n ++ m).length ≤ 281474976710656 := by rw [List.length_append]; omega
  have ly : (WoolBits.del n ++ m).length ≤ 281474976710656 := by rw [List.length_append]; omega
  have ax := add_bs (WoolBits.gam n) m (by omega)
  have ay := add_bs (WoolBits.del n) m (by omega)
  have lg : (WoolBits.gam n).length ≤ 61 := by omega
  have ld : (WoolBits.del n).length ≤ 61 := by omega
  obtain ⟨X, hX⟩ : ∃ X, WoolBits.gam n ++ m = X := ⟨_, rfl⟩
  obtain ⟨Y, hY⟩ : ∃ Y, WoolBits.del n ++ m = Y := ⟨_, rfl⟩
  rw [hX] at lx ax r3 r5
  rw [hY] at ly ay r4 r6
  clear hX hY hgl hdl hL hL2 hL5
  have HLX := Lib.hid lx
  have HLY := Lib.hid ly
  obtain ⟨g, hg⟩ : ∃ g, (WoolBits.gam n).length = g := ⟨_, rfl⟩
  obtain ⟨d, hd⟩ : ∃ d, (WoolBits.del n).length = d := ⟨_, rfl⟩
  rw [hg] at sg lg r1 r3
  rw [hd] at sd ld r2 r4
  have R1 := Lib.hid r1
  have R2 := Lib.hid r2
  have R3 := Lib.hid r3
  have R4 := Lib.hid r4
  have R5 := Lib.hid r5
  have R6 := Lib.hid r6
  have HG := Lib.hid hg
  have HD := Lib.hid hd
  clear r1 r2 r3 r4 r5 r6 lx ly hg hd
  go_enter Tryd.func6, Tryd.ntmps6
  go_wp2_with fail
  refine (gamma_yes 5 _ (by omega) (by omega) hT).mono ?_
  rintro e w1 ⟨rfl, u1⟩
  rw [gam_five]
  go_wp2_with fail
  refine (delta_yes 5 _ (by omega) (by omega) (hT.up u1)).mono ?_
  rintro e w2 ⟨rfl, u2⟩
  rw [del_five]
  have U2 := u1.trans u2
  clear u1 u2
  go_wp2_with fail
  refine (gamma_yes n _ h1 h2 (hT.up U2)).mono ?_
  rintro e w3 ⟨rfl, u3⟩
  have U3 := U2.trans u3
  clear u3
  go_wp2_with fail
  refine (delta_yes n _ h1 h2 (hT.up U3)).mono ?_
  rintro e w4 ⟨rfl, u4⟩
  have U4 := U3.trans u4
  clear u4 U2 U3
  go_wp2_with fail
  refine (readGamma_any (WoolBits.gam n) _ (by rw [HG.out]; omega)).mono ?_
  rintro e w5 ⟨rfl, rfl⟩
  rw [R1.out, three_eq]
  go_wp2_with fail
  refine (readDelta_any (WoolBits.del n) _ (by rw [HD.out]; omega)).mono ?_
  rintro e w5 ⟨rfl, rfl⟩
  rw [R2.out, three_eq]
  go_wp2_with fail
  refine (readGamma_any X _ HLX.out).mono ?_
  rintro e w5 ⟨rfl, rfl⟩
  cases hb : WoolBits.isB m with
  | true =>
    have T1 := Lib.hid (trim_yes m hb)
    rw [R3.out hb, three_eq]
    have R4' := Lib.hid (R4.out hb)
    clear R4 R3 R5 R6 hb
    go_wp2_with fail
    refine (readDelta_any Y _ HLY.out).mono ?_
    rintro e w5 ⟨rfl, rfl⟩
    rw [R4'.out, three_eq]
    go_wp2_with fail
    refine (trim01 m _ (by omega)).mono ?_
    rintro e w6 ⟨rfl, u6⟩
    rw [T1.out, show bs [] = ⟨#[]⟩ from rfl]
    go_wp2
    go_ret
    exact ⟨rfl, U4.trans u6⟩
  | false =>
    have T1 := trim_no m hb
    rw [R5.out hb, three_eq]
    have R6' := Lib.hid (R6.out hb)
    clear R4 R3 R5 R6 hb
    obtain ⟨T, hT2⟩ : ∃ T, Lib.trimS m [48, 49] = T := ⟨_, rfl⟩
    rw [hT2] at T1
    have HT := Lib.hid hT2
    have e1 : (bs T).toList.isEmpty = false := by
      rw [ByteArray.toList_eq, bs_list]
      cases T with
      | nil => exact absurd rfl T1
      | cons _ _ => rfl
    clear hT2 T1
    go_wp2_with fail
    refine (readDelta_any Y _ HLY.out).mono ?_
    rintro e w5 ⟨rfl, rfl⟩
    rw [R6'.out, three_eq]
    go_wp2_with fail
    refine (trim01 m _ (by omega)).mono ?_
    rintro e w6 ⟨rfl, u6⟩
    rw [HT.out]
    go_wp2
    go_ret
    exact ⟨rfl, U4.trans u6⟩

set_option maxHeartbeats 2000000 in
set_option maxRecDepth 100000 in
theorem gammaBack_no (n : Int) (m : ByteArray) (w : World) (h : n < 1 ∨ 2147483647 < n) (hT : Tab w) :
    Calls Tryd.prog 6 #[.int .i64 n, .string m] w fun e w' => e = .returned (.bool true) ∧ Up w w' := by
  have H := Lib.hid h
  clear h
  go_enter Tryd.func6, Tryd.ntmps6
  go_wp2_with fail
  refine (gamma_yes 5 _ (by omega) (by omega) hT).mono ?_
  rintro e w1 ⟨rfl, u1⟩
  rw [gam_five]
  go_wp2_with fail
  refine (delta_yes 5 _ (by omega) (by omega) (hT.up u1)).mono ?_
  rintro e w2 ⟨rfl, u2⟩
  rw [del_five]
  have U2 := u1.trans u2
  clear u1 u2
  go_wp2_with fail
  refine (gamma_no n _ H.out).mono ?_
  rintro e w3 ⟨rfl, rfl⟩
  rw [show bs [] = ⟨#[]⟩ from rfl]
  go_wp2_with fail
  refine (delta_no n _ H.out).mono ?_
  rintro e w3 ⟨rfl, rfl⟩
  rw [show bs [] = ⟨#[]⟩ from rfl]
  go_wp2
  go_ret
  exact ⟨rfl, U2⟩

theorem gammaBack_walk (a0 : Int) (a1 : ByteArray) (w : World) (_w0 : (Lit.int .i64 a0).wf = true) (w1 : a1.size ≤ 140737488351232) (hT : Tab w) :
    Calls Tryd.prog 6 #[.int .i64 a0, .string a1] w fun e w' => e = .returned (.bool true) ∧ Up w w' := by
  by_cases h : a0 < 1 ∨ 2147483647 < a0
  · exact gammaBack_no a0 a1 w h hT
  · obtain ⟨n, rfl⟩ := Int.eq_ofNat_of_zero_le (show 0 ≤ a0 by omega)
    rw [← bs_of a1]
    exact gammaBack_yes n a1.data.toList w (by omega) (by omega) (by rw [ba_length]; exact w1) hT

end Go.Proofs.YtjbedphofjdfkaaDoor
