/-
  The walk of the law BagSays: Check, Put, Get and Drop answer what the reference does. No condition.
-/
import Derived.Test.YtldcaadbkcbdjaaBagO
import Derived.Test.YtldcaadbkcbdjaaRefBag4
import Derived.Test.YtldcaadbkcbdjaaRefBag5
namespace Go.Proofs.Ytldcaadbkcbdjaa
open Go.RowKit
open Go.Proofs
open WoolBag

theorem fpE : fp 65581 [] = 1 := by kernel_rfl
theorem FPE : FP [] = 1 := by unfold FP; rw [fpE]; rfl

theorem chk_empty : chk FP [⟨0, 0, [], 0⟩] = 6 := by
  have h : errI FP [] ⟨0, 0, [], 0⟩ = 6 := by
    unfold errI
    rw [if_neg (by simp), if_pos (by simp [FPE])]
  unfold chk
  rw [if_neg (by simp)]
  unfold chkL
  rw [h, if_neg (by decide)]

theorem refPut_open (v : Value) (l : List Itm) (t : List UInt8) (w : World) (h : Items w v l) (hb : Bag FP l) (A : List Itm) (ib : Bool) (is iN E : Int) (hP : WoolBag.put FP l t = (A, (ib, is, iN), E)) :
    Calls Try.prog 15 #[v, .string (bs t)] w fun e w' => ∃ o c, e = .returned (.tuple #[.slice o A.length c, .agg #[.bool ib, .int .i64 is, .int .i64 iN], .int .i64 E]) ∧ Items w' (.slice o A.length c) A ∧ Up w w' := by
  refine (refPut_any v l t w h hb).mono ?_
  rintro e w' ⟨o, c, rfl, ho, hu⟩
  rw [hP] at ho ⊢
  exact ⟨o, c, rfl, ho, hu⟩

theorem refLess_open (v : Value) (l : List Itm) (ib : Bool) (is iN : Int) (w : World) (h : Items w v l) (hb : Bag FP l) (D : List Itm) (E : Int) (hD : WoolBag.drop FP l (ib, is, iN) = (D, E)) :
    Calls Try.prog 17 #[v, .agg #[.bool ib, .int .i64 is, .int .i64 iN]] w fun e w' => ∃ o c, e = .returned (.tuple #[.slice o D.length c, .int .i64 E]) ∧ Items w' (.slice o D.length c) D ∧ Up w w' := by
  refine (refLess_any v l ib is iN w h hb).mono ?_
  rintro e w' ⟨o, c, rfl, ho, hu⟩
  rw [hD] at ho ⊢
  exact ⟨o, c, rfl, ho, hu⟩

theorem empty_items (w : World) : Items (w.alloc (.cells #[.int .i64 0, .int .i64 0, .string ⟨#[]⟩, .int .i64 0] 34)) (.slice (some ⟨w.heap.size, 0, none⟩) 1 1) [⟨0, 0, [], 0⟩] := by
  have h : RowI (w.alloc (.cells #[.int .i64 0, .int .i64 0, .string ⟨#[]⟩, .int .i64 0] 34)) w.heap.size (itL [⟨0, 0, [], 0⟩] ++ []) := heap_alloc_new w _
  exact Items.of_row h rfl (Nat.le_refl _) (by unfold maxLen; omega)

theorem chk_all {l : List Itm} {t : List UInt8} {i : Bool × Int × Int} (h : chk FP l ≠ 0) : WoolBag.put FP l t = ([], noId, chk FP l) ∧ WoolBag.get FP l i = ([], chk FP l) ∧ WoolBag.drop FP l i = ([], chk FP l) := by
  have hf : WoolBag.find FP l i = (0, chk FP l) := by unfold WoolBag.find; rw [if_pos h]
  refine ⟨?_, ?_, ?_⟩
  · unfold WoolBag.put; rw [if_pos h]
  · unfold WoolBag.get; rw [hf, if_neg h]
  · unfold WoolBag.drop; rw [hf, if_neg h]

theorem find_bag {l : List Itm} {i : Bool × Int × Int} (hb : Bag FP l) : WoolBag.find FP l i = (match idx (idB i) l with | some k => (k, 0) | none => (0, 4)) := by
  unfold WoolBag.find
  rw [(chk_zero FP).2 hb, if_neg (fun h => h rfl)]
  cases idx (idB i) l <;> rfl

theorem none_all {l : List Itm} {i : Bool × Int × Int} (hb : Bag FP l) (h : idx (idB i) l = none) : WoolBag.get FP l i = ([], 4) ∧ WoolBag.drop FP l i = ([], 4) := by
  have hf := find_bag (i := i) hb
  rw [h] at hf
  refine ⟨?_, ?_⟩
  · unfold WoolBag.get; rw [hf, if_neg (show ¬ (4 : Int) = 0 by decide)]
  · unfold WoolBag.drop; rw [hf, if_neg (show ¬ (4 : Int) = 0 by decide)]

theorem some_all {l : List Itm} {i : Bool × Int × Int} {k : Nat} (hb : Bag FP l) (h : idx (idB i) l = some k) : ∃ hk : k < l.length, WoolBag.get FP l i = (l[k].t, 0) ∧ (WoolBag.drop FP l i).2 = 0 := by
  have hf := find_bag (i := i) hb
  rw [h] at hf
  obtain ⟨hk, _⟩ := idx_some h
  refine ⟨hk, ?_, ?_⟩
  · unfold WoolBag.get; rw [hf, if_pos rfl, getElem!_pos l k hk]
  · unfold WoolBag.drop; rw [hf, if_pos rfl]

set_option maxRecDepth 100000 in
set_option maxHeartbeats 4000000 in
theorem bagSays_walk (a0 : Option Addr) (len0 cap0 : Nat) (z0 : List Itm) (a1 : ByteArray) (b2 : Bool) (m2 n2 : Int) (w : World) (w0 : Items w (.slice a0 len0 cap0) z0) (w1 : a1.size ≤ 140737488351232) :
    Calls Try.prog 3 #[.slice a0 len0 cap0, .string a1, .agg #[.bool b2, .int .i64 m2, .int .i64 n2]] w fun e w' => e = .returned (.bool true) ∧ Up w w' := by
  obtain ⟨s, rfl⟩ : ∃ s, a1 = bs s := ⟨_, (bs_of a1).symm⟩
  have HX := Lib.hid w0
  have HLEN : Hid (len0 = z0.length) := by
    obtain ⟨o0, c0, hv0, _⟩ := w0
    simp only [Value.slice.injEq] at hv0
    exact hv0.2.1
  have hl0 : len0 ≤ 9223372036854775807 := by
    obtain ⟨o0, c0, hv0, h1, h2, _⟩ := w0
    simp only [Value.slice.injEq] at hv0
    unfold maxLen at h2
    omega
  clear w1 w0
  obtain ⟨⟨A, ⟨ib, is, iN⟩, E1⟩, hP⟩ : ∃ R, WoolBag.put FP z0 s = R := ⟨_, rfl⟩
  obtain ⟨⟨T, E2⟩, hG⟩ : ∃ R, WoolBag.get FP z0 (b2, m2, n2) = R := ⟨_, rfl⟩
  obtain ⟨⟨D, E3⟩, hD⟩ : ∃ R, WoolBag.drop FP z0 (b2, m2, n2) = R := ⟨_, rfl⟩
  obtain ⟨C, hC⟩ : ∃ C, chk FP z0 = C := ⟨_, rfl⟩
  have HP := Lib.hid hP
  have HG := Lib.hid hG
  have HD := Lib.hid hD
  have HC := Lib.hid hC
  have HBG := Lib.hid (fun W (hW : Up w W) => refBag_any _ z0 W (HX.out.up hW))
  have HCK := Lib.hid (fun W (hW : Up w W) => check_any _ z0 W (HX.out.up hW))
  have HCE := Lib.hid (fun W => check_any _ _ _ (empty_items W))
  rw [hC] at HBG HCK
  rw [chk_empty] at HCE
  clear hP hG hD hC
  go_enter Try.func3, Try.ntmps3
  go_wp2_with fail
  refine (put_open _ z0 s _ (HX.out.up (Up.alloc _ _)) A ib is iN E1 HP.out).mono ?_
  rintro e w1 ⟨o1, c1, rfl, ho1, u1⟩
  have HO1 := Lib.hid ho1.items
  have HU1 : Hid (Up w w1) := Up.after _ _ _ u1
  have hbi := BoxI.up (BoxI.new w 24 (.bool b2) (.int .i64 m2) (.int .i64 n2)) u1
  obtain ⟨p0, p1, p2⟩ := hbi.cells
  have hlt1 := hbi.lt
  have hne1 : w.heap.size ≠ w1.heap.size := by omega
  have HBI := Lib.hid hbi
  have HB8 := Lib.hid (BoxI.new w1 24 (.bool ib) (.int .i64 is) (.int .i64 iN))
  clear ho1 u1 hbi
  go_wp2_with fail
  refine (get_open _ z0 b2 m2 n2 _ (HX.out.up (HU1.out.trans (Up.alloc _ _))) T E2 HG.out).mono ?_
  rintro e w2 ⟨rfl, u2⟩
  have HB82 := Lib.hid (HB8.out.up u2)
  have u2' := (Up.alloc w1 (.cells #[.bool ib, .int .i64 is, .int .i64 iN] 24)).trans u2
  have HU2 := Lib.hid (HU1.out.trans u2')
  have HBI2 := Lib.hid (HBI.out.up u2')
  have HO2 := Lib.hid (HO1.out.up u2')
  clear p0 p1 p2 hlt1 hne1 u2 u2' HB8 HU1 HBI HO1
  obtain ⟨X8, hX8⟩ : ∃ X8, w1.heap.size = X8 := ⟨_, rfl⟩
  rw [hX8] at HB82 ⊢
  clear hX8
  obtain ⟨p0, p1, p2⟩ := HBI2.out.cells
  go_wp2_with fail
  refine (drop_open _ z0 b2 m2 n2 _ (HX.out.up HU2.out) D E3 HD.out).mono ?_
  rintro e w3 ⟨o3, c3, rfl, ho3, u3⟩
  have HB83 := Lib.hid (HB82.out.up u3)
  have HU3 := Lib.hid (HU2.out.trans u3)
  have HBI3 := Lib.hid (HBI2.out.up u3)
  have HO3 := Lib.hid (HO2.out.up u3)
  have HD3 := Lib.hid ho3.items
  clear p0 p1 p2 u3 ho3 HB82 HU2 HBI2 HO2
  go_wp2_with fail
  refine (HBG.out _ HU3.out).mono ?_
  rintro e w4 ⟨rfl, u4⟩
  have HU4 := Lib.hid (HU3.out.trans u4)
  go_wp2_with fail
  refine (HCK.out _ HU4.out).mono ?_
  rintro e w5 ⟨rfl, u5⟩
  have HU5 := Lib.hid (HU4.out.trans u5)
  have u35 := u4.trans u5
  have HB85 := Lib.hid (HB83.out.up u35)
  have HBI5 := Lib.hid (HBI3.out.up u35)
  have HO5 := Lib.hid (HO3.out.up u35)
  have HD5 := Lib.hid (HD3.out.up u35)
  clear u4 u5 u35 HU3 HU4 HB83 HBI3 HO3 HD3 HBG HCK
  go_wp2_with fail
  refine (HCE.out _).mono ?_
  rintro e w6 ⟨rfl, u6⟩
  have u6' := Up.after _ _ _ u6
  have HU6 := Lib.hid (HU5.out.trans u6')
  have HB86 := Lib.hid (HB85.out.up u6')
  have HBI6 := Lib.hid (HBI5.out.up u6')
  have HO6 := Lib.hid (HO5.out.up u6')
  have HD6 := Lib.hid (HD5.out.up u6')
  clear u6 u6' HU5 HB85 HBI5 HO5 HD5 HCE
  obtain ⟨x0, x1, x2⟩ := HB86.out.cells
  obtain ⟨p0, p1, p2⟩ := HBI6.out.cells
  by_cases hC0 : C = 0
  case neg =>
    obtain ⟨h1, h2, h3⟩ := chk_all (l := z0) (t := s) (i := (b2, m2, n2)) (by rw [HC.out]; exact hC0)
    rw [HP.out, HC.out] at h1
    rw [HG.out, HC.out] at h2
    rw [HD.out, HC.out] at h3
    unfold noId at h1
    simp only [Prod.mk.injEq] at h1 h2 h3
    obtain ⟨rfl, ⟨rfl, rfl, rfl⟩, rfl⟩ := h1
    obtain ⟨rfl, rfl⟩ := h2
    obtain ⟨rfl, h3⟩ := h3
    subst h3
    have hem : (bs []).toList.isEmpty = true := by rw [ByteArray.toList_eq, bs_list]; rfl
    have hem2 := self_eq []
    have hne : (E3 != 0) = true := by rw [bne_iff_ne]; exact hC0
    have hne2 : (E3 == 0) = false := by simpa using hC0
    clear hC0
    go_wp2_with fail
    go_ret
    exact ⟨rfl, HU6.out⟩
  subst hC0
  have hbag : Bag FP z0 := (chk_zero FP).1 HC.out
  have HBAG := Lib.hid hbag
  go_wp2_with fail
  refine (refPut_open _ z0 s _ (HX.out.up HU6.out) hbag A ib is iN E1 HP.out).mono ?_
  rintro e w7 ⟨o7, c7, rfl, hi7, u7⟩
  clear x0 x1 x2 p0 p1 p2
  have hX8 := HB86.out.lt
  have hB87 := HB86.out.up u7
  have hX87 := hB87.lt
  have hBI7 := HBI6.out.up u7
  have hI7 := hBI7.lt
  have HIB := Lib.hid (BoxI.new w7 24 (.bool ib) (.int .i64 is) (.int .i64 iN))
  have ua := Up.alloc w7 (.cells #[.bool ib, .int .i64 is, .int .i64 iN] 24)
  have HB87 := Lib.hid (hB87.up ua)
  have HBI7 := Lib.hid (hBI7.up ua)
  have HU7 := Lib.hid ((HU6.out.trans u7).trans ua)
  have HEQ := Lib.hid (equalI_yes _ _ A _ (HO6.out.up (u7.trans ua)) (hi7.up ua))
  have HD7 := Lib.hid (HD6.out.up (u7.trans ua))
  clear hB87 hBI7 u7 ua hi7 hX8 HB86 HBI6 HU6 HO6 HD6 hbag hX87 hI7
  go_wp2_with fail
  refine HEQ.out.mono ?_
  rintro e w8 ⟨rfl, u8⟩
  have HB88 := Lib.hid (HB87.out.up u8)
  have HIB8 := Lib.hid (HIB.out.up u8)
  have HBI8 := Lib.hid (HBI7.out.up u8)
  have HU8 := Lib.hid (HU7.out.trans u8)
  have HD8 := Lib.hid (HD7.out.up u8)
  clear u8 HB87 HIB HBI7 HU7 HD7 HEQ
  generalize w7.heap.size = X16 at HIB8 ⊢
  obtain ⟨x0, x1, x2⟩ := HB88.out.cells
  obtain ⟨y0, y1, y2⟩ := HIB8.out.cells
  obtain ⟨p0, p1, p2⟩ := HBI8.out.cells
  go_wp2_with fail
  refine (refLess_open _ z0 b2 m2 n2 _ (HX.out.up HU8.out) HBAG.out D E3 HD.out).mono ?_
  rintro e w9 ⟨o9, c9, rfl, hi9, u9⟩
  have HBI9 := Lib.hid (HBI8.out.up u9)
  have HU9 := Lib.hid (HU8.out.trans u9)
  have HD9 := Lib.hid (HD8.out.up u9)
  have HI9 := Lib.hid hi9
  clear u9 hi9 HB88 HIB8 HBI8 HU8 HD8 x0 x1 x2 y0 y1 y2 p0 p1 p2
  obtain ⟨p0, p1, p2⟩ := HBI9.out.cells
  go_wp2_with fail
  refine (refItem_any _ z0 b2 m2 n2 _ (HX.out.up HU9.out)).mono ?_
  rintro e w10 ⟨rfl, u10⟩
  have HU10 := Lib.hid (HU9.out.trans u10)
  have HEQ := Lib.hid (equalI_yes _ _ D _ (HD9.out.up u10) (HI9.out.up u10))
  clear u10 HU9 HD9 HI9 HBI9 p0 p1 p2
  unfold ixI
  cases hi : idx (idB (b2, m2, n2)) z0 with
  | none =>
    obtain ⟨h2, h3⟩ := none_all HBAG.out hi
    rw [HG.out] at h2
    rw [HD.out] at h3
    simp only [Prod.mk.injEq] at h2 h3
    obtain ⟨rfl, rfl⟩ := h2
    obtain ⟨rfl, rfl⟩ := h3
    have hem : (bs []).toList.isEmpty = true := by rw [ByteArray.toList_eq, bs_list]; rfl
    have hem2 := self_eq []
    clear hi
    go_wp2_with fail
    go_ret
    exact ⟨rfl, HU10.out⟩
  | some k =>
    obtain ⟨hk, h2, h3⟩ := some_all HBAG.out hi
    rw [HG.out] at h2
    rw [HD.out] at h3
    simp only [Prod.mk.injEq] at h2 h3
    obtain ⟨rfl, rfl⟩ := h2
    subst h3
    have hx10 := HX.out.up HU10.out
    obtain ⟨o', c', hv', _, _, h4⟩ := hx10
    simp only [Value.slice.injEq] at hv'
    obtain ⟨rfl, hl', rfl⟩ := hv'
    rcases h4 with h4 | ⟨b, off, rfl, h4⟩
    · rw [h4] at hk; simp at hk
    have t3 := (h4 k hk).2.2.1
    have hk' : k < len0 := by rw [HLEN.out]; exact hk
    have hse := self_eq z0[k].t
    clear h4 hl' hi
    generalize bs z0[k].t = TT at *
    go_wp2_with fail
    refine HEQ.out.mono ?_
    rintro e w11 ⟨rfl, u11⟩
    go_wp2_with fail
    go_ret
    exact ⟨rfl, HU10.out.trans u11⟩

end Go.Proofs.Ytldcaadbkcbdjaa
