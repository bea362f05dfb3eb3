/-
  The walk of the law BagOnce: a block that is put twice is there once, two that are not the same have two identifiers. No condition.
-/
import Derived.Test.YtldcaadbkcbdjaaBagO
namespace Go.Proofs.Ytldcaadbkcbdjaa
open Go.RowKit
open Go.Proofs
open WoolBag

set_option maxRecDepth 100000 in
set_option maxHeartbeats 2000000 in
theorem bagOnce_walk (a0 : Option Addr) (len0 cap0 : Nat) (z0 : List Itm) (a1 a2 : ByteArray) (w : World) (w0 : Items w (.slice a0 len0 cap0) z0) (w1 : a1.size ≤ 140737488351232) (w2 : a2.size ≤ 140737488351232) :
    Calls Try.prog 4 #[.slice a0 len0 cap0, .string a1, .string a2] w fun e w' => e = .returned (.bool true) ∧ Up w w' := by
  obtain ⟨s, rfl⟩ : ∃ s, a1 = bs s := ⟨_, (bs_of a1).symm⟩
  obtain ⟨t, rfl⟩ : ∃ t, a2 = bs t := ⟨_, (bs_of a2).symm⟩
  have HX := Lib.hid w0
  clear w0 w1 w2
  go_enter Try.func4, Try.ntmps4
  go_wp2_with fail
  refine (two_open _).mono ?_
  rintro e w1 ⟨o1, c1, rfl, ho1, u1⟩
  have HO1 := Lib.hid ho1
  have HU1 := Lib.hid u1
  clear ho1 u1
  go_wp2_with fail
  refine (checkB_ok _ twoL _ HO1.out.items two_bag).mono ?_
  rintro e w2 ⟨rfl, u2⟩
  have HU2 := Lib.hid (HU1.out.trans u2)
  clear u2 HO1 HU1
  obtain ⟨⟨A, ⟨ib, is, iN⟩, E⟩, hP⟩ : ∃ R, WoolBag.put FP z0 s = R := ⟨_, rfl⟩
  have HP := Lib.hid hP
  clear hP
  go_wp2_with fail
  refine (put_open _ z0 s _ (HX.out.up HU2.out) A ib is iN E HP.out).mono ?_
  rintro e w3 ⟨o3, c3, rfl, ho3, u3⟩
  have HO3 := Lib.hid ho3
  have HU3 := Lib.hid (HU2.out.trans u3)
  clear ho3 u3 HU2
  by_cases hE : E = 0
  case neg =>
    have hA : A = [] := by have h := put_err (F := FP) (l := z0) (t := s) (by rw [HP.out]; exact hE); rw [HP.out] at h; exact h
    subst hA
    have hne : (E != 0) = true := by rw [bne_iff_ne]; exact hE
    clear hE
    go_wp2_with fail
    go_ret
    exact ⟨rfl, HU3.out.trans (Up.alloc _ _)⟩
  subst hE
  obtain ⟨hbA, ⟨xA, hxA, hidA, htA⟩, hallA⟩ := put_spec HP.out
  have hib : ib = true := (congrArg Prod.fst hidA).symm
  subst hib
  have hgA := get_put HP.out
  have hrA := refs_put HP.out
  have hbz := (put_ok HP.out).1
  have hrz := refs_le hbz
  have HBA := Lib.hid hbA
  have HGA := Lib.hid hgA
  have HRA := Lib.hid hrA
  have HBZ := Lib.hid hbz
  obtain ⟨N, hN⟩ : ∃ N, refs z0 = N := ⟨_, rfl⟩
  rw [hN] at HRA hrz
  have HN := Lib.hid hN
  clear hbA hgA hrA hbz hN hxA hidA htA hallA
  obtain ⟨⟨B, ⟨kb, ks, kN⟩, E2⟩, hQ⟩ : ∃ R, WoolBag.put FP A t = R := ⟨_, rfl⟩
  have HQ := Lib.hid hQ
  clear hQ
  go_wp2_with fail
  refine (put_open _ A t _ (HO3.out.items.up (Up.alloc _ _)) B kb ks kN E2 HQ.out).mono ?_
  rintro e w4 ⟨o4, c4, rfl, ho4, u4⟩
  have hb3 := BoxI.up (BoxI.new w3 24 (.bool true) (.int .i64 is) (.int .i64 iN)) u4
  have HB3 := Lib.hid hb3
  obtain ⟨x0, x1, x2⟩ := hb3.cells
  have HO4 := Lib.hid ho4
  have hu4 := Up.after _ _ _ u4
  have HU4 := Lib.hid (HU3.out.trans hu4)
  have HO3' := Lib.hid (HO3.out.up hu4)
  clear ho4 u4 hu4 hb3 HO3 HU3
  have hlt4 : w3.heap.size < w4.heap.size := HB3.out.lt
  have hne4 : w3.heap.size ≠ w4.heap.size := by omega
  go_wp2_with fail
  refine (get_open _ A true is iN _ (HO3'.out.items.up (Up.alloc _ _)) s 0 HGA.out).mono ?_
  rintro e w5 ⟨rfl, u5⟩
  have HU5 := Lib.hid (HU4.out.trans (Up.after _ _ _ u5))
  have HB3' := Lib.hid (HB3.out.up (Up.after _ _ _ u5))
  have HB4 := Lib.hid (BoxI.up (BoxI.new w4 24 (.bool kb) (.int .i64 ks) (.int .i64 kN)) u5)
  have HO35 := Lib.hid (HO3'.out.up (Up.after _ _ _ u5))
  have HO45 := Lib.hid (HO4.out.up (Up.after _ _ _ u5))
  have HX5 := Lib.hid (HX.out.up HU5.out)
  clear u5 HU4 HB3 HO3' HO4 x0 x1 x2 hlt4 hne4
  have hse := self_eq s
  have hte := self_eq t
  go_wp2_with fail
  refine (checkB_ok _ A _ HO35.out.items HBA.out).mono ?_
  rintro e w6 ⟨rfl, u6⟩
  have HU6 := Lib.hid u6
  clear u6
  have hwz : IntKind.i64.wrap (N + 1) = N + 1 := IntWalk.i64_in _ (by omega)
  go_wp2_with fail
  refine (refs_any _ A _ (HO35.out.items.up HU6.out) HBA.out).mono ?_
  rintro e w7 ⟨rfl, u7⟩
  rw [HRA.out]
  have HU7 := Lib.hid (HU6.out.trans u7)
  clear u7 HU6
  go_wp2_with fail
  refine (refs_any _ z0 _ (HX5.out.up HU7.out) HBZ.out).mono ?_
  rintro e w8 ⟨rfl, u8⟩
  rw [HN.out]
  have HU8 := Lib.hid (HU7.out.trans u8)
  clear u8 HU7
  by_cases hE : E2 = 0
  case neg =>
    have hne : (E2 != 0) = true := by rw [bne_iff_ne]; exact hE
    have h28 := put_error (F := FP) (l := A) (t := t) HBA.out
    rw [HQ.out] at h28
    simp only at h28
    rcases h28 with h | h | h
    · exact absurd h hE
    · subst h
      clear hE hne
      go_wp2_with fail
      go_ret
      exact ⟨rfl, HU5.out.trans HU8.out⟩
    · subst h
      clear hE hne
      go_wp2_with fail
      go_ret
      exact ⟨rfl, HU5.out.trans HU8.out⟩
  subst hE
  obtain ⟨hbB, ⟨xB, hxB, hidB, htB⟩, hallB⟩ := put_spec HQ.out
  have hkb : kb = true := (congrArg Prod.fst hidB).symm
  subst hkb
  have hgB := get_put HQ.out
  obtain ⟨hgi, hiff⟩ := get_other HGA.out HQ.out
  have hrB := refs_put HQ.out
  rw [HRA.out] at hrB
  have hrA2 := refs_le HBA.out
  rw [HRA.out] at hrA2
  have HBB := Lib.hid hbB
  have HGB := Lib.hid hgB
  have HGI := Lib.hid hgi
  have HRB := Lib.hid hrB
  have HIFF := Lib.hid hiff
  have HLEN : Hid (s = t → A.length = B.length) := fun e => length_twice (by rw [← e]; exact HP.out) HQ.out
  clear hbB hgB hgi hiff hrB hxB hidB htB hallB
  obtain ⟨y0, y1, y2⟩ := (HB4.out.up HU8.out).cells
  obtain ⟨x0, x1, x2⟩ := (HB3'.out.up HU8.out).cells
  go_wp2_with fail
  refine (get_open _ B true ks kN _ (HO45.out.items.up HU8.out) t 0 HGB.out).mono ?_
  rintro e w9 ⟨rfl, u9⟩
  have HU9 := Lib.hid (HU8.out.trans u9)
  clear u9 HU8 x0 x1 x2 y0 y1 y2
  obtain ⟨x0, x1, x2⟩ := (HB3'.out.up HU9.out).cells
  go_wp2_with fail
  refine (get_open _ B true is iN _ (HO45.out.items.up HU9.out) s 0 HGI.out).mono ?_
  rintro e w10 ⟨rfl, u10⟩
  have HU10 := Lib.hid (HU9.out.trans u10)
  clear u10 HU9 x0 x1 x2
  obtain ⟨y0, y1, y2⟩ := (HB4.out.up HU10.out).cells
  obtain ⟨x0, x1, x2⟩ := (HB3'.out.up HU10.out).cells
  have hst := txt_eq s t
  have hw2 : IntKind.i64.wrap (N + 1 + 1) = N + 1 + 1 := IntWalk.i64_in _ (by omega)
  by_cases e : s = t
  · have hlen := HLEN.out e
    have hl1 : ((A.length : Int) == (B.length : Int)) = true := by simp [hlen]
    have hl2 : (A.length == B.length) = true := by simp [hlen]
    have HLL := Lib.hid hlen
    have hik := HIFF.out.2 e
    simp only [Prod.mk.injEq, true_and] at hik
    obtain ⟨rfl, rfl⟩ := hik
    have hst' : ((bs s).toList == (bs t).toList) = true := by rw [hst]; simpa using e
    clear hst e hlen HLEN
    go_wp2_with fail
    refine (refs_any _ B _ (HO45.out.items.up HU10.out) HBB.out).mono ?_
    rintro e w11 ⟨rfl, u11⟩
    rw [HRB.out]
    have HU11 := Lib.hid (HU10.out.trans u11)
    clear u11 x0 x1 x2 y0 y1 y2
    go_wp2_with fail
    refine (refs_any _ A _ (HO35.out.items.up HU11.out) HBA.out).mono ?_
    rintro e w12 ⟨rfl, u12⟩
    rw [HRA.out]
    have HU12 := Lib.hid (HU11.out.trans u12)
    clear u12
    go_wp2_with fail
    go_ret
    exact ⟨rfl, HU5.out.trans HU12.out⟩
  · have hst' : ((bs s).toList == (bs t).toList) = false := by rw [hst]; simpa using e
    have hik : ¬ (ks = is ∧ kN = iN) := fun h => e (HIFF.out.1 (by rw [h.1, h.2]))
    clear hst HLEN
    by_cases e1 : is = ks
    · subst e1
      have e2 : (iN == kN) = false := by simp; intro h; exact hik ⟨rfl, h.symm⟩
      clear hik e
      go_wp2_with fail
      refine (refs_any _ B _ (HO45.out.items.up HU10.out) HBB.out).mono ?_
      rintro e w11 ⟨rfl, u11⟩
      rw [HRB.out]
      have HU11 := Lib.hid (HU10.out.trans u11)
      clear u11 x0 x1 x2 y0 y1 y2
      go_wp2_with fail
      refine (refs_any _ A _ (HO35.out.items.up HU11.out) HBA.out).mono ?_
      rintro e w12 ⟨rfl, u12⟩
      rw [HRA.out]
      have HU12 := Lib.hid (HU11.out.trans u12)
      clear u12
      go_wp2_with fail
      go_ret
      exact ⟨rfl, HU5.out.trans HU12.out⟩
    · have e2 : (is == ks) = false := by simpa using e1
      clear hik e e1
      go_wp2_with fail
      refine (refs_any _ B _ (HO45.out.items.up HU10.out) HBB.out).mono ?_
      rintro e w11 ⟨rfl, u11⟩
      rw [HRB.out]
      have HU11 := Lib.hid (HU10.out.trans u11)
      clear u11 x0 x1 x2 y0 y1 y2
      go_wp2_with fail
      refine (refs_any _ A _ (HO35.out.items.up HU11.out) HBA.out).mono ?_
      rintro e w12 ⟨rfl, u12⟩
      rw [HRA.out]
      have HU12 := Lib.hid (HU11.out.trans u12)
      clear u12
      go_wp2_with fail
      go_ret
      exact ⟨rfl, HU5.out.trans HU12.out⟩

end Go.Proofs.Ytldcaadbkcbdjaa
