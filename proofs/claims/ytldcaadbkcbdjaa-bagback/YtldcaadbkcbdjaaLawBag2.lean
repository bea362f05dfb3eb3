/-
  The walk of the law BagBack: what is put and dropped leaves all as it was. No condition.
-/
import Derived.Test.YtldcaadbkcbdjaaBagO
namespace Go.Proofs.Ytldcaadbkcbdjaa
open Go.RowKit
open Go.Proofs
open WoolBag

theorem two_texts (u : List UInt8) : (∃ x ∈ twoL, x.t = u) ↔ u = [98] ∨ u = [97] := by
  obtain ⟨i, h, ht⟩ := one_put
  obtain ⟨j, h2⟩ := two_put
  rw [texts_put h2, texts_put h]
  simp

theorem three_put : ∃ Y ib is iN, WoolBag.put FP twoL [99] = (Y, (ib, is, iN), 0) ∧ Y.length = 3 := by
  have hn : ∀ x ∈ twoL, x.t ≠ [99] := fun x hx e => by
    have := (two_texts [99]).1 ⟨x, hx, e⟩
    simp at this
  have h := put_new (F := FP) (l := twoL) (t := [99]) two_bag (by simp) hn (by rw [two_len]; omega)
  exact ⟨_, _, _, _, h, by rw [length_ins, two_len]⟩

set_option maxRecDepth 100000 in
set_option maxHeartbeats 2000000 in
theorem bagBack_walk (a0 : Option Addr) (len0 cap0 : Nat) (z0 : List Itm) (a1 : ByteArray) (w : World) (w0 : Items w (.slice a0 len0 cap0) z0) (w1 : a1.size ≤ 140737488351232) :
    Calls Try.prog 5 #[.slice a0 len0 cap0, .string a1] w fun e w' => e = .returned (.bool true) ∧ Up w w' := by
  obtain ⟨s, rfl⟩ : ∃ s, a1 = bs s := ⟨_, (bs_of a1).symm⟩
  have HX := Lib.hid w0
  clear w0 w1
  obtain ⟨Y, ib, is, iN, h3, hY⟩ := three_put
  have hd3 := drop_put h3
  have hsc : bs [99] = ⟨#[99]⟩ := rfl
  have HP3 : Hid (∀ v W, Items W v twoL → Calls Try.prog 10 #[v, .string ⟨#[99]⟩] W fun e w' => ∃ o c, e = .returned (.tuple #[.slice o 3 c, .agg #[.bool ib, .int .i64 is, .int .i64 iN], .int .i64 0]) ∧ OItems w' W.heap.size (.slice o 3 c) Y ∧ Up W w') := by
    intro v W h
    have := put_open v twoL [99] W h Y ib is iN 0 h3
    rw [hsc, hY] at this
    exact this
  have HD3 := Lib.hid hd3
  clear h3 hY hsc hd3
  go_enter Try.func5, Try.ntmps5
  go_wp2_with fail
  refine (two_open _).mono ?_
  rintro e w1 ⟨o1, c1, rfl, ho1, u1⟩
  have HO1 := Lib.hid ho1
  have HU1 := Lib.hid u1
  clear ho1 u1
  go_wp2_with fail
  refine (HP3.out _ _ HO1.out.items).mono ?_
  rintro e w2 ⟨o2, c2, rfl, ho2, u2⟩
  have HO2 := Lib.hid ho2
  have HO1' := Lib.hid (HO1.out.up u2)
  have HU2 := Lib.hid (HU1.out.trans u2)
  clear ho2 u2 HO1 HU1
  go_wp2_with fail
  refine (drop_open _ Y ib is iN _ (HO2.out.items.up (Up.alloc _ _)) twoL 0 HD3.out).mono ?_
  rintro e w3 ⟨o3, c3, rfl, ho3, u3⟩
  have HB := Lib.hid (BoxI.up (BoxI.new w2 24 (.bool ib) (.int .i64 is) (.int .i64 iN)) u3)
  have HO3 := Lib.hid ho3
  have HO13 := Lib.hid (HO1'.out.up (Up.after _ _ _ u3))
  have HU3 := Lib.hid (HU2.out.trans (Up.after _ _ _ u3))
  clear ho3 u3 HO1' HO2 HP3
  have HT2 := Lib.hid two_len
  rw [HT2.out] at HO3 ⊢
  go_wp2_with fail
  refine (equalI_yes _ _ twoL _ HO13.out.items HO3.out.items).mono ?_
  rintro e w4 ⟨rfl, u4⟩
  have HU4 := Lib.hid (HU3.out.trans u4)
  have HB4 := Lib.hid (HB.out.up u4)
  clear u4 HU3 HB HO3 HO13
  obtain ⟨⟨A, ⟨kb, ks, kN⟩, E⟩, hP⟩ : ∃ R, WoolBag.put FP z0 s = R := ⟨_, rfl⟩
  have HP := Lib.hid hP
  clear hP
  go_wp2_with fail
  refine (put_open _ z0 s _ (HX.out.up HU4.out) A kb ks kN E HP.out).mono ?_
  rintro e w5 ⟨o5, c5, rfl, ho5, u5⟩
  have HB5 := Lib.hid (HB4.out.up u5)
  have HU5 := Lib.hid (HU4.out.trans u5)
  have HO5 := Lib.hid ho5
  have hbx := HB5.out
  obtain ⟨x0, x1, x2⟩ := hbx.cells
  have y0 := hbx.frozen 0
  have y1 := hbx.frozen 1
  have y2 := hbx.frozen 2
  have hset := hbx.set (.bool kb) (.int .i64 ks) (.int .i64 kN)
  obtain ⟨w6, hw6⟩ : ∃ w6, ((w5.setCell ⟨w2.heap.size, 0, none⟩ (.bool kb)).setCell ⟨w2.heap.size, 1, none⟩ (.int .i64 ks)).setCell ⟨w2.heap.size, 2, none⟩ (.int .i64 kN) = w6 := ⟨_, rfl⟩
  rw [hw6] at hset
  have hlt : w2.heap.size < w4.heap.size := HB4.out.lt
  have HO6 : Hid (OItems w6 w4.heap.size (.slice o5 A.length c5) A) := by
    refine OItems.keep HO5.out fun b hb => ?_
    have hb1 := (World.ownsRow.lt HO5.out b hb).1
    have hne : w2.heap.size ≠ b := by omega
    rw [← hw6]
    simp [World.setCell, Array.getElem?_modify, hne]
  have HU6 : Hid (Up w w6) := by
    show Up w w6
    have hle : w.heap.size ≤ w2.heap.size := HU2.out.size
    rw [← hw6]
    exact ((Below.setCell HU5.out (p := ⟨w2.heap.size, 0, none⟩) hle _).setCell (p := ⟨w2.heap.size, 1, none⟩) hle _).setCell (p := ⟨w2.heap.size, 2, none⟩) hle _
  obtain ⟨z0', z1', z2'⟩ := hset.cells
  rw [← hw6] at z0' z1' z2'
  have HW6 := Lib.hid hw6
  clear ho5 u5 hbx hset hw6 hlt HB5 HB4 HU4 HO5
  by_cases hE : E = 0
  case neg =>
    have hA : A = [] := by have h := put_err (F := FP) (l := z0) (t := s) (by rw [HP.out]; exact hE); rw [HP.out] at h; exact h
    subst hA
    have hne : (E != 0) = true := by rw [bne_iff_ne]; exact hE
    clear hE z0' z1' z2'
    go_wp2_with fail
    rw [HW6.out]
    go_ret
    exact ⟨rfl, HU6.out⟩
  subst hE
  have HD := Lib.hid (drop_put HP.out)
  go_wp2_with fail
  rw [HW6.out]
  refine (drop_open _ A kb ks kN _ HO6.out.items z0 0 HD.out).mono ?_
  rintro e w7 ⟨o7, c7, rfl, ho7, u7⟩
  have HO7 := Lib.hid ho7
  have HU7 := Lib.hid (HU6.out.trans u7)
  clear ho7 u7 z0' z1' z2' x0 x1 x2 y0 y1 y2
  go_wp2_with fail
  refine (equalI_yes _ _ z0 _ HO7.out.items (HX.out.up HU7.out)).mono ?_
  rintro e w8 ⟨rfl, u8⟩
  go_wp2_with fail
  go_ret
  exact ⟨rfl, HU7.out.trans u8⟩

end Go.Proofs.Ytldcaadbkcbdjaa
