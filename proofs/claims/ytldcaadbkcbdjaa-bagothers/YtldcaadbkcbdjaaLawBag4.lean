/-
  The walk of the law BagOthers: what is put or dropped changes no other block, nor its identifier. No condition.
-/
import Derived.Test.YtldcaadbkcbdjaaBagO
namespace Go.Proofs.Ytldcaadbkcbdjaa
open Go.RowKit
open Go.Proofs
open WoolBag

theorem fpa : fp 65581 [97] = 353 := by kernel_rfl
theorem fpb : fp 65581 [98] = 354 := by kernel_rfl
theorem FPa : FP [97] = 353 := by unfold FP; rw [fpa]; rfl
theorem FPb : FP [98] = 354 := by unfold FP; rw [fpb]; rfl

theorem one_eq : one1 = [⟨353, 0, [97], 1⟩] := by
  have h := put_new (F := FP) (l := []) (t := [97]) Bag.nil (by simp) (by simp) (by simp)
  unfold one1
  rw [h]
  have hn : new FP [] [97] = ⟨353, 0, [97], 1⟩ := by
    unfold new
    rw [FPa, nfree_stop (by rfl)]
    rfl
  rw [hn]
  rfl

theorem two_eq : twoL = [⟨353, 0, [97], 1⟩, ⟨354, 0, [98], 1⟩] := by
  obtain ⟨i, h, ht⟩ := one_put
  have h2 := put_new (F := FP) (l := one1) (t := [98]) (put_spec h).1 (by simp) (fun x hx e => by rw [ht x hx] at e; cases e) (by rw [one_len]; omega)
  unfold twoL
  rw [h2, one_eq]
  have hn : new FP [⟨353, 0, [97], 1⟩] [98] = ⟨354, 0, [98], 1⟩ := by
    unfold new
    rw [FPb, nfree_stop (by rfl)]
    rfl
  rw [hn]
  rfl

theorem two_get : WoolBag.get FP twoL (true, 353, 0) = ([97], 0) := by
  have h := get_mem two_bag (x := ⟨353, 0, [97], 1⟩) (by rw [two_eq]; simp)
  exact h

set_option maxRecDepth 100000 in
set_option maxHeartbeats 4000000 in
theorem bagOthers_walk (a0 : Option Addr) (len0 cap0 : Nat) (z0 : List Itm) (a1 : ByteArray) (b2 : Bool) (m2 n2 : Int) (b3 : Bool) (m3 n3 : Int) (w : World) (w0 : Items w (.slice a0 len0 cap0) z0) (w1 : a1.size ≤ 140737488351232) :
    Calls Try.prog 6 #[.slice a0 len0 cap0, .string a1, .agg #[.bool b2, .int .i64 m2, .int .i64 n2], .agg #[.bool b3, .int .i64 m3, .int .i64 n3]] w fun e w' => e = .returned (.bool true) ∧ Up w w' := by
  obtain ⟨s, rfl⟩ : ∃ s, a1 = bs s := ⟨_, (bs_of a1).symm⟩
  have HX := Lib.hid w0
  clear w0 w1
  have hG0 : ∀ v W, Items W v twoL → Calls Try.prog 11 #[v, .agg #[.bool true, .int .i64 353, .int .i64 0]] W fun e w' => e = .returned (.tuple #[.string (bs [97]), .int .i64 0]) ∧ Up W w' := fun v W h => get_open v twoL true 353 0 W h [97] 0 two_get
  have HG0 := Lib.hid hG0
  clear hG0
  go_enter Try.func6, Try.ntmps6
  go_wp2_with fail
  refine (two_open _).mono ?_
  rintro e w1 ⟨o1, c1, rfl, ho1, u1⟩
  have HB2 := Lib.hid (BoxI.up (BoxI.up (BoxI.new w 24 (.bool b2) (.int .i64 m2) (.int .i64 n2)) (Up.alloc _ (.cells #[.bool b3, .int .i64 m3, .int .i64 n3] 24))) u1)
  have HB3 := Lib.hid (BoxI.up (BoxI.new (w.alloc (.cells #[.bool b2, .int .i64 m2, .int .i64 n2] 24)) 24 (.bool b3) (.int .i64 m3) (.int .i64 n3)) u1)
  have HU1 : Hid (Up w w1) := Up.after _ _ _ (Up.after _ _ _ u1)
  have HSZ : Hid ((w.alloc (.cells #[.bool b2, .int .i64 m2, .int .i64 n2] 24)).heap.size = w.heap.size + 1) := by show _ = _; simp
  rw [HSZ.out] at HB3
  obtain ⟨o1', c1', hv, hle, hmx, h4⟩ := ho1.items
  have hlen2 := two_len
  simp only [Value.slice.injEq] at hv
  obtain ⟨rfl, h22, rfl⟩ := hv
  clear h22
  rcases h4 with h4 | ⟨bb, off, rfl, h4⟩
  · rw [h4] at hlen2; simp at hlen2
  have hc0 := h4 0 (by omega)
  have h20 : twoL[0]'(by omega) = ⟨353, 0, [97], 1⟩ := by simp only [two_eq]; rfl
  rw [h20] at hc0
  simp only [Nat.zero_mul, Nat.add_zero] at hc0
  have p0 := hc0.1
  have p2 := hc0.2.2.1
  clear hc0
  have HO1 := Lib.hid ho1
  clear ho1 u1 h4 hle hmx hlen2 h20
  have hse := self_eq [97]
  go_wp2_with fail
  refine (HG0.out _ _ HO1.out.items).mono ?_
  rintro e w2 ⟨rfl, u2⟩
  have p2' := (u2.cell (World.block_lt_of_cell? w1 _ p2)).trans p2
  have HU2 := Lib.hid (HU1.out.trans u2)
  have HB22 := Lib.hid (HB2.out.up u2)
  have HB32 := Lib.hid (HB3.out.up u2)
  clear u2 p0 p2 HU1 HB2 HB3 HO1 HG0
  obtain ⟨⟨T, E0⟩, hG⟩ : ∃ R, WoolBag.get FP z0 (b3, m3, n3) = R := ⟨_, rfl⟩
  have HG := Lib.hid hG
  clear hG
  obtain ⟨y0, y1, y2⟩ := HB32.out.cells
  go_wp2_with fail
  refine (get_open _ z0 b3 m3 n3 _ (HX.out.up HU2.out) T E0 HG.out).mono ?_
  rintro e w3 ⟨rfl, u3⟩
  have HU3 := Lib.hid (HU2.out.trans u3)
  have HB23 := Lib.hid (HB22.out.up u3)
  have HB33 := Lib.hid (HB32.out.up u3)
  clear u3 HU2 HB22 HB32 y0 y1 y2 p2'
  by_cases hE : E0 = 0
  case neg =>
    have hT : T = [] := by have h := get_err (F := FP) (l := z0) (i := (b3, m3, n3)) (by rw [HG.out]; exact hE); rw [HG.out] at h; exact h
    subst hT
    have hne : (E0 != 0) = true := by rw [bne_iff_ne]; exact hE
    have hem : (bs []).toList.isEmpty = true := by rw [ByteArray.toList_eq, bs_list]; rfl
    clear hE
    go_wp2_with fail
    go_ret
    exact ⟨rfl, HU3.out⟩
  subst hE
  have hb3 : b3 = true := by obtain ⟨_, x, _, hi, _⟩ := get_ok (F := FP) (l := z0) (i := (b3, m3, n3)) (by rw [HG.out]); exact congrArg Prod.fst hi
  subst hb3
  have HGT := HG
  obtain ⟨⟨A, ⟨ib, is, iN⟩, E1⟩, hP⟩ : ∃ R, WoolBag.put FP z0 s = R := ⟨_, rfl⟩
  obtain ⟨⟨D, E2⟩, hD⟩ : ∃ R, WoolBag.drop FP z0 (b2, m2, n2) = R := ⟨_, rfl⟩
  have HP := Lib.hid hP
  have HPD := Lib.hid hD
  clear hP hD
  go_wp2_with fail
  refine (put_open _ z0 s _ (HX.out.up HU3.out) A ib is iN E1 HP.out).mono ?_
  rintro e w4 ⟨o4, c4, rfl, ho4, u4⟩
  have HO4 := Lib.hid ho4
  have HU4 := Lib.hid (HU3.out.trans u4)
  have HB24 := Lib.hid ((HB23.out.up u4).up (Up.alloc w4 (.cells #[.bool ib, .int .i64 is, .int .i64 iN] 24)))
  have HB34 := Lib.hid ((HB33.out.up u4).up (Up.alloc w4 (.cells #[.bool ib, .int .i64 is, .int .i64 iN] 24)))
  clear ho4 u4 HU3 HB23 HB33
  obtain ⟨x0, x1, x2⟩ := HB24.out.cells
  have hlt := HB34.out.lt
  go_wp2_with fail
  refine (drop_open _ z0 b2 m2 n2 _ (HX.out.up (HU4.out.trans (Up.alloc _ _))) D E2 HPD.out).mono ?_
  rintro e w6 ⟨o6, c6, rfl, ho6, u6⟩
  have HO6 := Lib.hid ho6
  have HU6 := Lib.hid (HU4.out.trans (Up.after _ _ _ u6))
  have HB2 := Lib.hid (HB24.out.up u6)
  have HB3 := Lib.hid (HB34.out.up u6)
  have HB4 := Lib.hid (BoxI.up (BoxI.new w4 24 (.bool ib) (.int .i64 is) (.int .i64 iN)) u6)
  have HO46 := Lib.hid (HO4.out.up (Up.after _ _ _ u6))
  clear ho6 u6 HU4 HB24 HB34 HO4 x0 x1 x2 hlt
  have hst := txt_eq T s
  have hTT := self_eq T
  by_cases hE1 : E1 = 0
  case neg =>
    have hne1 : (E1 == 0) = false := by simpa using hE1
    have HUF : Hid (Up w6 w6) := Up.refl _
    clear hE1 hst
    obtain ⟨x0, x1, x2⟩ := (HB2.out.up HUF.out).cells
    obtain ⟨y0, y1, y2⟩ := (HB3.out.up HUF.out).cells
    by_cases hE2 : E2 = 0
    case neg =>
      have hne2 : (E2 != 0) = true := by rw [bne_iff_ne]; exact hE2
      have hne3 : (E2 == 0) = false := by simpa using hE2
      have hD : D = [] := by have h := drop_err (F := FP) (l := z0) (i := (b2, m2, n2)) (by rw [HPD.out]; exact hE2); rw [HPD.out] at h; exact h
      subst hD
      clear hE2
      go_wp2_with fail
      go_ret
      exact ⟨rfl, HU6.out.trans HUF.out⟩
    subst hE2
    have hb2 : b2 = true := by obtain ⟨_, k, hk, hi, _⟩ := drop_ok HPD.out; exact congrArg Prod.fst hi
    subst hb2
    by_cases e1 : m2 = m3
    · subst e1
      by_cases e2 : n2 = n3
      · subst e2
        go_wp2_with fail
        go_ret
        exact ⟨rfl, HU6.out.trans HUF.out⟩
      · have d2 : (n2 == n3) = false := by simpa using e2
        have HGD := Lib.hid (get_drop HGT.out HPD.out (fun h => e2 (by simpa using h)))
        clear e2
        go_wp2_with fail
        refine (get_open _ D true _ _ _ (HO6.out.items.up HUF.out) T 0 HGD.out).mono ?_
        rintro e wG ⟨rfl, uG⟩
        go_wp2_with fail
        go_ret
        exact ⟨rfl, (HU6.out.trans HUF.out).trans uG⟩
    · have d1 : (m2 == m3) = false := by simpa using e1
      have HGD := Lib.hid (get_drop HGT.out HPD.out (fun h => e1 (by simp at h; exact h.1)))
      clear e1
      go_wp2_with fail
      refine (get_open _ D true _ _ _ (HO6.out.items.up HUF.out) T 0 HGD.out).mono ?_
      rintro e wG ⟨rfl, uG⟩
      go_wp2_with fail
      go_ret
      exact ⟨rfl, (HU6.out.trans HUF.out).trans uG⟩
  subst hE1
  have hib : ib = true := by obtain ⟨_, ⟨x, _, hi, _⟩, _⟩ := put_spec HP.out; exact (congrArg Prod.fst hi).symm
  subst hib
  obtain ⟨hgA, hiff⟩ := get_other HG.out HP.out
  have HGA := Lib.hid hgA
  have HIFF := Lib.hid hiff
  clear hgA hiff
  obtain ⟨y0, y1, y2⟩ := HB3.out.cells
  go_wp2_with fail
  refine (get_open _ A true m3 n3 _ HO46.out.items T 0 HGA.out).mono ?_
  rintro e w7 ⟨rfl, u7⟩
  have HUF := Lib.hid u7
  clear u7 y0 y1 y2
  obtain ⟨v0, v1, v2⟩ := (HB4.out.up HUF.out).cells
  by_cases e0 : T = s
  · have hik := HIFF.out.2 e0
    simp only [Prod.mk.injEq, true_and] at hik
    have g1 := hik.1.symm
    have g2 := hik.2.symm
    clear hik
    subst g1 g2
    have hst' : ((bs T).toList == (bs s).toList) = true := by rw [hst]; simpa using e0
    clear hst e0
    obtain ⟨x0, x1, x2⟩ := (HB2.out.up HUF.out).cells
    obtain ⟨y0, y1, y2⟩ := (HB3.out.up HUF.out).cells
    by_cases hE2 : E2 = 0
    case neg =>
      have hne2 : (E2 != 0) = true := by rw [bne_iff_ne]; exact hE2
      have hne3 : (E2 == 0) = false := by simpa using hE2
      have hD : D = [] := by have h := drop_err (F := FP) (l := z0) (i := (b2, m2, n2)) (by rw [HPD.out]; exact hE2); rw [HPD.out] at h; exact h
      subst hD
      clear hE2
      go_wp2_with fail
      go_ret
      exact ⟨rfl, HU6.out.trans HUF.out⟩
    subst hE2
    have hb2 : b2 = true := by obtain ⟨_, k, hk, hi, _⟩ := drop_ok HPD.out; exact congrArg Prod.fst hi
    subst hb2
    by_cases e1 : m2 = m3
    · subst e1
      by_cases e2 : n2 = n3
      · subst e2
        go_wp2_with fail
        go_ret
        exact ⟨rfl, HU6.out.trans HUF.out⟩
      · have d2 : (n2 == n3) = false := by simpa using e2
        have HGD := Lib.hid (get_drop HGT.out HPD.out (fun h => e2 (by simpa using h)))
        clear e2
        go_wp2_with fail
        refine (get_open _ D true _ _ _ (HO6.out.items.up HUF.out) T 0 HGD.out).mono ?_
        rintro e wG ⟨rfl, uG⟩
        go_wp2_with fail
        go_ret
        exact ⟨rfl, (HU6.out.trans HUF.out).trans uG⟩
    · have d1 : (m2 == m3) = false := by simpa using e1
      have HGD := Lib.hid (get_drop HGT.out HPD.out (fun h => e1 (by simp at h; exact h.1)))
      clear e1
      go_wp2_with fail
      refine (get_open _ D true _ _ _ (HO6.out.items.up HUF.out) T 0 HGD.out).mono ?_
      rintro e wG ⟨rfl, uG⟩
      go_wp2_with fail
      go_ret
      exact ⟨rfl, (HU6.out.trans HUF.out).trans uG⟩
  · have hst' : ((bs T).toList == (bs s).toList) = false := by rw [hst]; simpa using e0
    have hik : ¬ (is = m3 ∧ iN = n3) := fun h => e0 (HIFF.out.1 (by rw [h.1, h.2]))
    clear hst e0
    by_cases f1 : is = m3
    · have f1' := f1.symm
      clear f1
      subst f1'
      have f2 : (iN == n3) = false := by simp; intro h; exact hik ⟨rfl, h⟩
      clear hik
      obtain ⟨x0, x1, x2⟩ := (HB2.out.up HUF.out).cells
      obtain ⟨y0, y1, y2⟩ := (HB3.out.up HUF.out).cells
      by_cases hE2 : E2 = 0
      case neg =>
        have hne2 : (E2 != 0) = true := by rw [bne_iff_ne]; exact hE2
        have hne3 : (E2 == 0) = false := by simpa using hE2
        have hD : D = [] := by have h := drop_err (F := FP) (l := z0) (i := (b2, m2, n2)) (by rw [HPD.out]; exact hE2); rw [HPD.out] at h; exact h
        subst hD
        clear hE2
        go_wp2_with fail
        go_ret
        exact ⟨rfl, HU6.out.trans HUF.out⟩
      subst hE2
      have hb2 : b2 = true := by obtain ⟨_, k, hk, hi, _⟩ := drop_ok HPD.out; exact congrArg Prod.fst hi
      subst hb2
      by_cases e1 : m2 = m3
      · subst e1
        by_cases e2 : n2 = n3
        · subst e2
          go_wp2_with fail
          go_ret
          exact ⟨rfl, HU6.out.trans HUF.out⟩
        · have d2 : (n2 == n3) = false := by simpa using e2
          have HGD := Lib.hid (get_drop HGT.out HPD.out (fun h => e2 (by simpa using h)))
          clear e2
          go_wp2_with fail
          refine (get_open _ D true _ _ _ (HO6.out.items.up HUF.out) T 0 HGD.out).mono ?_
          rintro e wG ⟨rfl, uG⟩
          go_wp2_with fail
          go_ret
          exact ⟨rfl, (HU6.out.trans HUF.out).trans uG⟩
      · have d1 : (m2 == m3) = false := by simpa using e1
        have HGD := Lib.hid (get_drop HGT.out HPD.out (fun h => e1 (by simp at h; exact h.1)))
        clear e1
        go_wp2_with fail
        refine (get_open _ D true _ _ _ (HO6.out.items.up HUF.out) T 0 HGD.out).mono ?_
        rintro e wG ⟨rfl, uG⟩
        go_wp2_with fail
        go_ret
        exact ⟨rfl, (HU6.out.trans HUF.out).trans uG⟩
    · have f2 : (is == m3) = false := by simpa using f1
      clear hik f1
      obtain ⟨x0, x1, x2⟩ := (HB2.out.up HUF.out).cells
      obtain ⟨y0, y1, y2⟩ := (HB3.out.up HUF.out).cells
      by_cases hE2 : E2 = 0
      case neg =>
        have hne2 : (E2 != 0) = true := by rw [bne_iff_ne]; exact hE2
        have hne3 : (E2 == 0) = false := by simpa using hE2
        have hD : D = [] := by have h := drop_err (F := FP) (l := z0) (i := (b2, m2, n2)) (by rw [HPD.out]; exact hE2); rw [HPD.out] at h; exact h
        subst hD
        clear hE2
        go_wp2_with fail
        go_ret
        exact ⟨rfl, HU6.out.trans HUF.out⟩
      subst hE2
      have hb2 : b2 = true := by obtain ⟨_, k, hk, hi, _⟩ := drop_ok HPD.out; exact congrArg Prod.fst hi
      subst hb2
      by_cases e1 : m2 = m3
      · subst e1
        by_cases e2 : n2 = n3
        · subst e2
          go_wp2_with fail
          go_ret
          exact ⟨rfl, HU6.out.trans HUF.out⟩
        · have d2 : (n2 == n3) = false := by simpa using e2
          have HGD := Lib.hid (get_drop HGT.out HPD.out (fun h => e2 (by simpa using h)))
          clear e2
          go_wp2_with fail
          refine (get_open _ D true _ _ _ (HO6.out.items.up HUF.out) T 0 HGD.out).mono ?_
          rintro e wG ⟨rfl, uG⟩
          go_wp2_with fail
          go_ret
          exact ⟨rfl, (HU6.out.trans HUF.out).trans uG⟩
      · have d1 : (m2 == m3) = false := by simpa using e1
        have HGD := Lib.hid (get_drop HGT.out HPD.out (fun h => e1 (by simp at h; exact h.1)))
        clear e1
        go_wp2_with fail
        refine (get_open _ D true _ _ _ (HO6.out.items.up HUF.out) T 0 HGD.out).mono ?_
        rintro e wG ⟨rfl, uG⟩
        go_wp2_with fail
        go_ret
        exact ⟨rfl, (HU6.out.trans HUF.out).trans uG⟩

end Go.Proofs.Ytldcaadbkcbdjaa
