/-
  The walk of the law BagTurns: in whichever order two blocks are put each is used as often. No condition.
-/
import Derived.Test.YtldcaadbkcbdjaaBagO
namespace Go.Proofs.Ytldcaadbkcbdjaa
open Go.RowKit
open Go.Proofs
open WoolBag

theorem two_used_a : used twoL [97] = 1 := by
  obtain ⟨i, h, _⟩ := one_put
  obtain ⟨j, h2⟩ := two_put
  rw [used_put h2, used_put h, if_pos rfl, if_neg (by simp), used_none (by simp)]; rfl

theorem two_used_c : used twoL [99] = 0 := by
  obtain ⟨i, h, _⟩ := one_put
  obtain ⟨j, h2⟩ := two_put
  rw [used_put h2, used_put h, if_neg (by simp), if_neg (by simp), used_none (by simp)]; rfl

set_option maxRecDepth 100000 in
set_option maxHeartbeats 2000000 in
theorem bagTurns_walk (a0 : Option Addr) (len0 cap0 : Nat) (z0 : List Itm) (a1 a2 a3 : ByteArray) (w : World) (w0 : Items w (.slice a0 len0 cap0) z0) (w1 : a1.size ≤ 140737488351232) (w2 : a2.size ≤ 140737488351232) (w3 : a3.size ≤ 140737488351232) :
    Calls Try.prog 7 #[.slice a0 len0 cap0, .string a1, .string a2, .string a3] w fun e w' => e = .returned (.bool true) ∧ Up w w' := by
  obtain ⟨s, rfl⟩ : ∃ s, a1 = bs s := ⟨_, (bs_of a1).symm⟩
  obtain ⟨t, rfl⟩ : ∃ t, a2 = bs t := ⟨_, (bs_of a2).symm⟩
  obtain ⟨u, rfl⟩ : ∃ u, a3 = bs u := ⟨_, (bs_of a3).symm⟩
  have HX := Lib.hid w0
  clear w0 w1 w2 w3
  have HUA : Hid (∀ v W, Items W v twoL → Calls Try.prog 21 #[v, .string ⟨#[97]⟩] W fun e w' => e = .returned (.int .i64 1) ∧ Up W w') := fun v W h => by
    have := used_any v twoL [97] W h
    rw [two_used_a] at this
    exact this
  have HUC : Hid (∀ v W, Items W v twoL → Calls Try.prog 21 #[v, .string ⟨#[99]⟩] W fun e w' => e = .returned (.int .i64 0) ∧ Up W w') := fun v W h => by
    have := used_any v twoL [99] W h
    rw [two_used_c] at this
    exact this
  go_enter Try.func7, Try.ntmps7
  go_wp2_with fail
  refine (two_open _).mono ?_
  rintro e w1 ⟨o1, c1, rfl, ho1, u1⟩
  have HO1 := Lib.hid ho1
  have HU1 := Lib.hid u1
  clear ho1 u1
  go_wp2_with fail
  refine (HUA.out _ _ HO1.out.items).mono ?_
  rintro e w2 ⟨rfl, u2⟩
  have HU2 := Lib.hid u2
  clear u2
  go_wp2_with fail
  refine (HUC.out _ _ (HO1.out.items.up HU2.out)).mono ?_
  rintro e w3 ⟨rfl, u3⟩
  have HU3 := Lib.hid (HU1.out.trans (HU2.out.trans u3))
  clear u3 HU2 HU1 HO1 HUA HUC
  obtain ⟨⟨A, ⟨ib, is, iN⟩, E1⟩, hP1⟩ : ∃ R, WoolBag.put FP z0 s = R := ⟨_, rfl⟩
  obtain ⟨⟨A2, ⟨jb, js, jN⟩, E2⟩, hP2⟩ : ∃ R, WoolBag.put FP A t = R := ⟨_, rfl⟩
  obtain ⟨⟨B, ⟨kb, ks, kN⟩, E3⟩, hP3⟩ : ∃ R, WoolBag.put FP z0 t = R := ⟨_, rfl⟩
  obtain ⟨⟨B2, ⟨mb, ms, mN⟩, E4⟩, hP4⟩ : ∃ R, WoolBag.put FP B s = R := ⟨_, rfl⟩
  have HP1 := Lib.hid hP1
  have HP2 := Lib.hid hP2
  have HP3 := Lib.hid hP3
  have HP4 := Lib.hid hP4
  clear hP1 hP2 hP3 hP4
  go_wp2_with fail
  refine (put_open _ z0 s _ (HX.out.up HU3.out) A ib is iN E1 HP1.out).mono ?_
  rintro e w4 ⟨o4, c4, rfl, ho4, u4⟩
  have HO4 := Lib.hid ho4
  have HU4 := Lib.hid (HU3.out.trans u4)
  clear ho4 u4 HU3
  go_wp2_with fail
  refine (put_open _ A t _ (HO4.out.items.up (Up.alloc _ _)) A2 jb js jN E2 HP2.out).mono ?_
  rintro e w5 ⟨o5, c5, rfl, ho5, u5⟩
  have HO5 := Lib.hid ho5
  have HU5 := Lib.hid (HU4.out.trans (Up.after _ _ _ u5))
  clear ho5 u5 HU4 HO4
  go_wp2_with fail
  refine (put_open _ z0 t _ (HX.out.up (HU5.out.trans (Up.alloc _ _))) B kb ks kN E3 HP3.out).mono ?_
  rintro e w6 ⟨o6, c6, rfl, ho6, u6⟩
  have HO6 := Lib.hid ho6
  have HO56 := Lib.hid (HO5.out.up (Up.after _ _ _ u6))
  have HU6 := Lib.hid (HU5.out.trans (Up.after _ _ _ u6))
  clear ho6 u6 HU5 HO5
  go_wp2_with fail
  refine (put_open _ B s _ (HO6.out.items.up (Up.alloc _ _)) B2 mb ms mN E4 HP4.out).mono ?_
  rintro e w7 ⟨o7, c7, rfl, ho7, u7⟩
  have HO7 := Lib.hid (ho7.up (Up.alloc w7 (.cells #[.bool mb, .int .i64 ms, .int .i64 mN] 24)))
  have HO57 := Lib.hid ((HO56.out.up (Up.after _ _ _ u7)).up (Up.alloc w7 (.cells #[.bool mb, .int .i64 ms, .int .i64 mN] 24)))
  have HU7 := Lib.hid ((HU6.out.trans (Up.after _ _ _ u7)).trans (Up.alloc w7 (.cells #[.bool mb, .int .i64 ms, .int .i64 mN] 24)))
  clear ho7 u7 HU6 HO6 HO56
  by_cases e1 : E1 = 0
  case neg =>
    have hne : (E1 != 0) = true := by rw [bne_iff_ne]; exact e1
    clear e1
    go_wp2_with fail
    go_ret
    exact ⟨rfl, HU7.out⟩
  subst e1
  by_cases e2 : E2 = 0
  case neg =>
    have hne : (E2 != 0) = true := by rw [bne_iff_ne]; exact e2
    clear e2
    go_wp2_with fail
    go_ret
    exact ⟨rfl, HU7.out⟩
  subst e2
  by_cases e3 : E3 = 0
  case neg =>
    have hne : (E3 != 0) = true := by rw [bne_iff_ne]; exact e3
    clear e3
    go_wp2_with fail
    go_ret
    exact ⟨rfl, HU7.out⟩
  subst e3
  by_cases e4 : E4 = 0
  case neg =>
    have hne : (E4 != 0) = true := by rw [bne_iff_ne]; exact e4
    clear e4
    go_wp2_with fail
    go_ret
    exact ⟨rfl, HU7.out⟩
  subst e4
  have hlen := length_turns HP1.out HP2.out HP3.out HP4.out
  have hl1 : ((A2.length : Int) == (B2.length : Int)) = true := by simp [hlen]
  have hl2 : (A2.length == B2.length) = true := by simp [hlen]
  have hus : used A2 u = used B2 u := by rw [used_put HP2.out, used_put HP1.out, used_put HP4.out, used_put HP3.out]; omega
  have hs1 : 1 ≤ used A2 s := by
    have h1 := used_pos HP1.out
    have h2 := used_put HP2.out s
    by_cases e : s = t
    · rw [if_pos e] at h2; omega
    · rw [if_neg e] at h2; omega
  have ht1 := used_pos HP2.out
  obtain ⟨N, hN⟩ : ∃ N, used A2 u = N := ⟨_, rfl⟩
  rw [hN] at hus
  have HNA := Lib.hid hN
  have HNB := Lib.hid hus
  obtain ⟨S, hS⟩ : ∃ S, used A2 s = S := ⟨_, rfl⟩
  obtain ⟨T, hT⟩ : ∃ T, used A2 t = T := ⟨_, rfl⟩
  rw [hS] at hs1
  rw [hT] at ht1
  have HS := Lib.hid hS
  have HT := Lib.hid hT
  clear hN hus hS hT hlen
  go_wp2_with fail
  refine (used_any _ A2 u _ HO57.out.items).mono ?_
  rintro e w8 ⟨rfl, u8⟩
  rw [HNA.out]
  have HU8 := Lib.hid u8
  clear u8
  go_wp2_with fail
  refine (used_any _ B2 u _ (HO7.out.items.up HU8.out)).mono ?_
  rintro e w9 ⟨rfl, u9⟩
  rw [← HNB.out]
  have HU9 := Lib.hid (HU8.out.trans u9)
  clear u9 HU8
  go_wp2_with fail
  refine (used_any _ A2 s _ (HO57.out.items.up HU9.out)).mono ?_
  rintro e w10 ⟨rfl, u10⟩
  rw [HS.out]
  have HU10 := Lib.hid (HU9.out.trans u10)
  clear u10 HU9
  go_wp2_with fail
  refine (used_any _ A2 t _ (HO57.out.items.up HU10.out)).mono ?_
  rintro e w11 ⟨rfl, u11⟩
  rw [HT.out]
  go_wp2_with fail
  go_ret
  exact ⟨rfl, HU7.out.trans (HU10.out.trans u11)⟩

end Go.Proofs.Ytldcaadbkcbdjaa
