/-
  The walk of the law BagOwn: a bag that is handed in stays as it is, and what is answered shares nothing with it. Condition: the slice takes at most 2^47 - 4096 bytes (the form's reach).
-/
import Derived.Test.YtldcaadbkcbdjaaBagU
namespace Go.Proofs.Ytldcaadbkcbdjaa
open Go.RowKit
open Go.Proofs
open WoolBag

theorem put_len (l : List Itm) (t : List UInt8) : (WoolBag.put FP l t).1.length ≤ 64 := by
  by_cases h : (WoolBag.put FP l t).2.2 = 0
  · obtain ⟨⟨L, i, E⟩, hP⟩ : ∃ R, WoolBag.put FP l t = R := ⟨_, rfl⟩
    rw [hP] at h ⊢
    simp only at h ⊢
    subst h
    exact (put_spec hP).1.len
  · rw [put_err h]; simp

theorem drop_len (l : List Itm) (i : Bool × Int × Int) : (WoolBag.drop FP l i).1.length ≤ 64 := by
  by_cases h : (WoolBag.drop FP l i).2 = 0
  · obtain ⟨⟨L, E⟩, hP⟩ : ∃ R, WoolBag.drop FP l i = R := ⟨_, rfl⟩
    rw [hP] at h ⊢
    simp only at h ⊢
    subst h
    exact (drop_bag hP).len
  · rw [drop_err h]; simp

theorem OItems.grown {w w' : World} {base : Nat} {v : Value} {l : List Itm} {row : Option Nat} (h : OItems w base v l) (hg : w.grownBy w' row) (hne : ∀ b, v.ownBlock = some b → some b ≠ row) : OItems w' base v l :=
  h.keep fun b hb => hg.block b (World.ownsRow.lt h b hb).2 (hne b hb)

set_option maxRecDepth 100000 in
set_option maxHeartbeats 2000000 in
theorem bagOwn_walk (a0 : Option Addr) (len0 cap0 : Nat) (z0 : List Itm) (a1 : ByteArray) (b2 : Bool) (m2 n2 : Int) (w : World) (w0 : Items w (.slice a0 len0 cap0) z0) (w1 : a1.size ≤ 140737488351232) (s0 : cap0 * 40 ≤ 140737488351232) :
    Calls Try.prog 8 #[.slice a0 len0 cap0, .string a1, .agg #[.bool b2, .int .i64 m2, .int .i64 n2]] w fun e w' => e = .returned (.bool true) ∧ Up w w' := by
  obtain ⟨s, rfl⟩ : ∃ s, a1 = bs s := ⟨_, (bs_of a1).symm⟩
  have HX := Lib.hid w0
  have hzl : z0.length * 40 ≤ 140737488351232 := by
    obtain ⟨o', c', hv, h2, _, _⟩ := w0
    simp only [Value.slice.injEq] at hv
    obtain ⟨_, _, rfl⟩ := hv
    omega
  have HZL := Lib.hid hzl
  have HS0 := Lib.hid s0
  clear w0 w1 hzl s0
  go_enter Try.func8, Try.ntmps8
  go_wp2_with fail
  refine (two_open _).mono ?_
  rintro e w1 ⟨o1, c1, rfl, ho1, u1⟩
  have HB2 := Lib.hid (BoxI.up (BoxI.new w 24 (.bool b2) (.int .i64 m2) (.int .i64 n2)) u1)
  have HU1 : Hid (Up w w1) := Up.after _ _ _ u1
  clear ho1 u1
  have hRM : ∀ W, Items W (.slice a0 len0 cap0) z0 → Calls Try.prog 22 #[.slice a0 len0 cap0, .agg #[.int .i64 0, .int .i64 77, .string ⟨#[]⟩, .int .i64 0]] W (RoomPost z0 ⟨0, 77, [], 0⟩ W) := fun W h => roomy_any a0 len0 cap0 z0 ⟨0, 77, [], 0⟩ W h HS0.out
  have HRM := Lib.hid hRM
  clear hRM
  go_wp2_with fail
  refine (HRM.out _ (HX.out.up (HU1.out.trans (Up.alloc _ _)))).mono ?_
  rintro e w2 ⟨g, rfl, hg, hr2, u2⟩
  have HMK := Lib.hid (RowI.up (heap_alloc_new w1 (.cells #[.int .i64 0, .int .i64 77, .string ⟨#[]⟩, .int .i64 0] 34)) u2)
  have HU2 := Lib.hid (HU1.out.trans (Up.after _ _ _ u2))
  have HB22 := Lib.hid (HB2.out.up (Up.after _ _ _ u2))
  have hg2 := hr2.lt
  have hgw : w.heap.size ≤ g := Nat.le_trans HU1.out.size (Nat.le_trans (Up.alloc _ _).size hg)
  have hIN : Items w2 (.slice (some ⟨g, 0, none⟩) z0.length (z0.length + 3)) z0 := (OItems.mk (base := 0) (Nat.zero_le _) hr2 (by omega) (by unfold maxLen; have := HZL.out; omega) (by rw [mkC_length]; omega)).items
  have HIN := Lib.hid hIN
  have HR2 := Lib.hid hr2
  clear u2 hr2 hIN HU1 HB2 HRM hg
  obtain ⟨⟨A, ⟨ib, is, iN⟩, E1⟩, hP⟩ : ∃ R, WoolBag.put FP z0 s = R := ⟨_, rfl⟩
  obtain ⟨⟨D, E2⟩, hD⟩ : ∃ R, WoolBag.drop FP z0 (b2, m2, n2) = R := ⟨_, rfl⟩
  have HAL : Hid (A.length ≤ 64) := by have h := put_len z0 s; rw [hP] at h; exact h
  have HDL : Hid (D.length ≤ 64) := by have h := drop_len z0 (b2, m2, n2); rw [hD] at h; exact h
  have HP := Lib.hid hP
  have HPD := Lib.hid hD
  clear hP hD
  go_wp2_with fail
  refine (put_open _ z0 s _ HIN.out A ib is iN E1 HP.out).mono ?_
  rintro e w3 ⟨o3, c3, rfl, ho3, u3⟩
  have hblk3 := Up.alloc w3 (.cells #[.bool ib, .int .i64 is, .int .i64 iN] 24)
  have HO3 := Lib.hid (ho3.up hblk3)
  have HU3 := Lib.hid (u3.trans hblk3)
  obtain ⟨x0, x1, x2⟩ := (HB22.out.up HU3.out).cells
  have hsz3 := HU3.out.size
  have HW23 : Hid (w2.heap.size ≤ (w3.alloc (.cells #[.bool ib, .int .i64 is, .int .i64 iN] 24)).heap.size) := HU3.out.size
  clear ho3 u3
  have HB3L : Hid (∀ b, (Value.slice o3 A.length c3).ownBlock = some b → w2.heap.size ≤ b ∧ b < (w3.alloc (.cells #[.bool ib, .int .i64 is, .int .i64 iN] 24)).heap.size) := fun b hb => World.ownsRow.lt HO3.out b hb
  clear hblk3
  go_wp2_with fail
  refine (drop_open _ z0 b2 m2 n2 _ (HIN.out.up HU3.out) D E2 HPD.out).mono ?_
  rintro e w4 ⟨o4, c4, rfl, ho4, u4⟩
  have HO4 := Lib.hid ho4
  have HO34 := Lib.hid (HO3.out.up u4)
  have HU4 := Lib.hid (HU3.out.trans u4)
  have HB4L : Hid (∀ b, (Value.slice o4 D.length c4).ownBlock = some b → (w3.alloc (.cells #[.bool ib, .int .i64 is, .int .i64 iN] 24)).heap.size ≤ b ∧ b < w4.heap.size) := fun b hb => World.ownsRow.lt ho4 b hb
  clear ho4 u4 x0 x1 x2 hsz3 HU3 HO3
  go_wp2_with fail
  refine (equalI_yes _ _ z0 _ (HIN.out.up HU4.out) (HX.out.up (HU2.out.trans HU4.out))).mono ?_
  rintro e w5 ⟨rfl, u5⟩
  have HU5 := Lib.hid (HU4.out.trans u5)
  have HO35 := Lib.hid (HO34.out.up u5)
  have HO45 := Lib.hid (HO4.out.up u5)
  have hm5 := HMK.out.up HU5.out
  have y0 : w5.cell? ⟨w1.heap.size, 0, none⟩ = some (.int .i64 0) := RowI.cell (L := [.int .i64 0, .int .i64 77, .string ⟨#[]⟩, .int .i64 0]) hm5 rfl
  have y1 : w5.cell? ⟨w1.heap.size, 1, none⟩ = some (.int .i64 77) := RowI.cell (L := [.int .i64 0, .int .i64 77, .string ⟨#[]⟩, .int .i64 0]) hm5 rfl
  have y2 : w5.cell? ⟨w1.heap.size, 2, none⟩ = some (.string ⟨#[]⟩) := RowI.cell (L := [.int .i64 0, .int .i64 77, .string ⟨#[]⟩, .int .i64 0]) hm5 rfl
  have y3 : w5.cell? ⟨w1.heap.size, 3, none⟩ = some (.int .i64 0) := RowI.cell (L := [.int .i64 0, .int .i64 77, .string ⟨#[]⟩, .int .i64 0]) hm5 rfl
  clear u5 hm5 HU4 HO34 HO4
  have hMA : ∀ W, Up w2 W → Calls Try.prog 23 #[.slice (some ⟨g, 0, none⟩) z0.length (z0.length + 3), .agg #[.int .i64 0, .int .i64 77, .string ⟨#[]⟩, .int .i64 0]] W fun e w' => e = .returned (.bool true) ∧ Up W w' := fun W h => marked_any g z0 ⟨0, 77, [], 0⟩ W (HR2.out.up h) HZL.out
  have HMA := Lib.hid hMA
  clear hMA
  go_wp2_with fail
  refine (HMA.out _ HU5.out).mono ?_
  rintro e w6 ⟨rfl, u6⟩
  have HU6 := Lib.hid (HU5.out.trans u6)
  have HO36 := Lib.hid (HO35.out.up u6)
  have HO46 := Lib.hid (HO45.out.up u6)
  clear u6 HU5 HO35 HO45 y0 y1 y2 y3 HMA
  go_wp2_with fail
  refine (sclone_any _ A _ HO36.out.items HAL.out).mono ?_
  rintro e w7 ⟨v7, rfl, ho7, u7⟩
  have HU7 := Lib.hid (HU6.out.trans u7)
  have HO7 := Lib.hid ho7
  have HO37 := Lib.hid (HO36.out.up u7)
  have HO47 := Lib.hid (HO46.out.up u7)
  have HSZ67 : Hid (w6.heap.size ≤ w7.heap.size) := u7.size
  have HSZ46 : Hid (∀ b, (Value.slice o4 D.length c4).ownBlock = some b → b < w6.heap.size) := fun b hb => (World.ownsRow.lt HO46.out b hb).2
  have HSZ36 : Hid (∀ b, (Value.slice o3 A.length c3).ownBlock = some b → b < w6.heap.size) := fun b hb => (World.ownsRow.lt HO36.out b hb).2
  have HW6 : Hid (w2.heap.size ≤ w6.heap.size) := HU6.out.size
  clear ho7 u7 HU6 HO36 HO46
  go_wp2_with fail
  refine (sclone_any _ D _ HO47.out.items HDL.out).mono ?_
  rintro e w8 ⟨v8, rfl, ho8, u8⟩
  have HU8 := Lib.hid (HU7.out.trans u8)
  have HO8 := Lib.hid ho8
  have HO78 := Lib.hid (HO7.out.up u8)
  have HO38 := Lib.hid (HO37.out.up u8)
  have HO48 := Lib.hid (HO47.out.up u8)
  clear ho8 u8 HU7 HO7 HO37 HO47
  have hSP : ∀ (v : Value) (l : List Itm) (base : Nat) (r : Int) (W : World), OItems W base v l → Calls Try.prog 25 #[v, .agg #[.int .i64 0, .int .i64 0, .string ⟨#[]⟩, .int .i64 r]] W fun e w' => e = .returned (.tuple #[]) ∧ W.grownBy w' v.ownBlock := fun v l base r W h => spoil_any v l base ⟨0, 0, [], r⟩ W h
  have HSP := Lib.hid hSP
  have HOI : Hid (OItems w8 0 (.slice (some ⟨g, 0, none⟩) z0.length (z0.length + 3)) z0) := OItems.mk (base := 0) (Nat.zero_le _) (HR2.out.up HU8.out) (by omega) (by unfold maxLen; have := HZL.out; omega) (by rw [mkC_length]; omega)
  have hw28 := HU8.out.size
  have HV7L : Hid (∀ b, v7.ownBlock = some b → w6.heap.size ≤ b) := fun b hb => (World.ownsRow.lt HO78.out b hb).1
  have HV8L : Hid (∀ b, v8.ownBlock = some b → w7.heap.size ≤ b) := fun b hb => (World.ownsRow.lt HO8.out b hb).1
  have HW26 : Hid (w2.heap.size ≤ w6.heap.size) := HW6.out
  clear hSP
  go_wp2_with fail
  refine (HSP.out _ z0 0 5 _ HOI.out).mono ?_
  rintro e w9 ⟨rfl, hg9⟩
  have hg9' : w8.grownBy w9 (some g) := hg9
  have HO39 := Lib.hid (HO38.out.grown hg9' (fun b hb e => by cases e; have := (HB3L.out _ hb).1; omega))
  have HO79 := Lib.hid (HO78.out.grown hg9' (fun b hb e => by cases e; have := HV7L.out _ hb; have := HW26.out; omega))
  have HO49 := Lib.hid (HO48.out.grown hg9' (fun b hb e => by cases e; have h1 := (HB4L.out _ hb).1; have h2 := HW23.out; omega))
  have HO89 := Lib.hid (HO8.out.grown hg9' (fun b hb e => by cases e; have := HV8L.out _ hb; have := HW26.out; have := HSZ67.out; omega))
  have HU9 : Hid (Up w w9) := Below.grown (HU2.out.trans HU8.out) hg9' (HU2.out.trans HU8.out).size (fun j hj => by cases hj; exact hgw)
  clear hg9 hg9' HO38 HO78 HO48 HO8 HOI
  go_wp2_with fail
  refine (equalI_yes _ _ A _ HO39.out.items HO79.out.items).mono ?_
  rintro e w10 ⟨rfl, u10⟩
  have HO310 := Lib.hid (HO39.out.up u10)
  have HO410 := Lib.hid (HO49.out.up u10)
  have HO810 := Lib.hid (HO89.out.up u10)
  have HU10 := Lib.hid (HU9.out.trans u10)
  clear u10 HO39 HO49 HO79 HO89 HU9
  go_wp2_with fail
  refine (HSP.out _ A _ 0 _ HO310.out).mono ?_
  rintro e w11 ⟨rfl, hg11⟩
  have HO411 := Lib.hid (HO410.out.grown hg11 (fun b hb e => by have h1 := (HB4L.out _ hb).1; have h2 := (HB3L.out _ e.symm).2; omega))
  have HO811 := Lib.hid (HO810.out.grown hg11 (fun b hb e => by have h1 := HV8L.out _ hb; have h2 := HSZ36.out _ e.symm; have := HSZ67.out; omega))
  have HU11 : Hid (Up w w11) := Below.grown HU10.out hg11 HU10.out.size (fun j hj => Nat.le_trans HU2.out.size (HB3L.out _ hj).1)
  clear hg11 HO310 HO410 HO810 HU10
  go_wp2_with fail
  refine (equalI_yes _ _ D _ HO411.out.items HO811.out.items).mono ?_
  rintro e w12 ⟨rfl, u12⟩
  go_wp2_with fail
  go_ret
  exact ⟨rfl, HU11.out.trans u12⟩

end Go.Proofs.Ytldcaadbkcbdjaa
