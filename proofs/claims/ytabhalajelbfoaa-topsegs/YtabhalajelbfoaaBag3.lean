/-
  What checkItem of package bag returns. Conditions: the row can be read; at most 64 items before.
-/
import Derived.Test.YtabhalajelbfoaaBag2
import Derived.Deep.QuietTactic
import Derived.BigQuiet
namespace Go.Proofs.Ytabhalajelbfoaa
open Go.RowKit
open Go.Proofs
open WoolBag

theorem errI_2 (F : List UInt8 → Int) (l : List Itm) (x : Itm) (h : 64 < x.t.length) : errI F l x = 2 := by unfold errI; rw [if_pos h]
theorem errI_6 (F : List UInt8 → Int) (l : List Itm) (x : Itm) (h : ¬ 64 < x.t.length) (h2 : x.s ≠ F x.t) : errI F l x = 6 := by unfold errI; rw [if_neg h, if_pos h2]
theorem errI_1 (F : List UInt8 → Int) (l : List Itm) (x : Itm) (h : ¬ 64 < x.t.length) (h2 : x.s = F x.t) (h3 : argB x = true) : errI F l x = 1 := by unfold errI; rw [if_neg h, if_neg (by simpa using h2), if_pos h3]
theorem errI_3 (F : List UInt8 → Int) (l : List Itm) (x : Itm) (h : ¬ 64 < x.t.length) (h2 : x.s = F x.t) (h3 : argB x = false) (h4 : lastB l x = false) : errI F l x = 3 := by unfold errI; rw [if_neg h, if_neg (by simpa using h2), if_neg (by simp [h3]), if_pos h4]
theorem errI_5 (F : List UInt8 → Int) (l : List Itm) (x : Itm) (h : ¬ 64 < x.t.length) (h2 : x.s = F x.t) (h3 : argB x = false) (h4 : lastB l x = true) : errI F l x = if l.any (txtB x.t) = true then 5 else 0 := by unfold errI; rw [if_neg h, if_neg (by simpa using h2), if_neg (by simp [h3]), if_neg (by simp [h4])]

set_option maxRecDepth 100000 in
set_option maxHeartbeats 1000000 in
theorem checkItem_any (v : Value) (l : List Itm) (x : Itm) (w : World) (h : Items w v l) (hl : l.length ≤ 64) :
    Calls Try.prog 38 #[v, itV x] w fun e w' => e = .returned (.int .i64 (errI FP l x)) ∧ Up w w' := by
  have hsz := bs_size x.t
  by_cases h1 : 64 < x.t.length
  · rw [errI_2 _ _ _ h1]
    obtain ⟨o, c, rfl, _⟩ := h.slice
    unfold itV
    rw [← hsz] at h1
    generalize bs x.t = xt at h1 ⊢
    clear hsz h
    go_enter Try.func38, Try.ntmps38
    go_wp2_with fail
    go_ret
    exact ⟨rfl, Up.alloc _ _⟩
  have HFP := Lib.hid (fingerprint_any x.t)
  have HX := Lib.hid h
  have hs1 : (bs x.t).size ≤ 64 := by omega
  obtain ⟨E, hE⟩ : ∃ E, errI FP l x = E := ⟨_, rfl⟩
  rw [hE]
  have HE := Lib.hid hE
  obtain ⟨o, c, rfl, hc⟩ := h.slice
  unfold maxLen at hc
  obtain ⟨xs, xn, xt, xr⟩ := x
  obtain ⟨F, hF⟩ : ∃ F, FP xt = F := ⟨_, rfl⟩
  have HF := Lib.hid hF
  have HLL := Lib.hid h1
  simp only at hs1 h1 HFP
  unfold itV
  simp only
  clear hsz hE hF h
  go_enter Try.func38, Try.ntmps38
  go_wp2_with fail
  have q0 := World.cell?_alloc_new w #[.int .i64 xs, .int .i64 xn, .string (bs xt), .int .i64 xr] 43 0
  have q2 := World.cell?_alloc_new w #[.int .i64 xs, .int .i64 xn, .string (bs xt), .int .i64 xr] 43 2
  have q4 : w.heap.size < (w.alloc (.cells #[.int .i64 xs, .int .i64 xn, .string (bs xt), .int .i64 xr] 43)).heap.size := by simp
  go_region_held3 (fun U => U.cell? ⟨w.heap.size, 0, none⟩ = some (.int .i64 xs) ∧ U.cell? ⟨w.heap.size, 2, none⟩ = some (.string (bs xt))) (go_keep)
    ((go_at_call 41; ((with_reducible refine (HFP.out _ (by omega)).mono ?_); rintro e w4 ⟨rfl, u4⟩; rw [HF.out]; have f0 := (Below.cell u4 (p := ⟨w.heap.size, 0, none⟩) q4).trans q0; have f2 := (Below.cell u4 (p := ⟨w.heap.size, 2, none⟩) q4).trans q2)))
  have f0' : w4.cell? ⟨w.heap.size, 0, none⟩ = some (.int .i64 xs) := f0
  have f1' : w4.cell? ⟨w.heap.size, 1, none⟩ = some (.int .i64 xn) := (Below.cell u4 (p := ⟨w.heap.size, 1, none⟩) q4).trans (World.cell?_alloc_new w #[.int .i64 xs, .int .i64 xn, .string (bs xt), .int .i64 xr] 43 1)
  have f2' : w4.cell? ⟨w.heap.size, 2, none⟩ = some (.string (bs xt)) := f2
  have f3' : w4.cell? ⟨w.heap.size, 3, none⟩ = some (.int .i64 xr) := (Below.cell u4 (p := ⟨w.heap.size, 3, none⟩) q4).trans (World.cell?_alloc_new w #[.int .i64 xs, .int .i64 xn, .string (bs xt), .int .i64 xr] 43 3)
  have HU4 : Hid (Up w w4) := (Up.alloc _ _).trans ((Up.drew _).trans u4)
  have hB4 : w.heap.size < w4.heap.size := Nat.lt_of_lt_of_le q4 u4.size
  generalize w.heap.size = B at f0' f1' f2' f3' hB4 ⊢
  clear f0 f2 q0 q2 q4 u4
  by_cases g1 : xs ≠ F
  · have g2 : (xs != F) = true := by rw [bne_iff_ne]; exact g1
    have he : E = 6 := by rw [← HE.out]; exact errI_6 _ _ _ HLL.out (by simp only; rw [HF.out]; exact g1)
    have HEE := Lib.hid he
    clear g1 he
    go_wp2_with fail
    go_ret
    exact ⟨by rw [HEE.out]; rfl, HU4.out⟩
  · have g1' := Decidable.not_not.1 g1
    clear g1
    subst g1'
    have g2 : (xs != xs) = false := by simp
    by_cases g3 : argB ⟨xs, xn, xt, xr⟩ = true
    · have he : E = 1 := by rw [← HE.out]; exact errI_1 _ _ _ HLL.out (by simp only; rw [HF.out]) g3
      have HEE := Lib.hid he
      clear he
      unfold argB at g3
      simp only [Bool.or_eq_true, decide_eq_true_iff] at g3
      have HG := Lib.hid g3
      clear g3
      by_cases e1 : xn < 0
      · go_wp2_with fail
        go_ret
        exact ⟨by rw [HEE.out]; rfl, HU4.out⟩
      by_cases e2 : 63 < xn
      · go_wp2_with fail
        go_ret
        exact ⟨by rw [HEE.out]; rfl, HU4.out⟩
      by_cases e3 : xr < 1
      · go_wp2_with fail
        go_ret
        exact ⟨by rw [HEE.out]; rfl, HU4.out⟩
      have e4 : 1000000 < xr := by
        rcases HG.out with ((h | h) | h) | h
        · exact absurd h e1
        · exact absurd h e2
        · exact absurd h e3
        · exact h
      go_wp2_with fail
      go_ret
      exact ⟨by rw [HEE.out]; rfl, HU4.out⟩
    · have g3' : argB ⟨xs, xn, xt, xr⟩ = false := by simpa using g3
      obtain ⟨e1, e2, e3, e4⟩ := (arg_iff _).1 g3'
      simp only at e1 e2 e3 e4
      have HG := Lib.hid g3'
      have HT := Lib.hid (hasText_make xt)
      clear g3 g3'
      have hend : ∀ w5, Up w4 w5 → lastB l ⟨xs, xn, xt, xr⟩ = true → Calls Try.prog 18 #[.string (bs xt)] w5 fun e w6 => ∃ lb, e = .returned (.func (.func 39) #[] lb) ∧ Up w5 w6 ∧
          (Calls Try.prog 43 #[.slice o l.length c, .func (.func 39) #[] lb] w6 fun e w7 => e = .returned (.bool (l.any (txtB xt))) ∧ Up w6 w7) := fun w5 u5 _ => by
        refine (HT.out w5).mono ?_
        rintro e w6 ⟨lb, rfl, u6, hp⟩
        exact ⟨lb, rfl, u6, containsF _ l w6 _ lb _ eg_text (HX.out.up ((HU4.out.trans u5).trans u6)) hp⟩
      have HEND := Lib.hid hend
      clear hend
      have hfin : ∀ b, l.any (txtB xt) = b → lastB l ⟨xs, xn, xt, xr⟩ = true → E = if b = true then 5 else 0 := fun b hb hq => by
        rw [← HE.out, errI_5 _ _ _ HLL.out (by simp only; rw [HF.out]) HG.out hq]
        simp only
        rw [hb]
      have HFIN := Lib.hid hfin
      clear hfin
      by_cases hn : l = []
      · subst hn
        have hla : lastB [] ⟨xs, xn, xt, xr⟩ = true := rfl
        have HLA := Lib.hid hla
        have HF5 := Lib.hid (HFIN.out false rfl hla)
        have hz : decide (0 < (0 : Int)) = false := rfl
        clear hla HFIN
        go_wp2_with fail
        go_quiet (fail)
        all_goals
          go_wp2_with fail
          refine (HEND.out _ (Up.drewN _ _) HLA.out).mono ?_
          rintro e w6 ⟨lb, rfl, u6, hcon⟩
          have HCON := Lib.hid hcon
          clear hcon
          go_wp2_with fail
          refine HCON.out.mono ?_
          rintro e w7 ⟨rfl, u7⟩
          rw [show List.any ([] : List Itm) (txtB xt) = false from rfl]
          go_wp2_with fail
          go_ret
          exact ⟨by rw [HF5.out]; rfl, HU4.out.trans (((Up.drewN _ _).trans u6).trans u7)⟩
      · obtain ⟨N, hN⟩ : ∃ N, l.length = N + 1 := ⟨l.length - 1, by have := List.length_pos_iff.2 hn; omega⟩
        obtain ⟨o', c', hv, h2, _, h4⟩ := HX.out
        simp only [Value.slice.injEq] at hv
        obtain ⟨rfl, _, rfl⟩ := hv
        rcases h4 with h4 | ⟨b, off, rfl, h6⟩
        · exact absurd h4 hn
        obtain ⟨a1, a2, a3, a4⟩ := h6 N (by omega)
        have k1 := World.block_lt_of_cell? w _ a1
        have U4 := HU4.out
        have a1' := (U4.cell k1).trans a1
        have a2' := (U4.cell (World.block_lt_of_cell? w _ a2)).trans a2
        have a3' := (U4.cell (World.block_lt_of_cell? w _ a3)).trans a3
        have a4' := (U4.cell (World.block_lt_of_cell? w _ a4)).trans a4
        have hb4 : b < w4.heap.size := Nat.lt_of_lt_of_le k1 U4.size
        obtain ⟨la, hla⟩ : ∃ la, l[N]'(by omega) = la := ⟨_, rfl⟩
        have hlast : lastB l ⟨xs, xn, xt, xr⟩ = behB la ⟨xs, xn, xt, xr⟩ := by
          unfold lastB
          rw [List.getLast?_eq_getElem?, hN, Nat.add_sub_cancel, List.getElem?_eq_getElem (by omega), hla]
        rw [hla] at a1' a2' a3' a4'
        have HMK := Lib.hid (isBehind_make la)
        unfold itV at HMK
        have HLAST := Lib.hid hlast
        obtain ⟨n, hn'⟩ : ∃ n, l.length = n := ⟨_, rfl⟩
        rw [hn'] at hl hN h2 HEND
        have p1 : IntKind.i64.wrap ((n : Int) - 1) = (N : Int) := by rw [show (n : Int) - 1 = (N : Int) by omega]; exact IntWalk.i64_in _ (by omega)
        have p2 : N < n := by omega
        have p3 : 0 < n := by omega
        clear a1 a2 a3 a4 h6 k1 U4 hlast hn hla
        obtain ⟨P, hP⟩ : ∃ P, behB la ⟨xs, xn, xt, xr⟩ = P := ⟨_, rfl⟩
        have HPP := Lib.hid hP
        clear hP
        rw [hn']
        have HNN := Lib.hid hn'
        clear hn' hN
        generalize la.s = ls at *
        generalize la.n = ln at *
        generalize bs la.t = lt at *
        generalize la.r = lr at *
        go_wp2_with fail
        go_region_held3 (fun U => (U.cell? ⟨B, 0, none⟩ = some (.int .i64 xs) ∧ U.cell? ⟨B, 1, none⟩ = some (.int .i64 xn) ∧ U.cell? ⟨B, 2, none⟩ = some (.string (bs xt)) ∧ U.cell? ⟨B, 3, none⟩ = some (.int .i64 xr)) ∧ U.cell? ⟨b, off + N * 4, none⟩ = some (.int .i64 ls) ∧ U.cell? ⟨b, off + N * 4 + 1, none⟩ = some (.int .i64 ln) ∧ U.cell? ⟨b, off + N * 4 + 2, none⟩ = some (.string lt) ∧ U.cell? ⟨b, off + N * 4 + 3, none⟩ = some (.int .i64 lr)) (go_keep) (first
          | (go_at_call 45; ((with_reducible refine (HMK.out _).mono ?_); rintro e w5 ⟨lb, rfl, u5, hp5⟩; have hp6 : Hid (∀ U, Up w5 U → Calls Try.prog 58 (#[.agg #[.int .i64 xs, .int .i64 xn, .string (bs xt), .int .i64 xr]] ++ lb) U fun e w' => e = .returned (.bool P) ∧ Up U w') := (fun U hU => by have hz := hp5 U hU ⟨xs, xn, xt, xr⟩; rw [HPP.out] at hz; exact hz); clear hp5; have b0 := (Below.cell u5 (p := ⟨B, 0, none⟩) hB4).trans f0'; have b1 := (Below.cell u5 (p := ⟨B, 1, none⟩) hB4).trans f1'; have b2 := (Below.cell u5 (p := ⟨B, 2, none⟩) hB4).trans f2'; have b3 := (Below.cell u5 (p := ⟨B, 3, none⟩) hB4).trans f3'; have b4 := (Below.cell u5 (p := ⟨b, off + N * 4, none⟩) hb4).trans a1'; have b5 := (Below.cell u5 (p := ⟨b, off + N * 4 + 1, none⟩) hb4).trans a2'; have b6 := (Below.cell u5 (p := ⟨b, off + N * 4 + 2, none⟩) hb4).trans a3'; have b7 := (Below.cell u5 (p := ⟨b, off + N * 4 + 3, none⟩) hb4).trans a4'; have b8 := Nat.lt_of_lt_of_le hB4 u5.size; have b9 := Nat.lt_of_lt_of_le hb4 u5.size))
          | (go_at_call 58; ((refine (hp6.out _ (Up.refl _)).mono ?_); rintro e w6 ⟨rfl, u6⟩; have z0 := (Below.cell u6 (p := ⟨B, 0, none⟩) b8).trans b0; have z1 := (Below.cell u6 (p := ⟨B, 1, none⟩) b8).trans b1; have z2 := (Below.cell u6 (p := ⟨B, 2, none⟩) b8).trans b2; have z3 := (Below.cell u6 (p := ⟨B, 3, none⟩) b8).trans b3; have z4 := (Below.cell u6 (p := ⟨b, off + N * 4, none⟩) b9).trans b4; have z5 := (Below.cell u6 (p := ⟨b, off + N * 4 + 1, none⟩) b9).trans b5; have z6 := (Below.cell u6 (p := ⟨b, off + N * 4 + 2, none⟩) b9).trans b6; have z7 := (Below.cell u6 (p := ⟨b, off + N * 4 + 3, none⟩) b9).trans b7)))
        have HU6 : Hid (Up w4 w6) := ((Up.drew _).trans u5).trans u6
        cases P with
        | false =>
          have he : E = 3 := by rw [← HE.out]; exact errI_3 _ _ _ HLL.out (by simp only; rw [HF.out]) HG.out (by rw [HLAST.out]; exact HPP.out)
          have HEE := Lib.hid he
          clear he
          go_wp2_with fail
          go_ret
          exact ⟨by rw [HEE.out]; rfl, HU4.out.trans HU6.out⟩
        | true =>
          have HLA : Hid (lastB l ⟨xs, xn, xt, xr⟩ = true) := by show _ = _; rw [HLAST.out]; exact HPP.out
          obtain ⟨Q, hQ⟩ : ∃ Q, l.any (txtB xt) = Q := ⟨_, rfl⟩
          have HF5 := Lib.hid (HFIN.out Q hQ HLA.out)
          have HQ := Lib.hid hQ
          clear hQ
          go_wp2_with fail
          refine (HEND.out _ HU6.out HLA.out).mono ?_
          rintro e w7 ⟨lb2, rfl, u7, hcon⟩
          have HCON := Lib.hid hcon
          clear hcon
          go_wp2_with fail
          refine HCON.out.mono ?_
          rintro e w8 ⟨rfl, u8⟩
          rw [HQ.out]
          cases Q with
          | true =>
            go_wp2_with fail
            go_ret
            exact ⟨by rw [HF5.out]; rfl, HU4.out.trans ((HU6.out.trans u7).trans u8)⟩
          | false =>
            go_wp2_with fail
            go_ret
            exact ⟨by rw [HF5.out]; rfl, HU4.out.trans ((HU6.out.trans u7).trans u8)⟩

end Go.Proofs.Ytabhalajelbfoaa
