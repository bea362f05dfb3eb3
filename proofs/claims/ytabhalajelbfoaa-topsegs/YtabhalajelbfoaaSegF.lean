/-
  What add of package seg returns: a record more at the end of segments of the call's own. Conditions: right records, segments whose sizes fit.
-/
import Derived.Test.YtabhalajelbfoaaSegE
import Derived.OwnWalk
import Derived.Laws.OwnMore
import Derived.BigRegion
import Derived.Deep.RegionLaw
import Derived.Deep.AppendLies
import Derived.Deep.QuietTactic
import Derived.BigQuiet
import Derived.IntWalk
namespace Go.Proofs.Ytabhalajelbfoaa
open Go.RowKit
open Go.Proofs
open WoolBag
open WoolSeg

def AddPost (base : Nat) (w : World) (l : List (List Rc)) (e : Ending) (w' : World) : Prop := ∃ v', e = .returned v' ∧ OSgs w' base v' l ∧ Below base w w'

theorem put1_open {l : List (List Rc)} (h : l ≠ []) {r : Rc} (ht : takes (l.getLast h) + takes [r] ≤ 200) : put1 l r = l.set (l.length - 1) (l.getLast h ++ [r]) := by
  unfold put1
  rw [List.getLast?_eq_some_getLast h]
  simp only
  rw [takes_append, if_pos ht]
  have hl := List.length_pos_iff.2 h
  apply List.ext_getElem
  · simp; omega
  · intro i h1 h2
    simp only [List.length_append, List.length_dropLast, List.length_singleton] at h1
    by_cases e : i < l.length - 1
    · rw [List.getElem_append_left (by rw [List.length_dropLast]; exact e), List.getElem_set_ne (by omega), List.getElem_dropLast]
    · have e2 : i = l.length - 1 := by omega
      subst e2
      rw [List.getElem_append_right (by rw [List.length_dropLast]; exact Nat.le_refl _), List.getElem_set_self]
      simp
theorem put1_new {l : List (List Rc)} (h : l ≠ []) {r : Rc} (ht : ¬ takes (l.getLast h) + takes [r] ≤ 200) : put1 l r = l ++ [[r]] := by
  unfold put1
  rw [List.getLast?_eq_some_getLast h]
  simp only
  rw [takes_append, if_neg ht]

set_option maxRecDepth 100000 in
set_option maxHeartbeats 4000000 in
theorem add_any' (v : Value) (l : List (List Rc)) (r : Rc) (base : Nat) (w : World) (h : OSgs w base v l) (hb : base ≤ w.heap.size) (hs : ∀ s ∈ l, Seg s) (hr : errR r = 0) (hl : l.length ≤ 16) :
    Calls Try.prog 22 #[v, rcA r] w (AddPost base w (put1 l r)) := by
  obtain ⟨C, hsl, hrd⟩ := h
  have hlC := hrd.len
  obtain ⟨hr1, hr2⟩ := errR_zero.1 hr
  have HT : Hid ((bs r.2).size ≤ 1000) := by show _ ≤ _; rw [bs_size]; omega
  obtain ⟨o, c, rfl, hc1, hc2⟩ := Sl.slice hsl.sl
  have HSL := Lib.hid hsl
  have HRD := Lib.hid hrd
  have HS := Lib.hid hs
  have HB := Lib.hid hb
  unfold maxLen at hc2
  have hA : rcA r = .agg #[.bool r.1.1, .int .i64 r.1.2.1, .int .i64 r.1.2.2, .string (bs r.2)] := rfl
  have hrC : rcC r = [.bool r.1.1, .int .i64 r.1.2.1, .int .i64 r.1.2.2, .string (bs r.2)] := rfl
  have HRC := Lib.hid hrC
  rw [hA]
  rw [hlC] at hc1 HSL ⊢
  obtain ⟨n, hL⟩ : ∃ n, l.length = n := ⟨_, rfl⟩
  rw [hL] at hc1 HSL hl ⊢
  have HL := Lib.hid hL
  clear hL
  clear hsl hrd hs hb hA hrC hr hr1
  have HR2 := Lib.hid hr2
  have hrT : takes [r] = 8 + r.2.length := by rw [takes_cons, takes_nil, Nat.add_zero]
  have HRT := Lib.hid hrT
  clear hr2 hrT
  generalize r.1.1 = x0 at *
  generalize r.1.2.1 = x1 at *
  generalize r.1.2.2 = x2 at *
  generalize bs r.2 = x3 at *
  go_enter Try.func22, Try.ntmps22
  go_wp2_with fail
  refine (clone_str x3 _ HT.out).mono ?_
  rintro e w1 ⟨rfl, u1⟩
  have hrow : RowC w1 w.heap.size 36 (rcC r) := by rw [HRC.out]; exact RowC.up (heap_alloc_new w _) u1
  have HROW := Lib.hid hrow
  have HU1 : Hid (Up w w1) := (Up.alloc _ _).trans u1
  have f0 := hrow.frozen 3
  have f1 := hrow.cell (j := 3) (v := .string x3) (by rw [HRC.out]; rfl)
  have hsame := hrow.same (j := 3) (v := .string x3) (by rw [HRC.out]; rfl)
  clear hrow u1
  have HSAME := Lib.hid hsame
  clear hsame
  go_wp2_with fail
  rw [HSAME.out]
  clear f0 f1
  have HOWN : Hid (OSl w1 base (.slice o n c) C ∧ OSr w1 base C l) := ⟨own_upS HSL.out HU1.out, HRD.out.up HU1.out⟩
  have HLC := Lib.hid hlC
  clear hlC
  obtain ⟨i0, hi, hz0, hz1, hz2⟩ := sgInfo'
  have HI := Lib.hid hi
  have HZ0 := Lib.hid hz0
  have HZ1 := Lib.hid hz1
  have HZ2 := Lib.hid hz2
  clear hi hz0 hz1 hz2
  by_cases hn : l = []
  · have HNEW : Hid (put1 l r = l ++ [[r]]) := by subst hn; rfl
    have hl0 : n = 0 := by rw [← HL.out, hn]; rfl
    have d0 : decide (((n : Nat) : Int) - 1 < 0) = true := decide_eq_true (by omega)
    have HL0 := Lib.hid hl0
    clear hn hl0
    go_quiet (fail)
    all_goals
      have HU5 : Hid (Up w1 (w1.drewN nq)) := Up.drewN _ _
      generalize w1.drewN nq = w5 at HU5 ⊢
      have hb5 : base ≤ w5.heap.size := Nat.le_trans HB.out (HU1.out.trans HU5.out).size
      have hcells := HROW.out.up HU5.out
      rw [HRC.out] at hcells
      have b0 := hcells.cell (j := 0) rfl
      have b1 := hcells.cell (j := 1) rfl
      have b2 := hcells.cell (j := 2) rfl
      have b3 := hcells.cell (j := 3) rfl
      have U7 : Up w5 ((w5.alloc (.cells #[.bool x0, .int .i64 x1, .int .i64 x2, .string x3] 36)).alloc (.cells #[.slice (some ⟨w5.heap.size, 0, none⟩) 1 1] 45)) := (Up.alloc _ _).trans (Up.alloc _ _)
      have hnr := (recs_new w5 r).up (Up.alloc _ (.cells #[.slice (some ⟨w5.heap.size, 0, none⟩) 1 1] 45))
      rw [HRC.out] at hnr
      have HNR : Hid (ORecs ((w5.alloc (.cells #[.bool x0, .int .i64 x1, .int .i64 x2, .string x3] 36)).alloc (.cells #[.slice (some ⟨w5.heap.size, 0, none⟩) 1 1] 45)) w5.heap.size (.slice (some ⟨w5.heap.size, 0, none⟩) 1 1) [r]) := hnr
      have HO7 := Lib.hid (own_upS HOWN.out.1 (HU5.out.trans U7))
      have HR7 := Lib.hid (HOWN.out.2.up (HU5.out.trans U7))
      have HNB : Hid (∀ k (h : k < l.length) b, (C[k]'(by have := HLC.out; omega)).ownBlock = some b → (Value.slice (some ⟨w5.heap.size, 0, none⟩) 1 1).ownBlock ≠ some b) := fun k h b hb e => by
        have h1 := (World.ownsRow.lt (HOWN.out.2.own k h) b hb).2
        have h2 : w5.heap.size = b := by injection e
        have := HU5.out.size
        omega
      have HB7 : Hid (Below base w ((w5.alloc (.cells #[.bool x0, .int .i64 x1, .int .i64 x2, .string x3] 36)).alloc (.cells #[.slice (some ⟨w5.heap.size, 0, none⟩) 1 1] 45))) := Below.mono ((HU1.out.trans HU5.out).trans U7) HB.out
      have HB6 : Hid (w5.heap.size + 1 = (w5.alloc (.cells #[.bool x0, .int .i64 x1, .int .i64 x2, .string x3] 36)).heap.size) := by show _ = _; simp
      have HB8 : Hid (base ≤ ((w5.alloc (.cells #[.bool x0, .int .i64 x1, .int .i64 x2, .string x3] 36)).alloc (.cells #[.slice (some ⟨w5.heap.size, 0, none⟩) 1 1] 45)).heap.size) := by show _ ≤ _; simp; omega
      have hb8 : C.length ≤ 16 := by have := HLC.out; have := HL.out; omega
      clear hcells U7 hnr
      go_wp2_with (at_builtin; refine wpList_append_own _ rfl _ _ 26 rfl base 45 i0 (.slice none 0 0) 1 24 Try.underlying26 HI.out HZ0.out HZ1.out HZ2.out rfl (by decide) _ _ _ rfl HO7.out ⟨w5.heap.size + 1, 0, none⟩ 1 1 [.slice (some ⟨w5.heap.size, 0, none⟩) 1 1] rfl rfl (by intro j u hj; have := cell_one_new (w5.alloc (.cells #[.bool x0, .int .i64 x1, .int .i64 x2, .string x3] 36)) (.slice (some ⟨w5.heap.size, 0, none⟩) 1 1) 45 j u hj; rw [← HB6.out] at this; exact this) (by intro u hu; rw [List.mem_singleton] at hu; rw [hu]; rfl) (by unfold maxLen; omega) (by omega) HB8.out ?_)
      intro v' w8 hown' hgrow _
      have HFIN : Hid (OSgs w8 base v' (l ++ [[r]])) := OSgs.more HO7.out HR7.out (ORecs.base HNR.out hb5) HNB.out hgrow hown'
      have HBB : Hid (Below base w w8) := Below.grown HB7.out hgrow HB8.out (fun k hk => (World.ownsRow.lt HO7.out k hk).1)
      clear hown' hgrow
      go_wp2_with fail
      go_ret
      exact ⟨v', rfl, by rw [HNEW.out]; exact HFIN.out, HBB.out⟩
  · have hpos := List.length_pos_iff.2 hn
    obtain ⟨N, hN⟩ : ∃ N, l.length = N + 1 := ⟨l.length - 1, by omega⟩
    have hNl : N < l.length := by omega
    have hNC : N < C.length := by have := HLC.out; omega
    have HN := Lib.hid hn
    have hNn : n = N + 1 := by rw [← HL.out, hN]
    rw [show ((n : Nat) : Int) - 1 = (N : Int) by omega]
    rcases own_row HOWN.out.1 with ⟨_, h3, _⟩ | ⟨g, cap, sp, hv, hgb, hrow, hcc1, hcc2, hcc3⟩
    · omega
    simp only [Value.slice.injEq] at hv
    obtain ⟨rfl, hxx, rfl⟩ := hv
    clear hxx
    have e1 : w1.cell? ⟨g, N, none⟩ = some (C[N]'hNC) := by
      refine hrow.cell ?_
      rw [List.getElem?_append_left hNC, List.getElem?_eq_getElem hNC]
    have hgl := hrow.lt
    have hrec := (HOWN.out.2.own N hNl).recs
    have hse := HS.out _ (List.getElem_mem hNl)
    have hroom := hse.room
    have HSZ1 := Lib.hid (fun W (hW : Up w1 W) => size_any (C[N]'hNC) l[N] W (hrec.up hW) (by omega))
    have HSZ2 : Hid (∀ W U : World, Up (W.alloc (.cells #[.bool x0, .int .i64 x1, .int .i64 x2, .string x3] 36)) U → Calls Try.prog 47 #[.slice (some ⟨W.heap.size, 0, none⟩) 1 1] U fun e w' => e = .returned (.int .i64 ((takes [r] : Nat) : Int)) ∧ Up U w') := fun W U hU => by
      have h := (recs_new W r).recs
      rw [HRC.out] at h
      exact size_any _ [r] U (h.up hU) (by have := HRT.out; have := HR2.out; omega)
    have hcells := HROW.out
    rw [HRC.out] at hcells
    have b0 := hcells.cell (j := 0) rfl
    have b1 := hcells.cell (j := 1) rfl
    have b2 := hcells.cell (j := 2) rfl
    have b3 := hcells.cell (j := 3) rfl
    have hbl := hcells.lt
    obtain ⟨T1, hT1⟩ : ∃ T1, takes l[N] = T1 := ⟨_, rfl⟩
    obtain ⟨T2, hT2⟩ : ∃ T2, takes [r] = T2 := ⟨_, rfl⟩
    rw [hT1] at HSZ1 hroom
    rw [hT2] at HSZ2
    have h72 : T2 ≤ 72 := by have := HRT.out; have := HR2.out; omega
    have HT1 := Lib.hid hT1
    have HT2 := Lib.hid hT2
    obtain ⟨oL, cL, hsl, _, _⟩ := hrec.slice
    obtain ⟨m, hm⟩ : ∃ m, l[N].length = m := ⟨_, rfl⟩
    rw [hm] at hsl
    have HCN : Hid (C[N]'hNC = .slice oL m cL) := hsl
    have HM := Lib.hid hm
    rw [hsl] at e1 HSZ1
    have p1 : IntKind.i64.wrap ((T1 : Int) + (T2 : Int)) = ((T1 + T2 : Nat) : Int) := by rw [show (T1 : Int) + (T2 : Int) = ((T1 + T2 : Nat) : Int) by omega]; exact IntWalk.i64_in _ (by omega)
    have d0 : decide ((N : Int) < 0) = false := decide_eq_false (by omega)
    have hnlen : (N : Int) < ((n : Nat) : Int) := by omega
    have HNN := Lib.hid hNn
    have HNL := Lib.hid hN
    have hn0 : (0 : Int) ≤ (N : Int) := Int.natCast_nonneg _
    clear hrow hrec hse hcells hT1 hT2 hsl hm hgb hcc1 hcc2 hcc3 hNn hN hpos
    go_region_held3 (fun U => (U.cell? ⟨w.heap.size, 0, none⟩ = some (.bool x0) ∧ U.cell? ⟨w.heap.size, 1, none⟩ = some (.int .i64 x1) ∧ U.cell? ⟨w.heap.size, 2, none⟩ = some (.int .i64 x2) ∧ U.cell? ⟨w.heap.size, 3, none⟩ = some (.string x3)) ∧ U.cell? ⟨g, N, none⟩ = some (.slice oL m cL)) (go_keep)
      (first
        | (go_at_call 47; ((with_reducible refine (HSZ1.out _ (by first | exact Up.drew _ | exact (Up.drew _).trans (Up.alloc _ _) | exact (Up.alloc _ _).trans (Up.drew _))).mono ?_); rintro e w4 ⟨rfl, u4⟩; have hA4 : Up w1 w4 := (by first | exact (Up.drew _).trans u4 | exact ((Up.drew _).trans (Up.alloc _ _)).trans u4 | exact ((Up.alloc _ _).trans (Up.drew _)).trans u4); have y0 := (Below.cell hA4 (p := ⟨w.heap.size, 0, none⟩) hbl).trans b0; have y1 := (Below.cell hA4 (p := ⟨w.heap.size, 1, none⟩) hbl).trans b1; have y2 := (Below.cell hA4 (p := ⟨w.heap.size, 2, none⟩) hbl).trans b2; have y3 := (Below.cell hA4 (p := ⟨w.heap.size, 3, none⟩) hbl).trans b3; have y4 := (Below.cell hA4 (p := ⟨g, N, none⟩) hgl).trans e1))
        | (go_at_call 47; ((with_reducible refine (HSZ2.out _ _ (by first | exact Up.refl _ | exact u4 | exact (Up.drew _).trans u4)).mono ?_); rintro e w5 ⟨rfl, u5⟩; have hA5 : Up w1 w5 := (by first | exact (hA4.trans (Up.alloc _ _)).trans u5 | exact hA4.trans u5); have z0 := (Below.cell hA5 (p := ⟨w.heap.size, 0, none⟩) hbl).trans b0; have z1 := (Below.cell hA5 (p := ⟨w.heap.size, 1, none⟩) hbl).trans b1; have z2 := (Below.cell hA5 (p := ⟨w.heap.size, 2, none⟩) hbl).trans b2; have z3 := (Below.cell hA5 (p := ⟨w.heap.size, 3, none⟩) hbl).trans b3; have z4 := (Below.cell hA5 (p := ⟨g, N, none⟩) hgl).trans e1)))
    all_goals
      have HU5 := Lib.hid hA5
      clear hA4 hA5 u4 u5 y0 y1 y2 y3 y4 z0 z1 z2 z3 z4 b0 b1 b2 b3
      by_cases ht : 200 < T1 + T2
      · have HNEW : Hid (put1 l r = l ++ [[r]]) := put1_new HN.out (by rw [List.getLast_eq_getElem]; have h1 := HT1.out; have h2 := HT2.out; have h3 : l[l.length - 1]'(by have := HNL.out; omega) = l[N] := by have := HNL.out; congr 1; omega
                                                                       rw [h3, h1, h2]; omega)
        have d3 : decide ((200 : Int) < ((T1 + T2 : Nat) : Int)) = true := decide_eq_true (by omega)
        clear e1
        have hb5 : base ≤ w5.heap.size := Nat.le_trans HB.out (HU1.out.trans HU5.out).size
        have hcells := HROW.out.up HU5.out
        rw [HRC.out] at hcells
        have b0 := hcells.cell (j := 0) rfl
        have b1 := hcells.cell (j := 1) rfl
        have b2 := hcells.cell (j := 2) rfl
        have b3 := hcells.cell (j := 3) rfl
        have U7 : Up w5 ((w5.alloc (.cells #[.bool x0, .int .i64 x1, .int .i64 x2, .string x3] 36)).alloc (.cells #[.slice (some ⟨w5.heap.size, 0, none⟩) 1 1] 45)) := (Up.alloc _ _).trans (Up.alloc _ _)
        have hnr := (recs_new w5 r).up (Up.alloc _ (.cells #[.slice (some ⟨w5.heap.size, 0, none⟩) 1 1] 45))
        rw [HRC.out] at hnr
        have HNR : Hid (ORecs ((w5.alloc (.cells #[.bool x0, .int .i64 x1, .int .i64 x2, .string x3] 36)).alloc (.cells #[.slice (some ⟨w5.heap.size, 0, none⟩) 1 1] 45)) w5.heap.size (.slice (some ⟨w5.heap.size, 0, none⟩) 1 1) [r]) := hnr
        have HO7 := Lib.hid (own_upS HOWN.out.1 (HU5.out.trans U7))
        have HR7 := Lib.hid (HOWN.out.2.up (HU5.out.trans U7))
        have HNB : Hid (∀ k (h : k < l.length) b, (C[k]'(by have := HLC.out; omega)).ownBlock = some b → (Value.slice (some ⟨w5.heap.size, 0, none⟩) 1 1).ownBlock ≠ some b) := fun k h b hb e => by
          have h1 := (World.ownsRow.lt (HOWN.out.2.own k h) b hb).2
          have h2 : w5.heap.size = b := by injection e
          have := HU5.out.size
          omega
        have HB7 : Hid (Below base w ((w5.alloc (.cells #[.bool x0, .int .i64 x1, .int .i64 x2, .string x3] 36)).alloc (.cells #[.slice (some ⟨w5.heap.size, 0, none⟩) 1 1] 45))) := Below.mono ((HU1.out.trans HU5.out).trans U7) HB.out
        have HB6 : Hid (w5.heap.size + 1 = (w5.alloc (.cells #[.bool x0, .int .i64 x1, .int .i64 x2, .string x3] 36)).heap.size) := by show _ = _; simp
        have HB8 : Hid (base ≤ ((w5.alloc (.cells #[.bool x0, .int .i64 x1, .int .i64 x2, .string x3] 36)).alloc (.cells #[.slice (some ⟨w5.heap.size, 0, none⟩) 1 1] 45)).heap.size) := by show _ ≤ _; simp; omega
        have hb8 : C.length ≤ 16 := by have := HLC.out; have := HL.out; omega
        clear hcells U7 hnr
        go_wp2_with (at_builtin; refine wpList_append_own _ rfl _ _ 26 rfl base 45 i0 (.slice none 0 0) 1 24 Try.underlying26 HI.out HZ0.out HZ1.out HZ2.out rfl (by decide) _ _ _ rfl HO7.out ⟨w5.heap.size + 1, 0, none⟩ 1 1 [.slice (some ⟨w5.heap.size, 0, none⟩) 1 1] rfl rfl (by intro j u hj; have := cell_one_new (w5.alloc (.cells #[.bool x0, .int .i64 x1, .int .i64 x2, .string x3] 36)) (.slice (some ⟨w5.heap.size, 0, none⟩) 1 1) 45 j u hj; rw [← HB6.out] at this; exact this) (by intro u hu; rw [List.mem_singleton] at hu; rw [hu]; rfl) (by unfold maxLen; omega) (by omega) HB8.out ?_)
        intro v' w8 hown' hgrow _
        have HFIN : Hid (OSgs w8 base v' (l ++ [[r]])) := OSgs.more HO7.out HR7.out (ORecs.base HNR.out hb5) HNB.out hgrow hown'
        have HBB : Hid (Below base w w8) := Below.grown HB7.out hgrow HB8.out (fun k hk => (World.ownsRow.lt HO7.out k hk).1)
        clear hown' hgrow
        go_wp2_with fail
        go_ret
        exact ⟨v', rfl, by rw [HNEW.out]; exact HFIN.out, HBB.out⟩
      · have HNEW : Hid (put1 l r = l.set N (l[N] ++ [r])) := by
          have h3 : l[l.length - 1]'(by have := HNL.out; omega) = l[N] := by have := HNL.out; congr 1; omega
          have h4 : l.getLast HN.out = l[N] := by rw [List.getLast_eq_getElem, h3]
          show _ = _
          rw [put1_open HN.out (by rw [h4, HT1.out, HT2.out]; omega), h4]
          have := HNL.out
          congr 1
          omega
        have d3 : decide ((200 : Int) < ((T1 + T2 : Nat) : Int)) = false := decide_eq_false (by omega)
        have HO5 := Lib.hid (⟨own_upS HOWN.out.1 HU5.out, HOWN.out.2.up HU5.out⟩ : OSl w5 base (.slice (some ⟨g, 0, none⟩) n c) C ∧ OSr w5 base C l)
        have HOR : Hid (∀ W, Up w5 W → W.ownsRow base 36 4 (.slice oL m cL) m (fl rcC l[N])) := fun W hW => by
          have h := (HO5.out.2.up hW).own N hNl
          rw [HCN.out] at h
          unfold ORecs at h
          rw [HM.out] at h
          exact h
        have HGR : Hid (∀ (W wA : World) gA cA, Up w5 W → wA.ownsRow base 36 4 (.slice (some ⟨gA, 0, none⟩) (m + 1) cA) (m + 1) (fl rcC l[N] ++ [.bool x0, .int .i64 x1, .int .i64 x2, .string x3]) → W.grownBy wA (Value.slice oL m cL).ownBlock → ((Value.slice oL m cL).ownBlock = some gA ∨ gA = W.heap.size) →
            wA.frozen? ⟨g, N, none⟩ = false ∧ wA.cell? ⟨g, N, none⟩ = some (.slice oL m cL) ∧ OSgs (wA.setCell ⟨g, N, none⟩ (.slice (some ⟨gA, 0, none⟩) (m + 1) cA)) base (.slice (some ⟨g, 0, none⟩) n c) (l.set N (l[N] ++ [r])) ∧ Below base w (wA.setCell ⟨g, N, none⟩ (.slice (some ⟨gA, 0, none⟩) (m + 1) cA))) := fun W wA gA cA hW hown hg hat => by
          have ho : ORecs wA base (.slice (some ⟨gA, 0, none⟩) (m + 1) cA) (l[N] ++ [r]) := by
            unfold ORecs
            rw [List.length_append, HM.out, List.length_singleton, fl_append]
            show wA.ownsRow base _ 4 _ _ (fl rcC l[N] ++ (rcC r ++ []))
            rw [List.append_nil, HRC.out]
            exact hown
          have hor := HOR.out W hW
          have hbe : Below base w wA := Below.grown (Below.mono ((HU1.out.trans HU5.out).trans hW) HB.out) hg (Nat.le_trans HB.out ((HU1.out.trans HU5.out).trans hW).size) (fun k hk => (World.ownsRow.lt hor k hk).1)
          rw [← HCN.out] at hg hat
          obtain ⟨g', hge, hgb, hf, hc, hfin⟩ := OSgs.grow (own_upS HO5.out.1 hW) (HO5.out.2.up hW) hNl ho hg (by
            rcases hat with e | e
            · exact .inl e.symm
            · exact .inr ⟨gA, rfl, by omega⟩)
          cases hge
          rw [HCN.out] at hc
          exact ⟨hf, hc, hfin, Below.setCell hbe (p := ⟨g, N, none⟩) hgb _⟩
        have hcells := HROW.out.up HU5.out
        rw [HRC.out] at hcells
        have c0 := hcells.cell (j := 0) rfl
        have c1 := hcells.cell (j := 1) rfl
        have c2 := hcells.cell (j := 2) rfl
        have c3 := hcells.cell (j := 3) rfl
        have e5 := (HU5.out.cell (p := ⟨g, N, none⟩) hgl).trans e1
        have k0 : w5.drew.cell? ⟨w.heap.size, 0, none⟩ = some (.bool x0) := c0
        have k1 : w5.drew.cell? ⟨w.heap.size, 1, none⟩ = some (.int .i64 x1) := c1
        have k2 : w5.drew.cell? ⟨w.heap.size, 2, none⟩ = some (.int .i64 x2) := c2
        have k3 : w5.drew.cell? ⟨w.heap.size, 3, none⟩ = some (.string x3) := c3
        have k4 : w5.drew.cell? ⟨g, N, none⟩ = some (.slice oL m cL) := e5
        have e6 := Lib.cell?_alloc_some (.cells #[.bool x0, .int .i64 x1, .int .i64 x2, .string x3] 36) e5
        have hm25 : m ≤ 25 := by have h1 := takes_len l[N]; rw [HM.out, HT1.out] at h1; omega
        have HB5 : Hid (base ≤ w5.heap.size) := Nat.le_trans HB.out (HU1.out.trans HU5.out).size
        obtain ⟨i1, hi, hz0, hz1, hz2⟩ := rcInfo'
        have HI1 := Lib.hid hi
        have HY0 := Lib.hid hz0
        have HY1 := Lib.hid hz1
        have HY2 := Lib.hid hz2
        clear hi hz0 hz1 hz2 hcells e1
        go_wp2_with fail
        go_region_law (refine step_append_lies _ rfl (.tmp 37) (.tmp 39) 45 rfl base 36 i1 _ 4 40 Try.underlying45 HI1.out HY0.out HY1.out HY2.out rfl (by decide) (.slice oL m cL) m (fl rcC l[N]) (by simp [Act.eval]) (by first | exact HOR.out _ ((Up.drew _).trans (Up.alloc _ _)) | exact HOR.out _ ((Up.alloc _ _).trans (Up.drew _))) ⟨w5.heap.size, 0, none⟩ 1 1 [.bool x0, .int .i64 x1, .int .i64 x2, .string x3] (by simp [Act.eval]) rfl (World.news_of_block (cs := #[.bool x0, .int .i64 x1, .int .i64 x2, .string x3]) (t := 36) (fr := (0, 0)) (by first | exact heap_alloc_new w5.drew _ | exact heap_alloc_new w5 _)) (by intro u hu; simp at hu; rcases hu with rfl | rfl | rfl | rfl <;> rfl) (by omega) (by unfold maxLen; omega) (by omega) (by have := HB5.out; simp; omega) _ rfl ?_; intro gA cA wA hA hgA hatA hltA; obtain ⟨zf, zc, zs, zb⟩ := HGR.out _ wA gA cA (by first | exact (Up.drew _).trans (Up.alloc _ _) | exact (Up.alloc _ _).trans (Up.drew _)) hA hgA hatA; have HS1 := Lib.hid zs; have HS2 := Lib.hid zb; clear hA hgA hatA hltA zs zb)
        all_goals
          go_wp2_with fail
          go_ret
          exact ⟨_, rfl, by rw [HNEW.out]; exact HS1.out, HS2.out⟩

end Go.Proofs.Ytabhalajelbfoaa
