/-
  What the reference's Stand returns: records at the end of segments. Conditions: right segments; right records; the rows can be read.
-/
import Derived.Test.YtomfbffaekpnlaaRSeg4
namespace Go.Proofs.Ytomfbffaekpnlaa
open Go.RowKit
open Go.Proofs
open WoolBag
open WoolSeg

set_option maxRecDepth 100000 in
set_option maxHeartbeats 8000000 in
theorem refStand_any (v vr : Value) (l : List (List Rc)) (rs : List Rc) (w : World) (h : Sgs w v l) (hr : Recs w vr rs) (hl : ∀ s ∈ l, Seg s) (he : ∀ r ∈ rs, errR r = 0) (hl16 : l.length ≤ 16) (hr25 : rs.length ≤ 100) :
    Calls Try.prog 8 #[v, vr] w (SnPost w (stand l rs)) := by
  obtain ⟨C, hsl, hrd⟩ := h
  have hlC := hrd.len
  have HCL := Lib.hid (cloneL_any v C w hsl hrd.one (by omega))
  have HST : Hid (∀ w1 out, OSl w1 w.heap.size out C → Up w w1 → StI w.heap.size out l w1) := fun w1 out h1 hu => StI.start h1 hrd (fun s hs => (hl s hs).ne) hu (Nat.le_refl _)
  obtain ⟨oV, cV, rfl, _, _⟩ := Sl.slice hsl
  have HR := Lib.hid hr
  obtain ⟨oR, cR, rfl, hcR1, hcR2⟩ := hr.slice
  unfold maxLen at hcR2
  obtain ⟨m, hm⟩ : ∃ m, rs.length = m := ⟨_, rfl⟩
  have HM := Lib.hid hm
  rw [hm] at hcR1 HR hr25 ⊢
  have HSEG : Hid (∀ k, k ≤ m → (∀ s ∈ stand l (rs.take k), Seg s) ∧ (stand l (rs.take k)).length ≤ 116) := fun k hk => by
    have h2 := stand_le l (rs.take k)
    rw [List.length_take] at h2
    exact ⟨stand_seg hl (fun r hr => he r (List.mem_of_mem_take hr)), by omega⟩
  have HERR : Hid (∀ k (h : k < rs.length), errR rs[k] = 0) := fun k h => he _ (List.getElem_mem h)
  obtain ⟨nC, hnC⟩ : ∃ nC, C.length = nC := ⟨_, rfl⟩
  have HNC := Lib.hid hnC
  rw [hnC] at HCL ⊢
  clear hsl hrd hr hl he hm hlC hl16 hnC
  go_enter Try.func8, Try.ntmps8
  go_wp2_with fail
  refine HCL.out.mono ?_
  rintro e w1 ⟨v1, rfl, ho1, u1⟩
  have HSI : Hid (StI w.heap.size v1 l w1) := HST.out w1 v1 ho1 u1
  have HS0 : Hid (SnRel l rs w v1 (.int .i64 ((0 : Nat) : Int)) w1) := ⟨0, Nat.zero_le _, rfl, by rw [List.take_zero, stand_nil]; exact HSI.out, u1⟩
  have HU1 := Lib.hid u1
  obtain ⟨o1, c1, hv1, _, _⟩ := ho1.sl.slice
  subst hv1
  clear ho1 u1
  go_wp2_with fail
  go_loopw [5, 13] (fun out i wr => SnRel l rs w out i wr) (fun _ i _ => m - (intOf i).toNat)
  case atStart => exact HS0.out
  case round =>
    obtain ⟨k, hk, rfl, hsi, hu⟩ := hrel
    rw [HM.out] at hk
    have HU := Lib.hid hu
    by_cases hlt : k < m
    · have hkr : k < rs.length := by rw [HM.out]; exact hlt
      obtain ⟨bR, offR, rfl, hat⟩ := HR.out.at (by rintro rfl; simp at hkr)
      obtain ⟨a0, a1, a2, a3⟩ := hat k hkr
      rw [← hu.cell (World.block_lt_of_cell? w _ a0)] at a0
      rw [← hu.cell (World.block_lt_of_cell? w _ a1)] at a1
      rw [← hu.cell (World.block_lt_of_cell? w _ a2)] at a2
      rw [← hu.cell (World.block_lt_of_cell? w _ a3)] at a3
      obtain ⟨hsg, hsl⟩ := HSEG.out k (by omega)
      have herr := HERR.out k hkr
      have hst := stand_step' l rs hkr
      obtain ⟨x, hx⟩ : ∃ x, rs[k] = x := ⟨_, rfl⟩
      obtain ⟨L, hL⟩ : ∃ L, stand l (rs.take k) = L := ⟨_, rfl⟩
      rw [hx] at a0 a1 a2 a3 herr hst
      rw [hL] at hsi hsg hsl hst
      have HNX : Hid (∀ out wF, StI w.heap.size out (put1 L x) wF → Up w wF → SnRel l rs w out (.int .i64 ((k + 1 : Nat) : Int)) wF) := fun out wF hS hF => ⟨k + 1, by omega, rfl, by rw [hst]; exact hS, hF⟩
      have HSI := Lib.hid hsi
      have HSG := Lib.hid hsg
      obtain ⟨oO, cO, hvO, hcO1, hcO2⟩ := hsi.sgs.slice
      have hrC : rcC x = [.bool x.1.1, .int .i64 x.1.2.1, .int .i64 x.1.2.2, .string (bs x.2)] := rfl
      have HRC := Lib.hid hrC
      have HX64 : Hid (x.2.length ≤ 64) := (errR_zero.1 herr).2
      have HTX : Hid (takes [x] = 8 + x.2.length) := by show _ = _; rw [takes_cons, takes_nil, Nat.add_zero]
      obtain ⟨n, hn⟩ : ∃ n, L.length = n := ⟨_, rfl⟩
      have HL := Lib.hid hn
      rw [hn] at hvO hcO1 hsl
      subst hvO
      unfold maxLen at hcO2
      have d1 : decide (k < m) = true := decide_eq_true hlt
      clear hat hsg herr hst hx hL hsi hu hrC hn
      generalize x.1.1 = x0 at *
      generalize x.1.2.1 = x1 at *
      generalize x.1.2.2 = x2 at *
      generalize bs x.2 = x3 at *
      go_wp2_with fail
      have hal := Up.alloc wr (.cells #[.bool x0, .int .i64 x1, .int .i64 x2, .string x3] 26)
      have hrow : RowC (wr.alloc (.cells #[.bool x0, .int .i64 x1, .int .i64 x2, .string x3] 26)) wr.heap.size 26 [.bool x0, .int .i64 x1, .int .i64 x2, .string x3] := heap_alloc_new wr _
      have HRW := Lib.hid hrow
      have HS1 := Lib.hid (HSI.out.up hal)
      have HUa : Hid (Up w (wr.alloc (.cells #[.bool x0, .int .i64 x1, .int .i64 x2, .string x3] 26))) := HU.out.trans hal
      obtain ⟨X, hX⟩ : ∃ X, wr.heap.size = X := ⟨_, rfl⟩
      rw [hX] at HRW ⊢
      clear hal hrow hX HU HSI a0 a1 a2 a3
      generalize wr.alloc (.cells #[.bool x0, .int .i64 x1, .int .i64 x2, .string x3] 26) = w2 at HRW HS1 HUa ⊢
      by_cases hLn : L = []
      · have hn0 : n = 0 := by rw [← HL.out, hLn]; rfl
        have HNEW : Hid (put1 L x = L ++ [[x]]) := by subst hLn; rfl
        have HN0 := Lib.hid hn0
        rw [show ((n : Nat) : Int) - 1 = -1 by omega]
        clear hLn hn0
        go_quiet (fail)
        all_goals
          have hu9 : Up w2 (w2.drewN nq) := Up.drewN _ _
          have HRW5 := Lib.hid (HRW.out.up hu9)
          have HS5 := Lib.hid (HS1.out.up hu9)
          have HU5 := Lib.hid (HUa.out.trans hu9)
          clear hu9
          generalize w2.drewN nq = w5 at HRW5 HS5 HU5 ⊢
          have b0 := HRW5.out.cell (j := 0) rfl
          have b1 := HRW5.out.cell (j := 1) rfl
          have b2 := HRW5.out.cell (j := 2) rfl
          have b3 := HRW5.out.cell (j := 3) rfl
          obtain ⟨C5, hC1, hC2, hC3⟩ := HS5.out
          have hC5 : C5.length = n := by rw [hC2.len]; exact HL.out
          have HC5 := Lib.hid hC5
          have U7 : Up w5 ((w5.alloc (.cells #[.bool x0, .int .i64 x1, .int .i64 x2, .string x3] 26)).alloc (.cells #[.slice (some ⟨w5.heap.size, 0, none⟩) 1 1] 31)) := (Up.alloc _ _).trans (Up.alloc _ _)
          have hnr := ((recs_new w5 x).up (Up.alloc _ (.cells #[.slice (some ⟨w5.heap.size, 0, none⟩) 1 1] 31))).recs
          rw [HRC.out] at hnr
          have HNR : Hid (Recs ((w5.alloc (.cells #[.bool x0, .int .i64 x1, .int .i64 x2, .string x3] 26)).alloc (.cells #[.slice (some ⟨w5.heap.size, 0, none⟩) 1 1] 31)) (.slice (some ⟨w5.heap.size, 0, none⟩) 1 1) [x]) := hnr
          have HO7 := Lib.hid (own_upS hC1 U7)
          have HR7 := Lib.hid (hC2.up U7)
          have HC7 : Hid (∀ j (h : j < C5.length) b, C5[j].ownBlock = some b → b < ((w5.alloc (.cells #[.bool x0, .int .i64 x1, .int .i64 x2, .string x3] 26)).alloc (.cells #[.slice (some ⟨w5.heap.size, 0, none⟩) 1 1] 31)).heap.size ∧ (Value.slice oO n cO).ownBlock ≠ some b) := fun j h b hb => ⟨Nat.lt_of_lt_of_le (hC3 j h b hb).1 U7.size, (hC3 j h b hb).2⟩
          have HUB : Hid (∀ b, (Value.slice (some ⟨w5.heap.size, 0, none⟩) 1 1).ownBlock = some b → b < ((w5.alloc (.cells #[.bool x0, .int .i64 x1, .int .i64 x2, .string x3] 26)).alloc (.cells #[.slice (some ⟨w5.heap.size, 0, none⟩) 1 1] 31)).heap.size ∧ (Value.slice oO n cO).ownBlock ≠ some b) := fun b hb => by
            have e : w5.heap.size = b := by injection hb
            subst e
            refine ⟨by simp; omega, fun e2 => ?_⟩
            have := (World.ownsRow.lt hC1 _ e2).2
            omega
          have HU7 : Hid (Up w ((w5.alloc (.cells #[.bool x0, .int .i64 x1, .int .i64 x2, .string x3] 26)).alloc (.cells #[.slice (some ⟨w5.heap.size, 0, none⟩) 1 1] 31))) := HU5.out.trans U7
          have HB6 : Hid (w5.heap.size + 1 = (w5.alloc (.cells #[.bool x0, .int .i64 x1, .int .i64 x2, .string x3] 26)).heap.size) := by show _ = _; simp
          have hsl9 : n ≤ 116 := hsl
          obtain ⟨i0, hi, hz0, hz1, hz2⟩ := sgInfo'
          have HI := Lib.hid hi
          have HZ0 := Lib.hid hz0
          have HZ1 := Lib.hid hz1
          have HZ2 := Lib.hid hz2
          clear hnr hi hz0 hz1 hz2 hC1 hC2 hC3 U7 hC5
          go_wp2_with (at_builtin; refine wpList_append_own_at _ rfl _ _ 22 rfl w.heap.size 31 i0 (.slice none 0 0) 1 24 Try.underlying22 HI.out HZ0.out HZ1.out HZ2.out rfl (by decide) _ _ _ rfl HO7.out ⟨w5.heap.size + 1, 0, none⟩ 1 1 [.slice (some ⟨w5.heap.size, 0, none⟩) 1 1] rfl rfl (by intro j u hj; have := cell_one_new (w5.alloc (.cells #[.bool x0, .int .i64 x1, .int .i64 x2, .string x3] 26)) (.slice (some ⟨w5.heap.size, 0, none⟩) 1 1) 31 j u hj; rw [← HB6.out] at this; exact this) (by intro u hu; rw [List.mem_singleton] at hu; rw [hu]; rfl) (by have := HC5.out; unfold maxLen; omega) (by have := HC5.out; omega) HU7.out.size ?_)
          intro v' w8 hown' hgrow _ hat'
          have HF8 : Hid (StI w.heap.size v' (put1 L x) w8) := by
            rw [HNEW.out]
            exact StI.more HR7.out HC7.out HNR.out HUB.out hown' hgrow (by simpa using hat')
          have HU8 : Hid (Up w w8) := Below.grown HU7.out hgrow HU7.out.size (fun k hk => (World.ownsRow.lt HO7.out k hk).1)
          have HNY := Lib.hid (HNX.out _ _ HF8.out HU8.out)
          clear hown' hgrow hat'
          go_wp2_with fail
          go_roundw
          case rel => have := HNY.out; simpa using this
          case measure => simp only [intOf]; omega
      · have hpos := List.length_pos_iff.2 hLn
        obtain ⟨N, hN⟩ : ∃ N, L.length = N + 1 := ⟨L.length - 1, by omega⟩
        have hNl : N < L.length := by omega
        have HLN := Lib.hid hLn
        have hNn : n = N + 1 := by rw [← HL.out, hN]
        rw [show ((n : Nat) : Int) - 1 = (N : Int) by omega]
        obtain ⟨C2, hC1, hC2, hC3⟩ := HS1.out
        have hNC : N < C2.length := by have := hC2.len; omega
        rcases own_row hC1 with ⟨_, h3, _⟩ | ⟨g, cap, sp, hv, hgb, hrow, _, _, _⟩
        · omega
        simp only [Value.slice.injEq] at hv
        obtain ⟨rfl, hxx, rfl⟩ := hv
        clear hxx
        have k4 : w2.cell? ⟨g, N, none⟩ = some (C2[N]'hNC) := by
          refine hrow.cell ?_
          rw [List.getElem?_append_left hNC, List.getElem?_eq_getElem hNC]
        have hgl := hrow.lt
        have hy := hC2.rd N hNl
        have hseg := HSG.out _ (List.getElem_mem hNl)
        obtain ⟨oP, cP, hP, _, _⟩ := hy.slice
        have hm25' : L[N].length ≤ 25 := by have h1 := takes_len L[N]; have h2 := hseg.room; omega
        have hroom := hseg.room
        have hgl' : (L.getLast HLN.out) = L[N] := by rw [List.getLast_eq_getElem]; congr 1; omega
        have HPO := Lib.hid (fun (r : Rc) (h : takes (L.getLast HLN.out) + takes [r] ≤ 200) => put1_open HLN.out h)
        have HPN := Lib.hid (fun (r : Rc) (h : ¬ takes (L.getLast HLN.out) + takes [r] ≤ 200) => put1_new HLN.out h)
        rw [hgl'] at HPO HPN
        obtain ⟨s, hs⟩ : ∃ s, L[N] = s := ⟨_, rfl⟩
        rw [hs] at hy hP hm25' hroom HPO HPN
        obtain ⟨m, hm⟩ : ∃ m, s.length = m := ⟨_, rfl⟩
        have HMM := Lib.hid hm
        rw [hm] at hP hm25'
        rw [hP] at k4 hy
        have HCLN := Lib.hid (fun W (hW : Up w2 W) => cloneR_any (.slice oP m cP) s W (hy.up hW) (by omega))
        have HTA : Hid (takes (s ++ [x]) = takes s + takes [x]) := takes_append _ _
        have HTKS := Lib.hid (fun W v (hW : Recs W v (s ++ [x])) => refTakes_any v (s ++ [x]) W hW (by rw [HTA.out, HTX.out]; have := HX64.out; omega))
        have HCB : Hid (∀ (W : World) v q B, ORecs W q v s → B ≤ q → W.ownsRow B 26 4 v m (fl rcC s)) := fun W v q B h hq => by
          have h1 := own_baseS h hq
          rw [hm] at h1
          exact h1
        have HRAO : Hid (∀ (W : World) gA cA B, W.ownsRow B 26 4 (.slice (some ⟨gA, 0, none⟩) (m + 1) cA) (m + 1) (fl rcC s ++ [.bool x0, .int .i64 x1, .int .i64 x2, .string x3]) → ORecs W B (.slice (some ⟨gA, 0, none⟩) (m + 1) cA) (s ++ [x])) := fun W gA cA B h => by
          unfold ORecs
          rw [List.length_append, hm, List.length_singleton, fl_append]
          show W.ownsRow _ _ 4 _ _ (fl rcC s ++ (rcC x ++ []))
          rw [List.append_nil, HRC.out]
          exact h
        have HRA : Hid (∀ (W : World) gA cA B, W.ownsRow B 26 4 (.slice (some ⟨gA, 0, none⟩) (m + 1) cA) (m + 1) (fl rcC s ++ [.bool x0, .int .i64 x1, .int .i64 x2, .string x3]) → Recs W (.slice (some ⟨gA, 0, none⟩) (m + 1) cA) (s ++ [x])) := fun W gA cA B h => (HRAO.out W gA cA B h).recs
        have HSET : Hid (∀ (W wA : World) gA cA, Up w2 W → Up W wA → ORecs wA W.heap.size (.slice (some ⟨gA, 0, none⟩) (m + 1) cA) (s ++ [x]) → wA.frozen? ⟨g, N, none⟩ = false ∧ StI w.heap.size (.slice (some ⟨g, 0, none⟩) n cO) (L.set N (s ++ [x])) (wA.setCell ⟨g, N, none⟩ (.slice (some ⟨gA, 0, none⟩) (m + 1) cA)) ∧ w.heap.size ≤ g) := fun W wA gA cA hW hA hu => by
          obtain ⟨g', e1, e2, e3, _, e5⟩ := StI.set (HS1.out.up hW) hNl hA hu
          cases e1
          exact ⟨e3, e5, e2⟩
        obtain ⟨T, hT⟩ : ∃ T, takes (s ++ [x]) = T := ⟨_, rfl⟩
        have HT := Lib.hid hT
        rw [hT] at HTKS
        have k0 := HRW.out.cell (j := 0) rfl
        have k1 := HRW.out.cell (j := 1) rfl
        have k2 := HRW.out.cell (j := 2) rfl
        have k3 := HRW.out.cell (j := 3) rfl
        have hbX := HRW.out.lt
        have HWw2 : Hid (Up w2 w2) := Up.refl _
        have d0 : decide ((0 : Int) ≤ (N : Int)) = true := decide_eq_true (by omega)
        have hnlen : (N : Int) < ((n : Nat) : Int) := by omega
        have hn0 : (0 : Int) ≤ (N : Int) := Int.natCast_nonneg _
        have HNN := Lib.hid hNn
        have HNL := Lib.hid hN
        have HNl := Lib.hid hNl
        obtain ⟨i1, hi, hz0, hz1, hz2⟩ := rcInfo'
        have HI1 := Lib.hid hi
        have HY0 := Lib.hid hz0
        have HY1 := Lib.hid hz1
        have HY2 := Lib.hid hz2
        clear hi hz0 hz1 hz2 hC1 hC2 hC3 hrow hy hseg hgl' hs hm hT hNn hN hpos hgb hP
        have kk0 := k0
        refine wp_region_held_drew (S := (fun U => (U.cell? ⟨X, 0, none⟩ = some (.bool x0) ∧ U.cell? ⟨X, 1, none⟩ = some (.int .i64 x1) ∧ U.cell? ⟨X, 2, none⟩ = some (.int .i64 x2) ∧ U.cell? ⟨X, 3, none⟩ = some (.string x3)) ∧ U.cell? ⟨g, N, none⟩ = some (.slice oP m cP))) (by kernel_rfl) ?_ (fun hHeld => ?_)
        case refine_1 => exact ⟨⟨k0, k1, k2, k3⟩, k4⟩
        (refine wpAnyH_take (i := 0) (oi := { dst := some 20, op := Op.move (Operand.tmp 8), type := 3, pos := "high.go:480", after := #[], guard := none }) (v := ?_) rfl (by kernel_rfl) (by kernel_rfl) (by kernel_rfl) (fun _ _ _ h => h) (Or.inl ⟨by rfl, ?_⟩) (by assumption) ?_)
        rotate_left
        · (intro w hSw; (try dsimp only at hSw); go_simp; try with_reducible rfl)
        try simp only [Act.put, List.setIfInBounds_toArray, List.set_cons_zero, List.set_cons_succ]
        (refine wpAnyH_take (i := 1) (oi := { dst := some 21, op := Op.binOp BinOp.geq 3 (Operand.tmp 20) (Operand.const (Value.int IntKind.i64 0)) 3, type := 4, pos := "high.go:480", after := #[{ on := 0, ground := Ground.data }], guard := none }) (v := ?_) rfl (by kernel_rfl) (by kernel_rfl) (by kernel_rfl) (fun _ _ _ h => h) (Or.inl ⟨by rfl, ?_⟩) (by assumption) ?_)
        rotate_left
        · (intro w hSw; (try dsimp only at hSw); go_simp; try with_reducible rfl)
        try simp only [Act.put, List.setIfInBounds_toArray, List.set_cons_zero, List.set_cons_succ]
        (refine wpAnyH_take (i := 2) (oi := { dst := some 22, op := Op.move (Operand.tmp 21), type := 4, pos := "high.go:480", after := #[{ on := 1, ground := Ground.data }], guard := none }) (v := ?_) rfl (by kernel_rfl) (by kernel_rfl) (by kernel_rfl) (fun _ _ _ h => h) (Or.inl ⟨by rfl, ?_⟩) (by assumption) ?_)
        rotate_left
        · (intro w hSw; (try dsimp only at hSw); go_simp; try with_reducible rfl)
        try simp only [Act.put, List.setIfInBounds_toArray, List.set_cons_zero, List.set_cons_succ]
        (refine wpAnyH_take (i := 3) (oi := { dst := some 23, op := Op.move (Operand.tmp 5), type := 22, pos := "high.go:480", after := #[{ on := 2, ground := Ground.guard }], guard := some (2, true) }) (v := ?_) rfl (by kernel_rfl) (by kernel_rfl) (by kernel_rfl) (fun _ _ _ h => h) (Or.inl ⟨by rfl, ?_⟩) (by assumption) ?_)
        rotate_left
        · (intro w hSw; (try dsimp only at hSw); go_simp; try with_reducible rfl)
        try simp only [Act.put, List.setIfInBounds_toArray, List.set_cons_zero, List.set_cons_succ]
        (refine wpAnyH_take (i := 4) (oi := { dst := some 24, op := Op.move (Operand.tmp 8), type := 3, pos := "high.go:480", after := #[{ on := 2, ground := Ground.guard }], guard := some (2, true) }) (v := ?_) rfl (by kernel_rfl) (by kernel_rfl) (by kernel_rfl) (fun _ _ _ h => h) (Or.inl ⟨by rfl, ?_⟩) (by assumption) ?_)
        rotate_left
        · (intro w hSw; (try dsimp only at hSw); go_simp; try with_reducible rfl)
        try simp only [Act.put, List.setIfInBounds_toArray, List.set_cons_zero, List.set_cons_succ]
        (refine wpAnyH_take (i := 5) (oi := { dst := some 25, op := Op.indexAddr 22 (Operand.tmp 23) (Operand.tmp 24), type := 0, pos := "high.go:480", after := #[{ on := 3, ground := Ground.data }, { on := 4, ground := Ground.data }, { on := 2, ground := Ground.guard }], guard := some (2, true) }) (v := ?_) rfl (by kernel_rfl) (by kernel_rfl) (by kernel_rfl) (fun _ _ _ h => h) (Or.inl ⟨by rfl, ?_⟩) (by assumption) ?_)
        rotate_left
        · (intro w hSw; (try dsimp only at hSw); go_simp; try with_reducible rfl)
        try simp only [Act.put, List.setIfInBounds_toArray, List.set_cons_zero, List.set_cons_succ]
        (refine wpAnyH_take (i := 6) (oi := { dst := some 26, op := Op.load 31 (Operand.tmp 25), type := 31, pos := "high.go:480", after := #[{ on := 5, ground := Ground.data }, { on := 2, ground := Ground.guard }], guard := some (2, true) }) (v := ?_) rfl (by kernel_rfl) (by kernel_rfl) (by kernel_rfl) (fun _ _ _ h => h) (Or.inl ⟨by rfl, ?_⟩) (by assumption) ?_)
        rotate_left
        · (intro w hSw; (try dsimp only at hSw); go_simp; try with_reducible rfl)
        try simp only [Act.put, List.setIfInBounds_toArray, List.set_cons_zero, List.set_cons_succ]
        (refine wpAnyH_take (i := 8) (oi := { dst := some 28, op := Op.load 26 (Operand.tmp 7), type := 26, pos := "high.go:480", after := #[{ on := 2, ground := Ground.guard }], guard := some (2, true) }) (v := ?_) rfl (by kernel_rfl) (by kernel_rfl) (by kernel_rfl) (fun _ _ _ h => h) (Or.inl ⟨by rfl, ?_⟩) (by assumption) ?_)
        rotate_left
        · (intro w hSw; (try dsimp only at hSw); go_simp; try with_reducible rfl)
        try simp only [Act.put, List.setIfInBounds_toArray, List.set_cons_zero, List.set_cons_succ]
        refine wpAnyH_ready (rs := [7, 9]) (by kernel_rfl) (by simp) ?_
        refine AllReadyH.cons (o := { dst := some 27, op := Op.call { callee := Callee.value (Operand.func 22), args := #[Operand.tmp 26], argTypes := #[31] }, type := 31, pos := "high.go:480", after := #[{ on := 6, ground := Ground.data }, { on := 2, ground := Ground.chain }, { on := 2, ground := Ground.guard }], guard := some (2, true) }) rfl (fun K hK => ?_) (AllReadyH.cons (o := { dst := some 29, op := Op.buildSlice 31 1 #[(0, Operand.tmp 28)], type := 31, pos := "high.go:480", after := #[{ on := 8, ground := Ground.data }, { on := 2, ground := Ground.guard }], guard := some (2, true) }) rfl (fun K hK => ?_) AllReadyH.nil)
        · go_simp
          go_at_call 22
          with_reducible refine (HCLN.out _ (Up.drew w2)).mono ?_
          rintro e w4 ⟨v4, rfl, ho4, u4⟩
          have h4 : Up w2 w4 := (Up.drew w2).trans u4
          have HO4 : Hid (w4.ownsRow w2.heap.size 26 4 v4 m (fl rcC s)) := HCB.out _ _ _ _ ho4 (Up.drew w2).size
          obtain ⟨o4, c4, hv4, _, _⟩ := ho4.recs.slice
          rw [HMM.out] at hv4
          subst hv4
          clear ho4
          have y0 := (Below.cell h4 (p := ⟨X, 0, none⟩) hbX).trans k0
          have y1 := (Below.cell h4 (p := ⟨X, 1, none⟩) hbX).trans k1
          have y2 := (Below.cell h4 (p := ⟨X, 2, none⟩) hbX).trans k2
          have y3 := (Below.cell h4 (p := ⟨X, 3, none⟩) hbX).trans k3
          have y4 := (Below.cell h4 (p := ⟨g, N, none⟩) hgl).trans k4
          refine hK.out _ _ ?_ (fun hHeld => ?_)
          · exact ⟨⟨y0, y1, y2, y3⟩, y4⟩
          clear hK K
          try simp only [Act.put, List.setIfInBounds_toArray, List.set_cons_zero, List.set_cons_succ]
          refine wpAnyH_ready (rs := [9]) (by kernel_rfl) (by simp) ?_
          refine AllReadyH.cons (o := { dst := some 29, op := Op.buildSlice 31 1 #[(0, Operand.tmp 28)], type := 31, pos := "high.go:480", after := #[{ on := 8, ground := Ground.data }, { on := 2, ground := Ground.guard }], guard := some (2, true) }) rfl (fun K hK => ?_) ?_
          rotate_left
          · exact AllReadyH.nil
          go_simp
          have h5 : Up w2 (w4.alloc (.cells #[.bool x0, .int .i64 x1, .int .i64 x2, .string x3] 26)) := h4.trans (Up.alloc _ _)
          have v0 := (Below.cell h5 (p := ⟨X, 0, none⟩) hbX).trans k0
          have v1 := (Below.cell h5 (p := ⟨X, 1, none⟩) hbX).trans k1
          have v2 := (Below.cell h5 (p := ⟨X, 2, none⟩) hbX).trans k2
          have v3 := (Below.cell h5 (p := ⟨X, 3, none⟩) hbX).trans k3
          have v4 := (Below.cell h5 (p := ⟨g, N, none⟩) hgl).trans k4
          refine hK.out _ _ ?_ (fun hHeld => ?_)
          · exact ⟨⟨v0, v1, v2, v3⟩, v4⟩
          clear hK K
          try simp only [Act.put, List.setIfInBounds_toArray, List.set_cons_zero, List.set_cons_succ]
          refine wpAnyH_ready (rs := [10]) (by kernel_rfl) (by simp) ?_
          refine AllReadyH.cons (o := { dst := some 30, op := Op.call { callee := Callee.builtin Builtin.append, args := #[Operand.tmp 27, Operand.tmp 29], argTypes := #[31, 31] }, type := 31, pos := "high.go:480", after := #[{ on := 7, ground := Ground.data }, { on := 9, ground := Ground.data }, { on := 7, ground := Ground.chain }, { on := 2, ground := Ground.guard }], guard := some (2, true) }) rfl (fun K hK => ?_) ?_
          rotate_left
          · exact AllReadyH.nil
          rw [if_pos (by rfl)]
          refine wp_append_lies _ (.tmp 27) (.tmp 29) 31 rfl w2.heap.size 26 i1 _ 4 40 Try.underlying31 HI1.out HY0.out HY1.out HY2.out rfl (by decide) (.slice o4 m c4) m (fl rcC s) (by first | rfl | simp [Act.eval]) (own_upS HO4.out (Up.alloc w4 (.cells #[.bool x0, .int .i64 x1, .int .i64 x2, .string x3] 26))) ⟨w4.heap.size, 0, none⟩ 1 1 [.bool x0, .int .i64 x1, .int .i64 x2, .string x3] (by first | rfl | simp [Act.eval]) rfl (World.news_of_block (cs := #[.bool x0, .int .i64 x1, .int .i64 x2, .string x3]) (t := 26) (fr := (0, 0)) (heap_alloc_new w4 _)) (by intro u hu; simp at hu; rcases hu with rfl | rfl | rfl | rfl <;> rfl) (by omega) (by unfold maxLen; omega) (by omega) (h4.trans (Up.alloc w4 (.cells #[.bool x0, .int .i64 x1, .int .i64 x2, .string x3] 26))).size _ rfl ?_
          intro gA cA wA hA hgA hatA hltA
          have hUA : Up w2 wA := Below.grown (h4.trans (Up.alloc w4 (.cells #[.bool x0, .int .i64 x1, .int .i64 x2, .string x3] 26))) hgA (h4.trans (Up.alloc w4 (.cells #[.bool x0, .int .i64 x1, .int .i64 x2, .string x3] 26))).size (fun q hq => (World.ownsRow.lt (own_upS HO4.out (Up.alloc w4 (.cells #[.bool x0, .int .i64 x1, .int .i64 x2, .string x3] 26))) q hq).1)
          have hRA := HRA.out _ _ _ _ hA
          have z0 := (Below.cell hUA (p := ⟨X, 0, none⟩) hbX).trans k0
          have z1 := (Below.cell hUA (p := ⟨X, 1, none⟩) hbX).trans k1
          have z2 := (Below.cell hUA (p := ⟨X, 2, none⟩) hbX).trans k2
          have z3 := (Below.cell hUA (p := ⟨X, 3, none⟩) hbX).trans k3
          have z4 := (Below.cell hUA (p := ⟨g, N, none⟩) hgl).trans k4
          refine hK.out _ _ ?_ (fun hHeld => ?_)
          · exact ⟨⟨z0, z1, z2, z3⟩, z4⟩
          clear hK K
          try simp only [Act.put, List.setIfInBounds_toArray, List.set_cons_zero, List.set_cons_succ]
          refine wpAnyH_ready (rs := [11]) (by kernel_rfl) (by simp) ?_
          refine AllReadyH.cons (o := { dst := some 31, op := Op.call { callee := Callee.value (Operand.func 14), args := #[Operand.tmp 30], argTypes := #[31] }, type := 3, pos := "high.go:480", after := #[{ on := 10, ground := Ground.data }, { on := 10, ground := Ground.chain }, { on := 2, ground := Ground.guard }], guard := some (2, true) }) rfl (fun K hK => ?_) ?_
          rotate_left
          · exact AllReadyH.nil
          go_simp
          go_at_call 14
          with_reducible refine (HTKS.out _ _ (by first | exact hRA | exact hRA.up (Up.drew _))).mono ?_
          rintro e w7 ⟨rfl, u7⟩
          have h7 : Up w2 w7 := hUA.trans (by first | exact u7 | exact (Up.drew _).trans u7)
          have t0 := (Below.cell h7 (p := ⟨X, 0, none⟩) hbX).trans k0
          have t1 := (Below.cell h7 (p := ⟨X, 1, none⟩) hbX).trans k1
          have t2 := (Below.cell h7 (p := ⟨X, 2, none⟩) hbX).trans k2
          have t3 := (Below.cell h7 (p := ⟨X, 3, none⟩) hbX).trans k3
          have t4 := (Below.cell h7 (p := ⟨g, N, none⟩) hgl).trans k4
          refine hK.out _ _ ?_ (fun hHeld => ?_)
          · exact ⟨⟨t0, t1, t2, t3⟩, t4⟩
          clear hK K
          try simp only [Act.put, List.setIfInBounds_toArray, List.set_cons_zero, List.set_cons_succ]
          (refine wpAnyH_take (i := 12) (oi := { dst := some 32, op := Op.binOp BinOp.leq 3 (Operand.tmp 31) (Operand.const (Value.int IntKind.i64 200)) 3, type := 4, pos := "high.go:480", after := #[{ on := 11, ground := Ground.data }, { on := 2, ground := Ground.guard }], guard := some (2, true) }) (v := ?_) rfl (by kernel_rfl) (by kernel_rfl) (by kernel_rfl) (fun _ _ _ h => h) (Or.inl ⟨by rfl, ?_⟩) (by assumption) ?_)
          rotate_left
          · (intro w hSw; (try dsimp only at hSw); go_simp; try with_reducible rfl)
          try simp only [Act.put, List.setIfInBounds_toArray, List.set_cons_zero, List.set_cons_succ]
          (refine wpAnyH_take (i := 13) (oi := { dst := some 33, op := Op.pick (Operand.tmp 22) (Operand.tmp 32) (Operand.const (Value.bool false)), type := 4, pos := "high.go:480", after := #[{ on := 2, ground := Ground.data }, { on := 12, ground := Ground.data }], guard := none }) (v := ?_) rfl (by kernel_rfl) (by kernel_rfl) (by kernel_rfl) (fun _ _ _ h => h) (Or.inl ⟨by rfl, ?_⟩) (by assumption) ?_)
          rotate_left
          · (intro w hSw; (try dsimp only at hSw); go_simp; try with_reducible rfl)
          try simp only [Act.put, List.setIfInBounds_toArray, List.set_cons_zero, List.set_cons_succ]
          refine wpAnyH_done (by kernel_rfl) ?_ _
          have HWw7 := Lib.hid h7
          have HUw7 := Lib.hid (HUa.out.trans h7)
          have hbX7 := Nat.lt_of_lt_of_le hbX h7.size
          have hgl7 := Nat.lt_of_lt_of_le hgl h7.size
          clear kk0 k0 k1 k2 k3 k4 hbX hgl
          have k0 := t0
          have k1 := t1
          have k2 := t2
          have k3 := t3
          have k4 := t4
          have hbX := hbX7
          have hgl := hgl7
          clear t0 t1 t2 t3 t4 hbX7 hgl7
          by_cases ht : T ≤ 200
          · have HNEW : Hid (put1 L x = L.set N (s ++ [x])) := by
              have h1 := HPO.out x (by rw [← HTA.out, HT.out]; exact ht)
              have h2 := HNL.out
              show _ = _
              rw [h1]
              congr 1
              omega
            have dT : decide ((T : Int) ≤ 200) = true := decide_eq_true (by omega)
            have j0 : w7.drew.cell? ⟨X, 0, none⟩ = some (.bool x0) := k0
            have j1 : w7.drew.cell? ⟨X, 1, none⟩ = some (.int .i64 x1) := k1
            have j2 : w7.drew.cell? ⟨X, 2, none⟩ = some (.int .i64 x2) := k2
            have j3 : w7.drew.cell? ⟨X, 3, none⟩ = some (.string x3) := k3
            have j4 : w7.drew.cell? ⟨g, N, none⟩ = some (.slice oP m cP) := k4
            have e7 := Lib.cell?_alloc_some (.cells #[.bool x0, .int .i64 x1, .int .i64 x2, .string x3] 26) k4
            go_wp2_with fail
            go_region_law (first
              | (go_simp; go_at_call 22; ((with_reducible refine (HCLN.out _ (HWw7.out.trans (by first | exact Up.drew _ | exact (Up.drew _).trans (Up.alloc _ _) | exact (Up.alloc _ _).trans (Up.drew _) | exact Up.alloc _ _ | exact Up.refl _))).mono ?_); rintro e w4 ⟨v4, rfl, ho4, u4⟩; have h4 : Up w7 w4 := (by first | exact (Up.drew _).trans u4 | exact ((Up.drew _).trans (Up.alloc _ _)).trans u4 | exact ((Up.alloc _ _).trans (Up.drew _)).trans u4 | exact u4); have HO4 : Hid (w4.ownsRow w7.heap.size 26 4 v4 m (fl rcC s)) := HCB.out _ _ _ _ ho4 (by first | exact Nat.le_refl _ | (simp; done) | (simp; omega)); obtain ⟨o4, c4, hv4, _, _⟩ := ho4.recs.slice; rw [HMM.out] at hv4; subst hv4; clear ho4; have y0 := (Below.cell h4 (p := ⟨X, 0, none⟩) hbX).trans k0; have y1 := (Below.cell h4 (p := ⟨X, 1, none⟩) hbX).trans k1; have y2 := (Below.cell h4 (p := ⟨X, 2, none⟩) hbX).trans k2; have y3 := (Below.cell h4 (p := ⟨X, 3, none⟩) hbX).trans k3; have y4 := (Below.cell h4 (p := ⟨g, N, none⟩) hgl).trans k4))
              | (refine step_append_lies _ rfl (.tmp 40) (.tmp 42) 31 rfl w7.heap.size 26 i1 _ 4 40 Try.underlying31 HI1.out HY0.out HY1.out HY2.out rfl (by decide) (.slice o4 m c4) m (fl rcC s) (by simp [Act.eval]) (own_upS HO4.out (by first | exact Up.alloc _ _ | exact (Up.alloc _ _).trans (Up.drew _) | exact (Up.drew _).trans (Up.alloc _ _))) ⟨w4.heap.size, 0, none⟩ 1 1 [.bool x0, .int .i64 x1, .int .i64 x2, .string x3] (by simp [Act.eval]) rfl (World.news_of_block (cs := #[.bool x0, .int .i64 x1, .int .i64 x2, .string x3]) (t := 26) (fr := (0, 0)) (by first | exact heap_alloc_new w4.drew _ | exact heap_alloc_new w4 _)) (by intro u hu; simp at hu; rcases hu with rfl | rfl | rfl | rfl <;> rfl) (by omega) (by unfold maxLen; omega) (by omega) ((h4.trans (by first | exact Up.alloc _ _ | exact (Up.alloc _ _).trans (Up.drew _) | exact (Up.drew _).trans (Up.alloc _ _))).size) _ rfl ?_; intro gA cA wA hA hgA hatA hltA; have hUA : Up w7 wA := Below.grown (h4.trans (by first | exact Up.alloc _ _ | exact (Up.alloc _ _).trans (Up.drew _) | exact (Up.drew _).trans (Up.alloc _ _))) hgA ((h4.trans (by first | exact Up.alloc _ _ | exact (Up.alloc _ _).trans (Up.drew _) | exact (Up.drew _).trans (Up.alloc _ _))).size) (fun q hq => (World.ownsRow.lt (HO4.out) q hq).1); have hRA := HRA.out _ _ _ _ hA; have z0 := (Below.cell hUA (p := ⟨X, 0, none⟩) hbX).trans k0; have z1 := (Below.cell hUA (p := ⟨X, 1, none⟩) hbX).trans k1; have z2 := (Below.cell hUA (p := ⟨X, 2, none⟩) hbX).trans k2; have z3 := (Below.cell hUA (p := ⟨X, 3, none⟩) hbX).trans k3; have z4 := (Below.cell hUA (p := ⟨g, N, none⟩) hgl).trans k4; obtain ⟨zf, zs, zg⟩ := HSET.out w7 wA gA cA HWw7.out hUA (HRAO.out _ _ _ _ hA); have HZS := Lib.hid zs; have HZU : Hid (Up w (wA.setCell ⟨g, N, none⟩ (.slice (some ⟨gA, 0, none⟩) (m + 1) cA))) := Below.setCell (show Below w.heap.size w wA from (HUw7.out.trans hUA)) (p := ⟨g, N, none⟩) zg _; clear zs zg)
              | (refine step_append_lies _ rfl (.tmp 40) (.tmp 42) 31 rfl w7.heap.size 26 i1 _ 4 40 Try.underlying31 HI1.out HY0.out HY1.out HY2.out rfl (by decide) (.slice o4 m c4) m (fl rcC s) (by simp [Act.eval]) (own_upS HO4.out (by first | exact Up.refl _ | exact Up.drew _)) ⟨w7.heap.size, 0, none⟩ 1 1 [.bool x0, .int .i64 x1, .int .i64 x2, .string x3] (by simp [Act.eval]) rfl (World.news_of_block (cs := #[.bool x0, .int .i64 x1, .int .i64 x2, .string x3]) (t := 26) (fr := (0, 0)) ((u4.block _ (by simp)).trans (by first | exact heap_alloc_new w7.drew _ | exact heap_alloc_new w7 _))) (by intro u hu; simp at hu; rcases hu with rfl | rfl | rfl | rfl <;> rfl) (by omega) (by unfold maxLen; omega) (by omega) ((h4.trans (by first | exact Up.refl _ | exact Up.drew _)).size) _ rfl ?_; intro gA cA wA hA hgA hatA hltA; have hUA : Up w7 wA := Below.grown (h4.trans (by first | exact Up.refl _ | exact Up.drew _)) hgA ((h4.trans (by first | exact Up.refl _ | exact Up.drew _)).size) (fun q hq => (World.ownsRow.lt (HO4.out) q hq).1); have hRA := HRA.out _ _ _ _ hA; have z0 := (Below.cell hUA (p := ⟨X, 0, none⟩) hbX).trans k0; have z1 := (Below.cell hUA (p := ⟨X, 1, none⟩) hbX).trans k1; have z2 := (Below.cell hUA (p := ⟨X, 2, none⟩) hbX).trans k2; have z3 := (Below.cell hUA (p := ⟨X, 3, none⟩) hbX).trans k3; have z4 := (Below.cell hUA (p := ⟨g, N, none⟩) hgl).trans k4; obtain ⟨zf, zs, zg⟩ := HSET.out w7 wA gA cA HWw7.out hUA (HRAO.out _ _ _ _ hA); have HZS := Lib.hid zs; have HZU : Hid (Up w (wA.setCell ⟨g, N, none⟩ (.slice (some ⟨gA, 0, none⟩) (m + 1) cA))) := Below.setCell (show Below w.heap.size w wA from (HUw7.out.trans hUA)) (p := ⟨g, N, none⟩) zg _; clear zs zg))
            all_goals
              have HNY := Lib.hid (HNX.out _ _ (by rw [HNEW.out]; exact HZS.out) HZU.out)
              go_wp2_with fail
              go_roundw
              case rel => have := HNY.out; simpa using this
              case measure => simp only [intOf]; omega
          · have HNEW : Hid (put1 L x = L ++ [[x]]) := HPN.out x (by rw [← HTA.out, HT.out]; exact ht)
            have dT : decide ((T : Int) ≤ 200) = false := decide_eq_false (by omega)
            have HRW5 := Lib.hid (HRW.out.up h7)
            have HS5 := Lib.hid (HS1.out.up h7)
            have HU5 := Lib.hid HUw7.out
            clear h7 u7 k0 k1 k2 k3 k4
            have b0 := HRW5.out.cell (j := 0) rfl
            have b1 := HRW5.out.cell (j := 1) rfl
            have b2 := HRW5.out.cell (j := 2) rfl
            have b3 := HRW5.out.cell (j := 3) rfl
            obtain ⟨C5, hC1, hC2, hC3⟩ := HS5.out
            have hC5 : C5.length = n := by rw [hC2.len]; exact HL.out
            have HC5 := Lib.hid hC5
            have U7 : Up w7 ((w7.alloc (.cells #[.bool x0, .int .i64 x1, .int .i64 x2, .string x3] 26)).alloc (.cells #[.slice (some ⟨w7.heap.size, 0, none⟩) 1 1] 31)) := (Up.alloc _ _).trans (Up.alloc _ _)
            have hnr := ((recs_new w7 x).up (Up.alloc _ (.cells #[.slice (some ⟨w7.heap.size, 0, none⟩) 1 1] 31))).recs
            rw [HRC.out] at hnr
            have HNR : Hid (Recs ((w7.alloc (.cells #[.bool x0, .int .i64 x1, .int .i64 x2, .string x3] 26)).alloc (.cells #[.slice (some ⟨w7.heap.size, 0, none⟩) 1 1] 31)) (.slice (some ⟨w7.heap.size, 0, none⟩) 1 1) [x]) := hnr
            have HO7 := Lib.hid (own_upS hC1 U7)
            have HR7 := Lib.hid (hC2.up U7)
            have HC7 : Hid (∀ j (h : j < C5.length) b, C5[j].ownBlock = some b → b < ((w7.alloc (.cells #[.bool x0, .int .i64 x1, .int .i64 x2, .string x3] 26)).alloc (.cells #[.slice (some ⟨w7.heap.size, 0, none⟩) 1 1] 31)).heap.size ∧ (Value.slice (some ⟨g, 0, none⟩) n cO).ownBlock ≠ some b) := fun j h b hb => ⟨Nat.lt_of_lt_of_le (hC3 j h b hb).1 U7.size, (hC3 j h b hb).2⟩
            have HUB : Hid (∀ b, (Value.slice (some ⟨w7.heap.size, 0, none⟩) 1 1).ownBlock = some b → b < ((w7.alloc (.cells #[.bool x0, .int .i64 x1, .int .i64 x2, .string x3] 26)).alloc (.cells #[.slice (some ⟨w7.heap.size, 0, none⟩) 1 1] 31)).heap.size ∧ (Value.slice (some ⟨g, 0, none⟩) n cO).ownBlock ≠ some b) := fun b hb => by
              have e : w7.heap.size = b := by injection hb
              subst e
              refine ⟨by simp; omega, fun e2 => ?_⟩
              have := (World.ownsRow.lt hC1 _ e2).2
              omega
            have HU7 : Hid (Up w ((w7.alloc (.cells #[.bool x0, .int .i64 x1, .int .i64 x2, .string x3] 26)).alloc (.cells #[.slice (some ⟨w7.heap.size, 0, none⟩) 1 1] 31))) := HU5.out.trans U7
            have HB6 : Hid (w7.heap.size + 1 = (w7.alloc (.cells #[.bool x0, .int .i64 x1, .int .i64 x2, .string x3] 26)).heap.size) := by show _ = _; simp
            have hsl9 : n ≤ 116 := hsl
            obtain ⟨i0, hi, hz0, hz1, hz2⟩ := sgInfo'
            have HI := Lib.hid hi
            have HZ0 := Lib.hid hz0
            have HZ1 := Lib.hid hz1
            have HZ2 := Lib.hid hz2
            clear hnr hi hz0 hz1 hz2 hC1 hC2 hC3 U7 hC5
            go_wp2_with (at_builtin; refine wpList_append_own_at _ rfl _ _ 22 rfl w.heap.size 31 i0 (.slice none 0 0) 1 24 Try.underlying22 HI.out HZ0.out HZ1.out HZ2.out rfl (by decide) _ _ _ rfl HO7.out ⟨w7.heap.size + 1, 0, none⟩ 1 1 [.slice (some ⟨w7.heap.size, 0, none⟩) 1 1] rfl rfl (by intro j u hj; have := cell_one_new (w7.alloc (.cells #[.bool x0, .int .i64 x1, .int .i64 x2, .string x3] 26)) (.slice (some ⟨w7.heap.size, 0, none⟩) 1 1) 31 j u hj; rw [← HB6.out] at this; exact this) (by intro u hu; rw [List.mem_singleton] at hu; rw [hu]; rfl) (by have := HC5.out; unfold maxLen; omega) (by have := HC5.out; omega) HU7.out.size ?_)
            intro v' w8 hown' hgrow _ hat'
            have HF8 : Hid (StI w.heap.size v' (put1 L x) w8) := by
              rw [HNEW.out]
              exact StI.more HR7.out HC7.out HNR.out HUB.out hown' hgrow (by simpa using hat')
            have HU8 : Hid (Up w w8) := Below.grown HU7.out hgrow HU7.out.size (fun k hk => (World.ownsRow.lt HO7.out k hk).1)
            have HNY := Lib.hid (HNX.out _ _ HF8.out HU8.out)
            clear hown' hgrow hat'
            go_wp2_with fail
            go_roundw
            case rel => have := HNY.out; simpa using this
            case measure => simp only [intOf]; omega
        · go_simp
          have h5 : Up w2 (w2.alloc (.cells #[.bool x0, .int .i64 x1, .int .i64 x2, .string x3] 26)).drew := (Up.alloc _ _).trans (Up.drew _)
          have v0 := (Below.cell h5 (p := ⟨X, 0, none⟩) hbX).trans k0
          have v1 := (Below.cell h5 (p := ⟨X, 1, none⟩) hbX).trans k1
          have v2 := (Below.cell h5 (p := ⟨X, 2, none⟩) hbX).trans k2
          have v3 := (Below.cell h5 (p := ⟨X, 3, none⟩) hbX).trans k3
          have v4 := (Below.cell h5 (p := ⟨g, N, none⟩) hgl).trans k4
          refine hK.out _ _ ?_ (fun hHeld => ?_)
          · exact ⟨⟨v0, v1, v2, v3⟩, v4⟩
          clear hK K
          try simp only [Act.put, List.setIfInBounds_toArray, List.set_cons_zero, List.set_cons_succ]
          refine wpAnyH_ready (rs := [7]) (by kernel_rfl) (by simp) ?_
          refine AllReadyH.cons (o := { dst := some 27, op := Op.call { callee := Callee.value (Operand.func 22), args := #[Operand.tmp 26], argTypes := #[31] }, type := 31, pos := "high.go:480", after := #[{ on := 6, ground := Ground.data }, { on := 2, ground := Ground.chain }, { on := 2, ground := Ground.guard }], guard := some (2, true) }) rfl (fun K hK => ?_) ?_
          rotate_left
          · exact AllReadyH.nil
          go_simp
          go_at_call 22
          with_reducible refine (HCLN.out _ ((Up.alloc w2 (.cells #[.bool x0, .int .i64 x1, .int .i64 x2, .string x3] 26)).trans (Up.drew _))).mono ?_
          rintro e w4 ⟨v4, rfl, ho4, u4⟩
          have h4 : Up w2 w4 := ((Up.alloc w2 (.cells #[.bool x0, .int .i64 x1, .int .i64 x2, .string x3] 26)).trans (Up.drew _)).trans u4
          have HO4 : Hid (w4.ownsRow w2.heap.size 26 4 v4 m (fl rcC s)) := HCB.out _ _ _ _ ho4 ((Up.alloc w2 (.cells #[.bool x0, .int .i64 x1, .int .i64 x2, .string x3] 26)).trans (Up.drew _)).size
          obtain ⟨o4, c4, hv4, _, _⟩ := ho4.recs.slice
          rw [HMM.out] at hv4
          subst hv4
          clear ho4
          have y0 := (Below.cell h4 (p := ⟨X, 0, none⟩) hbX).trans k0
          have y1 := (Below.cell h4 (p := ⟨X, 1, none⟩) hbX).trans k1
          have y2 := (Below.cell h4 (p := ⟨X, 2, none⟩) hbX).trans k2
          have y3 := (Below.cell h4 (p := ⟨X, 3, none⟩) hbX).trans k3
          have y4 := (Below.cell h4 (p := ⟨g, N, none⟩) hgl).trans k4
          refine hK.out _ _ ?_ (fun hHeld => ?_)
          · exact ⟨⟨y0, y1, y2, y3⟩, y4⟩
          clear hK K
          try simp only [Act.put, List.setIfInBounds_toArray, List.set_cons_zero, List.set_cons_succ]
          refine wpAnyH_ready (rs := [10]) (by kernel_rfl) (by simp) ?_
          refine AllReadyH.cons (o := { dst := some 30, op := Op.call { callee := Callee.builtin Builtin.append, args := #[Operand.tmp 27, Operand.tmp 29], argTypes := #[31, 31] }, type := 31, pos := "high.go:480", after := #[{ on := 7, ground := Ground.data }, { on := 9, ground := Ground.data }, { on := 7, ground := Ground.chain }, { on := 2, ground := Ground.guard }], guard := some (2, true) }) rfl (fun K hK => ?_) ?_
          rotate_left
          · exact AllReadyH.nil
          rw [if_pos (by rfl)]
          refine wp_append_lies _ (.tmp 27) (.tmp 29) 31 rfl w2.heap.size 26 i1 _ 4 40 Try.underlying31 HI1.out HY0.out HY1.out HY2.out rfl (by decide) (.slice o4 m c4) m (fl rcC s) (by first | rfl | simp [Act.eval]) (HO4.out) ⟨w2.heap.size, 0, none⟩ 1 1 [.bool x0, .int .i64 x1, .int .i64 x2, .string x3] (by first | rfl | simp [Act.eval]) rfl (World.news_of_block (cs := #[.bool x0, .int .i64 x1, .int .i64 x2, .string x3]) (t := 26) (fr := (0, 0)) ((u4.block _ (by simp)).trans (heap_alloc_new w2 _))) (by intro u hu; simp at hu; rcases hu with rfl | rfl | rfl | rfl <;> rfl) (by omega) (by unfold maxLen; omega) (by omega) (h4).size _ rfl ?_
          intro gA cA wA hA hgA hatA hltA
          have hUA : Up w2 wA := Below.grown (h4) hgA (h4).size (fun q hq => (World.ownsRow.lt (HO4.out) q hq).1)
          have hRA := HRA.out _ _ _ _ hA
          have z0 := (Below.cell hUA (p := ⟨X, 0, none⟩) hbX).trans k0
          have z1 := (Below.cell hUA (p := ⟨X, 1, none⟩) hbX).trans k1
          have z2 := (Below.cell hUA (p := ⟨X, 2, none⟩) hbX).trans k2
          have z3 := (Below.cell hUA (p := ⟨X, 3, none⟩) hbX).trans k3
          have z4 := (Below.cell hUA (p := ⟨g, N, none⟩) hgl).trans k4
          refine hK.out _ _ ?_ (fun hHeld => ?_)
          · exact ⟨⟨z0, z1, z2, z3⟩, z4⟩
          clear hK K
          try simp only [Act.put, List.setIfInBounds_toArray, List.set_cons_zero, List.set_cons_succ]
          refine wpAnyH_ready (rs := [11]) (by kernel_rfl) (by simp) ?_
          refine AllReadyH.cons (o := { dst := some 31, op := Op.call { callee := Callee.value (Operand.func 14), args := #[Operand.tmp 30], argTypes := #[31] }, type := 3, pos := "high.go:480", after := #[{ on := 10, ground := Ground.data }, { on := 10, ground := Ground.chain }, { on := 2, ground := Ground.guard }], guard := some (2, true) }) rfl (fun K hK => ?_) ?_
          rotate_left
          · exact AllReadyH.nil
          go_simp
          go_at_call 14
          with_reducible refine (HTKS.out _ _ (by first | exact hRA | exact hRA.up (Up.drew _))).mono ?_
          rintro e w7 ⟨rfl, u7⟩
          have h7 : Up w2 w7 := hUA.trans (by first | exact u7 | exact (Up.drew _).trans u7)
          have t0 := (Below.cell h7 (p := ⟨X, 0, none⟩) hbX).trans k0
          have t1 := (Below.cell h7 (p := ⟨X, 1, none⟩) hbX).trans k1
          have t2 := (Below.cell h7 (p := ⟨X, 2, none⟩) hbX).trans k2
          have t3 := (Below.cell h7 (p := ⟨X, 3, none⟩) hbX).trans k3
          have t4 := (Below.cell h7 (p := ⟨g, N, none⟩) hgl).trans k4
          refine hK.out _ _ ?_ (fun hHeld => ?_)
          · exact ⟨⟨t0, t1, t2, t3⟩, t4⟩
          clear hK K
          try simp only [Act.put, List.setIfInBounds_toArray, List.set_cons_zero, List.set_cons_succ]
          (refine wpAnyH_take (i := 12) (oi := { dst := some 32, op := Op.binOp BinOp.leq 3 (Operand.tmp 31) (Operand.const (Value.int IntKind.i64 200)) 3, type := 4, pos := "high.go:480", after := #[{ on := 11, ground := Ground.data }, { on := 2, ground := Ground.guard }], guard := some (2, true) }) (v := ?_) rfl (by kernel_rfl) (by kernel_rfl) (by kernel_rfl) (fun _ _ _ h => h) (Or.inl ⟨by rfl, ?_⟩) (by assumption) ?_)
          rotate_left
          · (intro w hSw; (try dsimp only at hSw); go_simp; try with_reducible rfl)
          try simp only [Act.put, List.setIfInBounds_toArray, List.set_cons_zero, List.set_cons_succ]
          (refine wpAnyH_take (i := 13) (oi := { dst := some 33, op := Op.pick (Operand.tmp 22) (Operand.tmp 32) (Operand.const (Value.bool false)), type := 4, pos := "high.go:480", after := #[{ on := 2, ground := Ground.data }, { on := 12, ground := Ground.data }], guard := none }) (v := ?_) rfl (by kernel_rfl) (by kernel_rfl) (by kernel_rfl) (fun _ _ _ h => h) (Or.inl ⟨by rfl, ?_⟩) (by assumption) ?_)
          rotate_left
          · (intro w hSw; (try dsimp only at hSw); go_simp; try with_reducible rfl)
          try simp only [Act.put, List.setIfInBounds_toArray, List.set_cons_zero, List.set_cons_succ]
          refine wpAnyH_done (by kernel_rfl) ?_ _
          have HWw7 := Lib.hid h7
          have HUw7 := Lib.hid (HUa.out.trans h7)
          have hbX7 := Nat.lt_of_lt_of_le hbX h7.size
          have hgl7 := Nat.lt_of_lt_of_le hgl h7.size
          clear kk0 k0 k1 k2 k3 k4 hbX hgl
          have k0 := t0
          have k1 := t1
          have k2 := t2
          have k3 := t3
          have k4 := t4
          have hbX := hbX7
          have hgl := hgl7
          clear t0 t1 t2 t3 t4 hbX7 hgl7
          by_cases ht : T ≤ 200
          · have HNEW : Hid (put1 L x = L.set N (s ++ [x])) := by
              have h1 := HPO.out x (by rw [← HTA.out, HT.out]; exact ht)
              have h2 := HNL.out
              show _ = _
              rw [h1]
              congr 1
              omega
            have dT : decide ((T : Int) ≤ 200) = true := decide_eq_true (by omega)
            have j0 : w7.drew.cell? ⟨X, 0, none⟩ = some (.bool x0) := k0
            have j1 : w7.drew.cell? ⟨X, 1, none⟩ = some (.int .i64 x1) := k1
            have j2 : w7.drew.cell? ⟨X, 2, none⟩ = some (.int .i64 x2) := k2
            have j3 : w7.drew.cell? ⟨X, 3, none⟩ = some (.string x3) := k3
            have j4 : w7.drew.cell? ⟨g, N, none⟩ = some (.slice oP m cP) := k4
            have e7 := Lib.cell?_alloc_some (.cells #[.bool x0, .int .i64 x1, .int .i64 x2, .string x3] 26) k4
            go_wp2_with fail
            go_region_law (first
              | (go_simp; go_at_call 22; ((with_reducible refine (HCLN.out _ (HWw7.out.trans (by first | exact Up.drew _ | exact (Up.drew _).trans (Up.alloc _ _) | exact (Up.alloc _ _).trans (Up.drew _) | exact Up.alloc _ _ | exact Up.refl _))).mono ?_); rintro e w4 ⟨v4, rfl, ho4, u4⟩; have h4 : Up w7 w4 := (by first | exact (Up.drew _).trans u4 | exact ((Up.drew _).trans (Up.alloc _ _)).trans u4 | exact ((Up.alloc _ _).trans (Up.drew _)).trans u4 | exact u4); have HO4 : Hid (w4.ownsRow w7.heap.size 26 4 v4 m (fl rcC s)) := HCB.out _ _ _ _ ho4 (by first | exact Nat.le_refl _ | (simp; done) | (simp; omega)); obtain ⟨o4, c4, hv4, _, _⟩ := ho4.recs.slice; rw [HMM.out] at hv4; subst hv4; clear ho4; have y0 := (Below.cell h4 (p := ⟨X, 0, none⟩) hbX).trans k0; have y1 := (Below.cell h4 (p := ⟨X, 1, none⟩) hbX).trans k1; have y2 := (Below.cell h4 (p := ⟨X, 2, none⟩) hbX).trans k2; have y3 := (Below.cell h4 (p := ⟨X, 3, none⟩) hbX).trans k3; have y4 := (Below.cell h4 (p := ⟨g, N, none⟩) hgl).trans k4))
              | (refine step_append_lies _ rfl (.tmp 40) (.tmp 42) 31 rfl w7.heap.size 26 i1 _ 4 40 Try.underlying31 HI1.out HY0.out HY1.out HY2.out rfl (by decide) (.slice o4 m c4) m (fl rcC s) (by simp [Act.eval]) (own_upS HO4.out (by first | exact Up.alloc _ _ | exact (Up.alloc _ _).trans (Up.drew _) | exact (Up.drew _).trans (Up.alloc _ _))) ⟨w4.heap.size, 0, none⟩ 1 1 [.bool x0, .int .i64 x1, .int .i64 x2, .string x3] (by simp [Act.eval]) rfl (World.news_of_block (cs := #[.bool x0, .int .i64 x1, .int .i64 x2, .string x3]) (t := 26) (fr := (0, 0)) (by first | exact heap_alloc_new w4.drew _ | exact heap_alloc_new w4 _)) (by intro u hu; simp at hu; rcases hu with rfl | rfl | rfl | rfl <;> rfl) (by omega) (by unfold maxLen; omega) (by omega) ((h4.trans (by first | exact Up.alloc _ _ | exact (Up.alloc _ _).trans (Up.drew _) | exact (Up.drew _).trans (Up.alloc _ _))).size) _ rfl ?_; intro gA cA wA hA hgA hatA hltA; have hUA : Up w7 wA := Below.grown (h4.trans (by first | exact Up.alloc _ _ | exact (Up.alloc _ _).trans (Up.drew _) | exact (Up.drew _).trans (Up.alloc _ _))) hgA ((h4.trans (by first | exact Up.alloc _ _ | exact (Up.alloc _ _).trans (Up.drew _) | exact (Up.drew _).trans (Up.alloc _ _))).size) (fun q hq => (World.ownsRow.lt (HO4.out) q hq).1); have hRA := HRA.out _ _ _ _ hA; have z0 := (Below.cell hUA (p := ⟨X, 0, none⟩) hbX).trans k0; have z1 := (Below.cell hUA (p := ⟨X, 1, none⟩) hbX).trans k1; have z2 := (Below.cell hUA (p := ⟨X, 2, none⟩) hbX).trans k2; have z3 := (Below.cell hUA (p := ⟨X, 3, none⟩) hbX).trans k3; have z4 := (Below.cell hUA (p := ⟨g, N, none⟩) hgl).trans k4; obtain ⟨zf, zs, zg⟩ := HSET.out w7 wA gA cA HWw7.out hUA (HRAO.out _ _ _ _ hA); have HZS := Lib.hid zs; have HZU : Hid (Up w (wA.setCell ⟨g, N, none⟩ (.slice (some ⟨gA, 0, none⟩) (m + 1) cA))) := Below.setCell (show Below w.heap.size w wA from (HUw7.out.trans hUA)) (p := ⟨g, N, none⟩) zg _; clear zs zg)
              | (refine step_append_lies _ rfl (.tmp 40) (.tmp 42) 31 rfl w7.heap.size 26 i1 _ 4 40 Try.underlying31 HI1.out HY0.out HY1.out HY2.out rfl (by decide) (.slice o4 m c4) m (fl rcC s) (by simp [Act.eval]) (own_upS HO4.out (by first | exact Up.refl _ | exact Up.drew _)) ⟨w7.heap.size, 0, none⟩ 1 1 [.bool x0, .int .i64 x1, .int .i64 x2, .string x3] (by simp [Act.eval]) rfl (World.news_of_block (cs := #[.bool x0, .int .i64 x1, .int .i64 x2, .string x3]) (t := 26) (fr := (0, 0)) ((u4.block _ (by simp)).trans (by first | exact heap_alloc_new w7.drew _ | exact heap_alloc_new w7 _))) (by intro u hu; simp at hu; rcases hu with rfl | rfl | rfl | rfl <;> rfl) (by omega) (by unfold maxLen; omega) (by omega) ((h4.trans (by first | exact Up.refl _ | exact Up.drew _)).size) _ rfl ?_; intro gA cA wA hA hgA hatA hltA; have hUA : Up w7 wA := Below.grown (h4.trans (by first | exact Up.refl _ | exact Up.drew _)) hgA ((h4.trans (by first | exact Up.refl _ | exact Up.drew _)).size) (fun q hq => (World.ownsRow.lt (HO4.out) q hq).1); have hRA := HRA.out _ _ _ _ hA; have z0 := (Below.cell hUA (p := ⟨X, 0, none⟩) hbX).trans k0; have z1 := (Below.cell hUA (p := ⟨X, 1, none⟩) hbX).trans k1; have z2 := (Below.cell hUA (p := ⟨X, 2, none⟩) hbX).trans k2; have z3 := (Below.cell hUA (p := ⟨X, 3, none⟩) hbX).trans k3; have z4 := (Below.cell hUA (p := ⟨g, N, none⟩) hgl).trans k4; obtain ⟨zf, zs, zg⟩ := HSET.out w7 wA gA cA HWw7.out hUA (HRAO.out _ _ _ _ hA); have HZS := Lib.hid zs; have HZU : Hid (Up w (wA.setCell ⟨g, N, none⟩ (.slice (some ⟨gA, 0, none⟩) (m + 1) cA))) := Below.setCell (show Below w.heap.size w wA from (HUw7.out.trans hUA)) (p := ⟨g, N, none⟩) zg _; clear zs zg))
            all_goals
              have HNY := Lib.hid (HNX.out _ _ (by rw [HNEW.out]; exact HZS.out) HZU.out)
              go_wp2_with fail
              go_roundw
              case rel => have := HNY.out; simpa using this
              case measure => simp only [intOf]; omega
          · have HNEW : Hid (put1 L x = L ++ [[x]]) := HPN.out x (by rw [← HTA.out, HT.out]; exact ht)
            have dT : decide ((T : Int) ≤ 200) = false := decide_eq_false (by omega)
            have HRW5 := Lib.hid (HRW.out.up h7)
            have HS5 := Lib.hid (HS1.out.up h7)
            have HU5 := Lib.hid HUw7.out
            clear h7 u7 k0 k1 k2 k3 k4
            have b0 := HRW5.out.cell (j := 0) rfl
            have b1 := HRW5.out.cell (j := 1) rfl
            have b2 := HRW5.out.cell (j := 2) rfl
            have b3 := HRW5.out.cell (j := 3) rfl
            obtain ⟨C5, hC1, hC2, hC3⟩ := HS5.out
            have hC5 : C5.length = n := by rw [hC2.len]; exact HL.out
            have HC5 := Lib.hid hC5
            have U7 : Up w7 ((w7.alloc (.cells #[.bool x0, .int .i64 x1, .int .i64 x2, .string x3] 26)).alloc (.cells #[.slice (some ⟨w7.heap.size, 0, none⟩) 1 1] 31)) := (Up.alloc _ _).trans (Up.alloc _ _)
            have hnr := ((recs_new w7 x).up (Up.alloc _ (.cells #[.slice (some ⟨w7.heap.size, 0, none⟩) 1 1] 31))).recs
            rw [HRC.out] at hnr
            have HNR : Hid (Recs ((w7.alloc (.cells #[.bool x0, .int .i64 x1, .int .i64 x2, .string x3] 26)).alloc (.cells #[.slice (some ⟨w7.heap.size, 0, none⟩) 1 1] 31)) (.slice (some ⟨w7.heap.size, 0, none⟩) 1 1) [x]) := hnr
            have HO7 := Lib.hid (own_upS hC1 U7)
            have HR7 := Lib.hid (hC2.up U7)
            have HC7 : Hid (∀ j (h : j < C5.length) b, C5[j].ownBlock = some b → b < ((w7.alloc (.cells #[.bool x0, .int .i64 x1, .int .i64 x2, .string x3] 26)).alloc (.cells #[.slice (some ⟨w7.heap.size, 0, none⟩) 1 1] 31)).heap.size ∧ (Value.slice (some ⟨g, 0, none⟩) n cO).ownBlock ≠ some b) := fun j h b hb => ⟨Nat.lt_of_lt_of_le (hC3 j h b hb).1 U7.size, (hC3 j h b hb).2⟩
            have HUB : Hid (∀ b, (Value.slice (some ⟨w7.heap.size, 0, none⟩) 1 1).ownBlock = some b → b < ((w7.alloc (.cells #[.bool x0, .int .i64 x1, .int .i64 x2, .string x3] 26)).alloc (.cells #[.slice (some ⟨w7.heap.size, 0, none⟩) 1 1] 31)).heap.size ∧ (Value.slice (some ⟨g, 0, none⟩) n cO).ownBlock ≠ some b) := fun b hb => by
              have e : w7.heap.size = b := by injection hb
              subst e
              refine ⟨by simp; omega, fun e2 => ?_⟩
              have := (World.ownsRow.lt hC1 _ e2).2
              omega
            have HU7 : Hid (Up w ((w7.alloc (.cells #[.bool x0, .int .i64 x1, .int .i64 x2, .string x3] 26)).alloc (.cells #[.slice (some ⟨w7.heap.size, 0, none⟩) 1 1] 31))) := HU5.out.trans U7
            have HB6 : Hid (w7.heap.size + 1 = (w7.alloc (.cells #[.bool x0, .int .i64 x1, .int .i64 x2, .string x3] 26)).heap.size) := by show _ = _; simp
            have hsl9 : n ≤ 116 := hsl
            obtain ⟨i0, hi, hz0, hz1, hz2⟩ := sgInfo'
            have HI := Lib.hid hi
            have HZ0 := Lib.hid hz0
            have HZ1 := Lib.hid hz1
            have HZ2 := Lib.hid hz2
            clear hnr hi hz0 hz1 hz2 hC1 hC2 hC3 U7 hC5
            go_wp2_with (at_builtin; refine wpList_append_own_at _ rfl _ _ 22 rfl w.heap.size 31 i0 (.slice none 0 0) 1 24 Try.underlying22 HI.out HZ0.out HZ1.out HZ2.out rfl (by decide) _ _ _ rfl HO7.out ⟨w7.heap.size + 1, 0, none⟩ 1 1 [.slice (some ⟨w7.heap.size, 0, none⟩) 1 1] rfl rfl (by intro j u hj; have := cell_one_new (w7.alloc (.cells #[.bool x0, .int .i64 x1, .int .i64 x2, .string x3] 26)) (.slice (some ⟨w7.heap.size, 0, none⟩) 1 1) 31 j u hj; rw [← HB6.out] at this; exact this) (by intro u hu; rw [List.mem_singleton] at hu; rw [hu]; rfl) (by have := HC5.out; unfold maxLen; omega) (by have := HC5.out; omega) HU7.out.size ?_)
            intro v' w8 hown' hgrow _ hat'
            have HF8 : Hid (StI w.heap.size v' (put1 L x) w8) := by
              rw [HNEW.out]
              exact StI.more HR7.out HC7.out HNR.out HUB.out hown' hgrow (by simpa using hat')
            have HU8 : Hid (Up w w8) := Below.grown HU7.out hgrow HU7.out.size (fun k hk => (World.ownsRow.lt HO7.out k hk).1)
            have HNY := Lib.hid (HNX.out _ _ HF8.out HU8.out)
            clear hown' hgrow hat'
            go_wp2_with fail
            go_roundw
            case rel => have := HNY.out; simpa using this
            case measure => simp only [intOf]; omega
    · have d1 : decide (k < m) = false := decide_eq_false hlt
      rw [List.take_of_length_le (by rw [HM.out]; omega)] at hsi
      have HSG := Lib.hid hsi.sgs
      obtain ⟨oO, cO, hvO, _, _⟩ := hsi.sgs.slice
      generalize (stand l rs).length = n at hvO
      subst hvO
      clear hsi hu
      go_wp2_with fail
      go_ret
      exact ⟨_, rfl, HSG.out, HU.out⟩

end Go.Proofs.Ytomfbffaekpnlaa
