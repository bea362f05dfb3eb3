/-
  The texts RefDo5, RefVol9, LawLog6, one behind the other; each says below what it holds and on what conditions.
-/
import Derived.Test.YtbeigaanlhaolaaGreatDoorJB39
import Derived.Test.YtbeigaanlhaolaaGreatDoorJB37
import Derived.Test.YtbeigaanlhaolaaGreatDoorJB32
import Derived.Test.YtbeigaanlhaolaaGreatDoorJB34
import Derived.Test.YtbeigaanlhaolaaGreatDoorJB26
import Derived.Test.YtbeigaanlhaolaaGreatDoorJB23
import Derived.Test.YtbeigaanlhaolaaGreatDoorJB40
import Derived.Test.YtbeigaanlhaolaaGreatDoorJB41
import Derived.Deep.DeepCutAuto

/-
  What the reference's Do returns, for kind 5. Condition: a state that can be read.
-/
namespace Go.Proofs.YtbeigaanlhaolaaGreatDoor
open Go.RowKit
open Go.Proofs
open WoolBag
open WoolVol

theorem clone_none {st : Sta} {s t : List UInt8} (h : chkS FP st = 0) (hx : vix (nmB s) st.v = none) : clone FP st s t = (zeroS, 4) := by
  unfold clone vfind
  rw [h, hx]
  simp
theorem clone_chk {st : Sta} {s t : List UInt8} (h : chkS FP st ≠ 0) : clone FP st s t = (zeroS, chkS FP st) := by
  unfold clone vfind
  rw [if_pos h]
  simp [h]
theorem clone_new {st : Sta} {s t : List UInt8} {k : Nat} (hf : vfind FP st s = (k, 0)) (hn : newE st t ≠ 0) : clone FP st s t = (zeroS, newE st t) := by
  unfold clone
  rw [hf, if_neg (by simp), if_pos hn]
theorem clone_some {st : Sta} {s t : List UInt8} {k : Nat} (hk : k < st.v.length) (hf : vfind FP st s = (k, 0)) (hn : newE st t = 0) : clone FP st s t = (⟨ret st.b st.v[k].bl, vins ⟨t, st.v[k].bl⟩ st.v⟩, 0) := by
  unfold clone
  rw [hf, if_neg (by simp), if_neg (by simpa using hn), getElem!_pos st.v k hk]

theorem Up.setBoth {w w' : World} (h : Up w w') (b i : Nat) (x : Value) : Up (w.setCell ⟨b, i, none⟩ x) (w'.setCell ⟨b, i, none⟩ x) := by
  refine ⟨h.os, h.tape, h.output, ?_, fun k hk => ?_⟩
  · simp only [World.setCell, Array.size_modify]; exact h.size
  · simp only [World.setCell, Array.size_modify] at hk
    simp only [World.setCell, Array.getElem?_modify, h.block k hk]

/-- a state's box that holds a state of another world's, to read -/
def CMid (w3 : World) (st : Sta) (n m : Nat) (p : Value) (wx : World) : Prop :=
  ∃ X o6 c6 o7 c7, p = .pointer (some ⟨X, 0, none⟩) ∧ w3.heap.size ≤ X ∧ RowC wx X 36 [.slice o6 n c6, .slice o7 m c7] ∧ Stat wx (.agg #[.slice o6 n c6, .slice o7 m c7]) st ∧ Up w3 wx

theorem cmid {w3 w5 : World} {st : Sta} {X n m c6 c7 : Nat} {o6 o7 : Option Addr} {a b : Value} (hx : RowC w5 X 36 [a, b]) (ha : isSl a = true) (hb : isSl b = true) (hX : w3.heap.size ≤ X) (hs : Stat w5 (.agg #[.slice o6 n c6, .slice o7 m c7]) st) (hU : Up w3 w5) :
    CMid w3 st n m (.pointer (some ⟨X, 0, none⟩)) ((w5.setCell ⟨X, 0, none⟩ (.slice o6 n c6)).setCell ⟨X, 1, none⟩ (.slice o7 m c7)) :=
  ⟨X, o6, c6, o7, c7, rfl, hX, (hx.set 0 _).set 1 _, Stat.boxed hs hx ha hb rfl, up2 hU hX⟩

def RcRel (l : List Itm) (bl : List Idn) (L base : Nat) (v : Value) (W6 : World) (i : Value) (wr : World) : Prop :=
  ∃ j : Nat, j ≤ L ∧ i = .int .i64 ((j : Nat) : Int) ∧ OItems wr base v (ret l (bl.take j)) ∧ Up W6 wr

set_option maxRecDepth 100000 in
set_option maxHeartbeats 2000000 in
theorem refDo5 (v : Value) (st : Sta) (s u t : List UInt8) (a : Int) (w : World) (h : Stat w v st) (hwf : WfS st) (hu : u.length ≤ 9223372036854775807) :
    Calls Tryz.prog 23 #[v, opV 5 s u a t] w (RdEPost w (clone FP st s u)) := by
  have HST := Lib.hid h
  have HCK := Lib.hid (fun W (hW : Up w W) => refState_any v st W (h.up hW) hwf)
  have HVL := Lib.hid (fun W (hW : Up w W) => refVol_any v st s W (h.up hW))
  have HFR := Lib.hid (fun (h6 : st.v.length ≤ 6) W (hW : Up w W) => fresh_any v st u W (h.up hW) hu h6)
  have HWI := Lib.hid (fun (hl : st.v.Pairwise (fun a b => slt a.nm b.nm = true)) (hno : ∀ a ∈ st.v, a.nm ≠ u) (h6 : st.v.length ≤ 6) bl vd W (hW : Up w W) (hd : Ids W vd bl) => with_any v st u vd bl W (h.up hW) hd hl hno h6)
  unfold RdPost at HWI
  obtain ⟨vb, vv, rfl, hb, hv⟩ := h
  have HVV := Lib.hid hv
  have HIT := Lib.hid hb
  obtain ⟨oB, cB, rfl, _⟩ := hb.slice
  obtain ⟨oV, cV, rfl, hV1, hV2⟩ := hv.slice
  unfold maxLen at hV2
  clear hb hv hwf
  obtain ⟨RS, hRS⟩ : ∃ RS, clone FP st s u = RS := ⟨_, rfl⟩
  rw [hRS]
  have HRS := Lib.hid hRS
  clear hRS
  obtain ⟨N, hN⟩ : ∃ N, st.v.length = N := ⟨_, rfl⟩
  obtain ⟨M, hM⟩ : ∃ M, st.b.length = M := ⟨_, rfl⟩
  have HN := Lib.hid hN
  have HM := Lib.hid hM
  rw [hN, hM] at HST HCK HVL HFR HWI ⊢
  rw [hN] at HVV hV1
  rw [hM] at HIT
  clear hN hM
  obtain ⟨CK, hCK⟩ : ∃ CK, chkS FP st = CK := ⟨_, rfl⟩
  rw [hCK] at HCK
  have HC := Lib.hid hCK
  clear hCK
  unfold opV
  have HRA : Hid (RowC (((w.alloc (.cells #[.slice oB M cB, .slice oV N cV] 36)).alloc (.cells #[.int .i64 5, .string (bs s), .string (bs u), .int .i64 a, .string (bs t)] 27)).alloc (.cells #[.slice none 0 0, .slice none 0 0] 36)) w.heap.size 36 [.slice oB M cB, .slice oV N cV]) := RowC.up (rowN_at [.slice oB M cB, .slice oV N cV] 36 rfl) ((Up.alloc _ _).trans (Up.alloc _ _))
  have HRO : Hid (RowC (((w.alloc (.cells #[.slice oB M cB, .slice oV N cV] 36)).alloc (.cells #[.int .i64 5, .string (bs s), .string (bs u), .int .i64 a, .string (bs t)] 27)).alloc (.cells #[.slice none 0 0, .slice none 0 0] 36)) (w.heap.size + 1) 27 [.int .i64 5, .string (bs s), .string (bs u), .int .i64 a, .string (bs t)]) := RowC.up (rowN_at [.int .i64 5, .string (bs s), .string (bs u), .int .i64 a, .string (bs t)] 27 (by simp)) (Up.alloc _ _)
  have HRR : Hid (RowC (((w.alloc (.cells #[.slice oB M cB, .slice oV N cV] 36)).alloc (.cells #[.int .i64 5, .string (bs s), .string (bs u), .int .i64 a, .string (bs t)] 27)).alloc (.cells #[.slice none 0 0, .slice none 0 0] 36)) (w.heap.size + 1 + 1) 36 [.slice none 0 0, .slice none 0 0]) := rowN_at [.slice none 0 0, .slice none 0 0] 36 (by simp)
  have HW0 : Hid (Up w (((w.alloc (.cells #[.slice oB M cB, .slice oV N cV] 36)).alloc (.cells #[.int .i64 5, .string (bs s), .string (bs u), .int .i64 a, .string (bs t)] 27)).alloc (.cells #[.slice none 0 0, .slice none 0 0] 36))) := ((Up.alloc _ _).trans (Up.alloc _ _)).trans (Up.alloc _ _)
  go_enter Tryz.func23, Tryz.ntmps23
  go_upto_region 1 with (fail)
  generalize (((w.alloc (.cells #[.slice oB M cB, .slice oV N cV] 36)).alloc (.cells #[.int .i64 5, .string (bs s), .string (bs u), .int .i64 a, .string (bs t)] 27)).alloc (.cells #[.slice none 0 0, .slice none 0 0] 36)) = W0 at HRA HRO HRR HW0 ⊢
  have q0 := HRA.out.cell (j := 0) rfl
  have q1 := HRA.out.cell (j := 1) rfl
  go_wp2_with fail
  refine (HCK.out _ HW0.out).mono ?_
  rintro e w1 ⟨rfl, u1⟩
  have HRAw1 := Lib.hid (HRA.out.up u1)
  have HROw1 := Lib.hid (HRO.out.up u1)
  have HRw1 := Lib.hid (HRR.out.up u1)
  have HUw1 := Lib.hid (HW0.out.trans u1)
  clear u1 q0 q1 HRA HRO HRR HW0
  obtain ⟨NE, hNE⟩ : ∃ NE, newE st u = NE := ⟨_, rfl⟩
  rw [hNE] at HFR
  have HNE0 := Lib.hid hNE
  clear hNE
  by_cases h0 : CK = 0
  · subst h0
    have q0 := HRAw1.out.cell (j := 0) rfl
    have q1 := HRAw1.out.cell (j := 1) rfl
    have q2 := HROw1.out.cell (j := 1) rfl
    cases hx : vix (nmB s) st.v with
    | none =>
      have hr : ixV (fun t => t == s) st.v = -1 := by rw [ixV_name, hx]
      rw [hr] at HVL
      have HRZ : Hid (RS = (zeroS, 4)) := by show _ = _; rw [← HRS.out, clone_none HC.out hx]
      clear hr hx
      go_wp2_with fail
      refine (HVL.out _ HUw1.out).mono ?_
      rintro e w2 ⟨rfl, u2⟩
      have HROw2 := Lib.hid (HROw1.out.up u2)
      have HRw2 := Lib.hid (HRw1.out.up u2)
      have HUw2 := Lib.hid (HUw1.out.trans u2)
      clear u2 q0 q1 q2
      have c0 := HROw2.out.cell (j := 0) rfl
      have r0 := HRw2.out.frozen 0
      have r1 := HRw2.out.frozen 1
      have r2 := HRw2.out.cell (j := 0) rfl
      have r3 := HRw2.out.cell (j := 1) rfl
      go_wp2_with fail
      have hz := (HRw2.out.set 0 (.slice none 0 0)).set 1 (.slice none 0 0)
      have z0 := hz.cell (j := 0) rfl
      have z1 := hz.cell (j := 1) rfl
      have HUZ := Lib.hid (up2 (x := .slice none 0 0) (y := .slice none 0 0) HUw2.out (show w.heap.size ≤ w.heap.size + 1 + 1 by omega))
      generalize (w2.setCell ⟨w.heap.size + 1 + 1, 0, none⟩ (.slice none 0 0)).setCell ⟨w.heap.size + 1 + 1, 1, none⟩ (.slice none 0 0) = WZ at z0 z1 HUZ ⊢
      exact bodyPost_ret (v := .tuple #[zeroV, .int .i64 4]) (by simp [results, Tryz.results23, go_sem, z0, z1, zeroV]) rfl ⟨_, by rw [HRZ.out], by rw [HRZ.out]; exact Stat.zero _, HUZ.out⟩
    | some k =>
      have hr : ixV (fun t => t == s) st.v = (k : Int) := by rw [ixV_name, hx]
      rw [hr] at HVL
      obtain ⟨hk, _, _⟩ := vix_some hx
      have HF := Lib.hid (vfind_some HC.out hx)
      have hgood : WoolVol.Good FP st := chkS_zero.1 HC.out
      have HGD := Lib.hid hgood
      obtain ⟨b, off, rfl, h5⟩ := HVV.out.at (by intro e; rw [e] at hk; simp at hk)
      obtain ⟨a1, u0, a2, hids⟩ := h5 k hk
      obtain ⟨o', c', rfl, hc1, hc2⟩ := hids.slice
      have hvol := hgood.vol _ (List.getElem_mem hk)
      have hN6 : N ≤ 6 := by rw [← HN.out]; exact hgood.len
      have HFR2 := Lib.hid (HFR.out hN6)
      obtain ⟨bl, hbl⟩ : ∃ bl, st.v[k].bl = bl := ⟨_, rfl⟩
      rw [hbl] at hids hvol
      have HBL := Lib.hid hbl
      have HIDS := Lib.hid hids
      have HCD := Lib.hid (fun W (hW : Up w W) => cloneD_any _ bl W (hids.up hW) hvol.2.1)
      unfold IdsPost at HCD
      have HVOL := Lib.hid hvol
      have hL32 := hvol.2.1
      obtain ⟨L, hL⟩ : ∃ L, bl.length = L := ⟨_, rfl⟩
      have HL := Lib.hid hL
      rw [hbl] at a2 hc1
      rw [hL] at a2 hL32 HCD HIDS hc1
      unfold maxLen at hc2
      have HA2 := Lib.hid a2
      have hkN : k < N := by rw [← HN.out]; exact hk
      clear hr hx h5 a1 hids hL hbl hvol
      go_wp2_with fail
      refine (HVL.out _ HUw1.out).mono ?_
      rintro e w2 ⟨rfl, u2⟩
      have HRAw2 := Lib.hid (HRAw1.out.up u2)
      have HROw2 := Lib.hid (HROw1.out.up u2)
      have HRw2 := Lib.hid (HRw1.out.up u2)
      have HUw2 := Lib.hid (HUw1.out.trans u2)
      clear u2 q0 q1 q2 a2
      have c0 := HROw2.out.cell (j := 0) rfl
      have c2 := HROw2.out.cell (j := 2) rfl
      have q0 := HRAw2.out.cell (j := 0) rfl
      have q1 := HRAw2.out.cell (j := 1) rfl
      go_wp2_with fail
      refine (HFR2.out _ HUw2.out).mono ?_
      rintro e w3 ⟨rfl, u3⟩
      have HRAw3 := Lib.hid (HRAw2.out.up u3)
      have HROw3 := Lib.hid (HROw2.out.up u3)
      have HRw3 := Lib.hid (HRw2.out.up u3)
      have HUw3 := Lib.hid (HUw2.out.trans u3)
      clear u3 q0 q1 c0 c2
      by_cases hE : NE = 0
      · subst hE
        obtain ⟨hnm, hno, h6⟩ := newE_zero HNE0.out
        have HRZ := Lib.hid (HRS.out.symm.trans (clone_some hk HF.out HNE0.out))
        rw [HBL.out] at HRZ
        have HWI2 := Lib.hid (HWI.out hgood.ord hno (by first | exact hN6 | exact hgood.len) bl)
        have q0 := HRAw3.out.cell (j := 0) rfl
        have q1 := HRAw3.out.cell (j := 1) rfl
        have q2 := HROw3.out.cell (j := 2) rfl
        have q3 := (HUw3.out.cell (World.block_lt_of_cell? w _ HA2.out)).trans HA2.out
        have hZlt := HRw3.out.lt
        have hbw : b < w.heap.size := World.block_lt_of_cell? w _ HA2.out
        obtain ⟨L5, hL5⟩ : ∃ L5, (vins ⟨u, bl⟩ st.v).length = L5 := ⟨_, rfl⟩
        have HL5 := Lib.hid hL5
        have hblt : b < w3.heap.size := World.block_lt_of_cell? w3 _ q3
        have HY : Hid (∀ W, Up w3 W → W.cell? ⟨w.heap.size, 0, none⟩ = some (.slice oB M cB) ∧ W.cell? ⟨w.heap.size, 1, none⟩ = some (.slice (some ⟨b, off, none⟩) N cV) ∧ W.cell? ⟨w.heap.size + 1, 2, none⟩ = some (.string (bs u)) ∧ W.cell? ⟨b, off + k * 2 + 1, none⟩ = some (.slice o' L c')) := fun W hW =>
          ⟨(HRAw3.out.up hW).cell (j := 0) rfl, (HRAw3.out.up hW).cell (j := 1) rfl, (HROw3.out.up hW).cell (j := 2) rfl, ((HUw3.out.trans hW).cell (World.block_lt_of_cell? w _ HA2.out)).trans HA2.out⟩
        have HCD2 : Hid (∀ W, Up w W → Calls Tryz.prog 44 #[.slice o' L c'] W fun e w' => ∃ o4 c4, e = .returned (.slice o4 L c4) ∧ Ids w' (.slice o4 L c4) bl ∧ Up W w') := by
          intro W hW
          refine (HCD.out W hW).mono ?_
          rintro e w' ⟨v', rfl, h1, h2⟩
          have h3 := h1.ids
          obtain ⟨o4, c4, hv, _, _⟩ := h3.slice
          rw [HL.out] at hv
          subst hv
          exact ⟨o4, c4, rfl, h3, h2⟩
        have HWI3 : Hid (∀ vd W, Up w W → Ids W vd bl → Calls Tryz.prog 41 #[.agg #[.slice oB M cB, .slice (some ⟨b, off, none⟩) N cV], .agg #[.string (bs u), vd]] W fun e w' => ∃ o6 c6 o7 c7, e = .returned (.agg #[.slice o6 M c6, .slice o7 L5 c7]) ∧ Stat w' (.agg #[.slice o6 M c6, .slice o7 L5 c7]) ⟨st.b, vins ⟨u, bl⟩ st.v⟩ ∧ Up W w') := by
          intro vd W hW hd
          refine (HWI2.out vd W hW hd).mono ?_
          rintro e w' ⟨v', rfl, h1, h2⟩
          obtain ⟨o6, c6, o7, c7, hv⟩ := h1.shape
          have hv' : v' = .agg #[.slice o6 M c6, .slice o7 L5 c7] := by rw [hv, ← HM.out, ← HL5.out]
          subst hv'
          exact ⟨o6, c6, o7, c7, rfl, h1, h2⟩
        clear hgood hnm hno h6 hL5
        go_upto_region 26 with (fail)
        go_cut [11] (fun p wx => CMid w3 ⟨st.b, vins ⟨u, bl⟩ st.v⟩ M L5 p wx)
        case first =>
          go_region_held3 (fun U => U.cell? ⟨w.heap.size, 0, none⟩ = some (.slice oB M cB) ∧ U.cell? ⟨w.heap.size, 1, none⟩ = some (.slice (some ⟨b, off, none⟩) N cV) ∧ U.cell? ⟨w.heap.size + 1, 2, none⟩ = some (.string (bs u)) ∧ U.cell? ⟨b, off + k * 2 + 1, none⟩ = some (.slice o' L c')) (first | go_keep | (exact ⟨(World.cell?_setCell_far _ _ _ _ (by intro hh; simp only at hh; omega)).trans ((World.cell?_setCell_far _ _ _ _ (by intro hh; simp only at hh; omega)).trans y0), (World.cell?_setCell_far _ _ _ _ (by intro hh; simp only at hh; omega)).trans ((World.cell?_setCell_far _ _ _ _ (by intro hh; simp only at hh; omega)).trans y1), (World.cell?_setCell_far _ _ _ _ (by intro hh; simp only at hh; omega)).trans ((World.cell?_setCell_far _ _ _ _ (by intro hh; simp only at hh; omega)).trans y2), (World.cell?_setCell_far _ _ _ _ (by intro hh; simp only at hh; omega)).trans ((World.cell?_setCell_far _ _ _ _ (by intro hh; simp only at hh; omega)).trans y3)⟩)) (first
            | (go_at_call 44; first
              | (have hc := HCD2.out w3.drew (HUw3.out.trans (Up.drew w3)); (with_reducible apply Calls.mono hc); clear hc; rintro e w4 ⟨o4, c4, rfl, hid4, u4⟩; have h34 : Up w3 w4 := Up.trans (Up.drew w3) u4; obtain ⟨y0, y1, y2, y3⟩ := HY.out w4 h34)
              | (have hc := HCD2.out (w3.alloc (.cells #[.slice none 0 0, .slice none 0 0] 36)).drew (HUw3.out.trans ((Up.alloc w3 _).trans (Up.drew _))); (with_reducible apply Calls.mono hc); clear hc; rintro e w4 ⟨o4, c4, rfl, hid4, u4⟩; have h34 : Up w3 w4 := Up.trans ((Up.alloc w3 _).trans (Up.drew _)) u4; obtain ⟨y0, y1, y2, y3⟩ := HY.out w4 h34; have hxb4 : RowC w4 w3.heap.size 36 [.slice none 0 0, .slice none 0 0] := RowC.up (heap_alloc_new w3 (.cells #[.slice none 0 0, .slice none 0 0] 36)) (Up.trans (Up.drew _) u4)))
            | (go_at_call 41; first
              | (have hxb : RowC w4 w3.heap.size 36 [.slice none 0 0, .slice none 0 0] := hxb4; have hc := HWI3.out (.slice o4 L c4) w4 (HUw3.out.trans (h34.trans (Up.refl w4))) (hid4.up (Up.refl w4)); (with_reducible apply Calls.mono hc); clear hc; rintro e w5 ⟨o6, c6, o7, c7, rfl, hs5, u5⟩; have h35 : Up w3 w5 := (h34.trans (Up.refl w4)).trans u5; have hsz4 := h34.size; have hsz5 := h35.size; have HS5 := Lib.hid hs5; obtain ⟨y0, y1, y2, y3⟩ := HY.out w5 h35; have hx5 := hxb.up u5; have x0 := hx5.frozen 0; have x1 := hx5.frozen 1; have x2 := hx5.cell (j := 0) rfl; have x3 := hx5.cell (j := 1) rfl)
              | (have hxb : RowC (w4.alloc (.cells #[.slice none 0 0, .slice none 0 0] 36)) w4.heap.size 36 [.slice none 0 0, .slice none 0 0] := heap_alloc_new w4 (.cells #[.slice none 0 0, .slice none 0 0] 36); have hc := HWI3.out (.slice o4 L c4) (w4.alloc (.cells #[.slice none 0 0, .slice none 0 0] 36)) (HUw3.out.trans (h34.trans (Up.alloc w4 _))) (hid4.up (Up.alloc w4 _)); (with_reducible apply Calls.mono hc); clear hc; rintro e w5 ⟨o6, c6, o7, c7, rfl, hs5, u5⟩; have h35 : Up w3 w5 := (h34.trans (Up.alloc w4 _)).trans u5; have hsz4 := h34.size; have hsz5 := h35.size; have HS5 := Lib.hid hs5; obtain ⟨y0, y1, y2, y3⟩ := HY.out w5 h35; have hx5 := hxb.up u5; have x0 := hx5.frozen 0; have x1 := hx5.frozen 1; have x2 := hx5.cell (j := 0) rfl; have x3 := hx5.cell (j := 1) rfl)
              | (have hc := HWI3.out (.slice o4 L c4) w4 (HUw3.out.trans (h34.trans (Up.refl w4))) (hid4.up (Up.refl w4)); (with_reducible apply Calls.mono hc); clear hc; rintro e w5 ⟨o6, c6, o7, c7, rfl, hs5, u5⟩; have h35 : Up w3 w5 := (h34.trans (Up.refl w4)).trans u5; have hsz4 := h34.size; have hsz5 := h35.size; have HS5 := Lib.hid hs5; obtain ⟨y0, y1, y2, y3⟩ := HY.out w5 h35)))
          all_goals
            clear y0 y1 y2 y3
            go_wp2_with fail
            go_meet
            first
            | exact cmid hx5 rfl rfl (by omega) HS5.out h35
            | exact ⟨_, o6, c6, o7, c7, rfl, hsz5, heap_alloc_new w5 _, HS5.out.up (Up.alloc _ _), h35.trans (Up.alloc _ _)⟩
        case rest =>
          obtain ⟨X, o6, c6, o7, c7, rfl, hXW, hX, hSX, hU6⟩ := hcut
          obtain ⟨W6, hW6⟩ : ∃ W6, W6 = wc := ⟨_, rfl⟩
          subst hW6
          have HSCL := Lib.hid (fun W (hW : Up w W) => sclone_any _ st.b W (HIT.out.up hW) HGD.out.bag.len)
          unfold OwnPost at HSCL
          obtain ⟨vb6, vv6, hag, _, hv6⟩ := hSX
          simp at hag
          obtain ⟨rfl, rfl⟩ := hag
          have HV6 := Lib.hid hv6
          have HX6 := Lib.hid hX
          have HU6 := Lib.hid hU6
          have HA6 := Lib.hid (HRAw3.out.up hU6)
          have HZ6 := Lib.hid (HRw3.out.up hU6)
          have hXlt := hX.lt
          clear hX hv6 hU6 q0 q1 q2 q3
          have q0 := HA6.out.cell (j := 0) rfl
          go_wp2_with fail
          refine (HSCL.out _ (HUw3.out.trans HU6.out)).mono ?_
          rintro e w7 ⟨v7, rfl, ho7, u7⟩
          obtain ⟨o8, c8, hv7⟩ := own_slice ho7
          subst hv7
          rw [HM.out] at ho7 ⊢
          have hX7 := HX6.out.up u7
          have x0 := hX7.cell (j := 0) rfl
          have x1 := hX7.frozen 0
          have HUP8 : Hid (Up (W6.setCell ⟨X, 0, none⟩ (.slice o8 M c8)) (w7.setCell ⟨X, 0, none⟩ (.slice o8 M c8))) := Up.setBoth u7 X 0 _
          have HO8 : Hid (OItems (w7.setCell ⟨X, 0, none⟩ (.slice o8 M c8)) W6.heap.size (.slice o8 M c8) st.b) := OItems.setR ho7 hX7
          have HX8 := Lib.hid (HX6.out.set 0 (.slice o8 M c8))
          have HV8 := Lib.hid (HV6.out.setS (i := 0) (y := .slice o8 M c8) HX6.out rfl rfl)
          have hneZ : w.heap.size + 1 + 1 ≠ X := by omega
          have hneA : w.heap.size ≠ X := by omega
          have HZ8 := Lib.hid (HZ6.out.other hneZ 0 (.slice o8 M c8))
          have HA8 := Lib.hid (HA6.out.other hneA 0 (.slice o8 M c8))
          have HU8 : Hid (Up w (W6.setCell ⟨X, 0, none⟩ (.slice o8 M c8))) := Below.setCell (HUw3.out.trans HU6.out) (p := ⟨X, 0, none⟩) (show w.heap.size ≤ X by omega) _
          have HSZ8 : Hid ((W6.setCell ⟨X, 0, none⟩ (.slice o8 M c8)).heap.size = W6.heap.size) := by show _ = _; simp
          have hc8 : M ≤ c8 ∧ c8 ≤ 9223372036854775807 := by
            obtain ⟨o, c, h1, h2, h3, _⟩ := HO8.out.items
            cases h1
            unfold maxLen at h3
            rw [HM.out] at h2
            exact ⟨h2, by omega⟩
          obtain ⟨hc8a, hc8b⟩ := hc8
          clear ho7 u7 hX7 q0
          go_upto_region 28 with (fail)
          clear x0 x1
          generalize w7.setCell ⟨X, 0, none⟩ (.slice o8 M c8) = W9 at HUP8 HO8 ⊢
          obtain ⟨W8, hW8⟩ : ∃ W8, W6.setCell ⟨X, 0, none⟩ (.slice o8 M c8) = W8 := ⟨_, rfl⟩
          rw [hW8] at HUP8 HX8 HV8 HZ8 HA8 HU8 HSZ8
          obtain ⟨base, hbase⟩ : ∃ base, W6.heap.size = base := ⟨_, rfl⟩
          rw [hbase] at HO8 HSZ8
          clear hW8 hbase
          have HSTT : Hid (RcRel st.b bl L base (.slice o8 M c8) W8 (.int .i64 0) W9) := ⟨0, Nat.zero_le _, rfl, by rw [List.take_zero, ret_nil]; exact HO8.out, HUP8.out⟩
          have q1 := (HA8.out.up HUP8.out).cell (j := 1) rfl
          have q3 := ((HU8.out.trans HUP8.out).cell (World.block_lt_of_cell? w _ HA2.out)).trans HA2.out
          go_wp2_with fail
          go_loopw [117] (fun i wr => RcRel st.b bl L base (.slice o8 M c8) W8 i wr) (fun i _ => L - (intOf i).toNat)
          case atStart => exact HSTT.out
          case round =>
            obtain ⟨j, hj, rfl, ho, hup⟩ := hrel
            have HOJ := Lib.hid ho
            have HUJ := Lib.hid hup
            have HXJ := Lib.hid (HX8.out.up hup)
            have HZJ := Lib.hid (HZ8.out.up hup)
            have HVJ := Lib.hid (HV8.out.up hup)
            have HUW := Lib.hid (HU8.out.trans hup)
            clear ho hup q1 q3
            by_cases hlt : j < L
            · have dz : decide (j < L) = true := decide_eq_true hlt
              have hjl : j < bl.length := by rw [HL.out]; exact hlt
              obtain ⟨ba, offa, hoa, hca⟩ := HIDS.out.at (by intro e; rw [e] at hjl; simp at hjl)
              subst hoa
              obtain ⟨e1, e2, e3⟩ := hca j hjl
              rw [← HUW.out.cell (World.block_lt_of_cell? w _ e1)] at e1
              rw [← HUW.out.cell (World.block_lt_of_cell? w _ e2)] at e2
              rw [← HUW.out.cell (World.block_lt_of_cell? w _ e3)] at e3
              have he := HVOL.out.2.2 _ (List.getElem_mem hjl)
              have HT : Hid (bl.take (j + 1) = bl.take j ++ [bl[j]]) := List.take_succ_eq_append_getElem hjl
              obtain ⟨y, hy⟩ : ∃ y, bl[j] = y := ⟨_, rfl⟩
              rw [hy] at e1 e2 e3 he HT
              obtain ⟨yb, ys, yn⟩ := y
              simp only at e1 e2 e3
              have HTL : Hid ((bl.take j).length ≤ 32) := by show _ ≤ _; rw [List.length_take]; omega
              clear hca hy
              cases yb with
              | false =>
                have HRT : Hid (ret st.b (bl.take (j + 1)) = ret st.b (bl.take j)) := by show _ = _; rw [HT.out, ret_hole rfl]
                clear he
                go_wp2_with fail
                go_roundw
                case rel => exact ⟨j + 1, by omega, by go_num, by rw [HRT.out]; exact HOJ.out.up (Up.alloc _ _), HUJ.out.trans (Up.alloc _ _)⟩
                case measure => simp only [intOf]; omega
              | true =>
                obtain ⟨xi, hxi, hxid⟩ := errB_in he rfl
                obtain ⟨i, hi, rfl⟩ := List.getElem_of_mem hxi
                have hix := idx_ret (bl := bl.take j) HGD.out.bag hi hxid
                have hrhit := ret_hit (bl := bl.take j) HGD.out.bag hi hxid
                have hok := (HGD.out.bag.ok _ (List.getElem_mem hi)).2.2.2.2
                have hcn0 := cnt_nonneg (bl.take j) (true, ys, yn)
                have hcn1 := cnt_le (bl.take j) (true, ys, yn)
                have hcn2 := HTL.out
                rcases HOJ.out.row with ⟨_, hn⟩ | ⟨g, cap, sp, hvv, hgb, hrow, hr1, hr2, hr3⟩
                · have h9 := ret_len st.b (bl.take j)
                  rw [hn] at h9
                  simp at h9
                  omega
                simp only [Value.slice.injEq] at hvv
                obtain ⟨rfl, hMk, rfl⟩ := hvv
                clear hMk
                rw [ret_len, HM.out] at hr1 hr3
                have hiM : i < M := by rw [← HM.out]; exact hi
                have hir : i < (ret st.b (bl.take j)).length := by rw [ret_len]; exact hi
                have b4 := (itL_get (ret st.b (bl.take j)) i hir).2.2.2
                have hsetR := itL_setR (ret st.b (bl.take j)) i hir 1
                rw [ret_at hi hir, ← hxid] at b4 hsetR
                have hmore : more (more st.b[i] (cnt (bl.take j) (true, ys, yn))) 1 = more st.b[i] (cnt (bl.take j) (true, ys, yn) + 1) := by unfold more; simp; omega
                rw [hmore, ← hrhit, ← HT.out] at hsetR
                have a4 := hrow.cell (get_appV (sp := sp) b4)
                have hget := get_appV (sp := sp) b4
                have hrr : (more st.b[i] (cnt (bl.take j) (true, ys, yn))).r = st.b[i].r + cnt (bl.take j) (true, ys, yn) := rfl
                rw [hrr] at a4 hsetR hget
                obtain ⟨rr, hrrr⟩ : ∃ rr, st.b[i].r + cnt (bl.take j) (true, ys, yn) = rr := ⟨_, rfl⟩
                have hrb : 0 ≤ rr ∧ rr ≤ 2000000 := by omega
                obtain ⟨hrb1, hrb2⟩ := hrb
                rw [hrrr] at a4 hsetR hget
                have HGET := Lib.hid hget
                have HSET := Lib.hid hsetR
                have HROW := Lib.hid hrow
                have HGB := Lib.hid hgb
                have hixI : ixI (idB (true, ys, yn)) (ret st.b (bl.take j)) = (i : Int) := by unfold ixI; rw [hix]
                have HREF : Hid (∀ W, Up wr W → Calls Tryz.prog 46 #[.slice (some ⟨g, 0, none⟩) M c8, .agg #[.bool true, .int .i64 ys, .int .i64 yn]] W fun e w' => e = .returned (.int .i64 (i : Int)) ∧ Up W w') := fun W hW => by
                  have h9 := refItem_any (.slice (some ⟨g, 0, none⟩) M c8) (ret st.b (bl.take j)) true ys yn W (HOJ.out.items.up hW)
                  rw [hixI] at h9
                  exact h9
                have hwr : IntKind.i64.wrap (rr + 1) = rr + 1 := IntWalk.i64_in _ (by omega)
                clear he hxi hxid hix hrhit hok hcn0 hcn1 hcn2 hrow hgb hir b4 hget hsetR hmore hrr hrrr hixI hi
                go_upto_region 32 with (fail)
                have k0 := World.cell?_alloc_new wr #[.bool true, .int .i64 ys, .int .i64 yn] 86 0
                have k1 := World.cell?_alloc_new wr #[.bool true, .int .i64 ys, .int .i64 yn] 86 1
                have k2 := World.cell?_alloc_new wr #[.bool true, .int .i64 ys, .int .i64 yn] 86 2
                have HU10 : Hid (Up wr (wr.alloc (.cells #[.bool true, .int .i64 ys, .int .i64 yn] 86))) := Up.alloc _ _
                clear e1 e2 e3 a4
                generalize wr.alloc (.cells #[.bool true, .int .i64 ys, .int .i64 yn] 86) = W10 at k0 k1 k2 HU10 ⊢
                have hX10 := HXJ.out.up HU10.out
                have x0 := hX10.cell (j := 0) rfl
                have x9 := hX10.lt
                have hR10 := HROW.out.up HU10.out
                have HCC : Hid (∀ W, Up W10 W → W.cell? ⟨X, 0, none⟩ = some (.slice (some ⟨g, 0, none⟩) M c8) ∧ W.cell? ⟨g, i * 4 + 3, none⟩ = some (.int .i64 rr) ∧ W.frozen? ⟨g, i * 4 + 3, none⟩ = false) := fun W hW =>
                  ⟨(hX10.up hW).cell (j := 0) rfl, (hR10.up hW).cell HGET.out, (hR10.up hW).frozen _⟩
                clear hX10 hR10
                go_region_with ((go_at_call 46; ((with_reducible refine (HREF.out _ (HU10.out.trans (Up.drew _))).mono ?_); rintro e w11 ⟨rfl, u11⟩; have h11 : Up W10 w11 := (Up.drew _).trans u11; obtain ⟨y0, y1, y2⟩ := HCC.out w11 h11)))
                all_goals
                  have h12 := HU10.out.trans h11
                  have hS := (HROW.out.up h12).set (i * 4 + 3) (.int .i64 (rr + 1))
                  rw [List.set_append_left _ _ (by rw [itL_length, ret_len, HM.out]; omega), HSET.out] at hS
                  have HO12 : Hid (OItems (w11.setCell ⟨g, i * 4 + 3, none⟩ (.int .i64 (rr + 1))) base (.slice (some ⟨g, 0, none⟩) M c8) (ret st.b (bl.take (j + 1)))) := by
                    have h9 := OItems.mk HGB.out hS (by rw [ret_len, HM.out]; exact hr1) hr2 (by rw [ret_len, HM.out]; exact hr3)
                    rw [ret_len, HM.out] at h9
                    exact h9
                  have HU12 : Hid (Up W8 (w11.setCell ⟨g, i * 4 + 3, none⟩ (.int .i64 (rr + 1)))) := Below.setCell (HUJ.out.trans h12) (p := ⟨g, i * 4 + 3, none⟩) (by rw [HSZ8.out]; exact HGB.out) _
                  clear h12 hS h11 u11 y0 y1 y2 k0 k1 k2 x0 x9
                  generalize w11.setCell ⟨g, i * 4 + 3, none⟩ (.int .i64 (rr + 1)) = W12 at HO12 HU12 ⊢
                  go_wp2_with fail
                  go_roundw
                  case rel => exact ⟨j + 1, by omega, by go_num, HO12.out, HU12.out⟩
                  case measure => simp only [intOf]; omega
            · have dz : decide (j < L) = false := decide_eq_false hlt
              have hjL : bl.take j = bl := List.take_of_length_le (by rw [HL.out]; omega)
              have hoi := HOJ.out.items
              rw [hjL] at hoi
              have x0 := HXJ.out.cell (j := 0) rfl
              have x1 := HXJ.out.cell (j := 1) rfl
              have r0 := HZJ.out.frozen 0
              have r1 := HZJ.out.frozen 1
              have r2 := HZJ.out.cell (j := 0) rfl
              have r3 := HZJ.out.cell (j := 1) rfl
              have HSJ : Hid (Stat wr (.agg #[.slice o8 M c8, .slice o7 L5 c7]) ⟨ret st.b bl, vins ⟨u, bl⟩ st.v⟩) := ⟨_, _, rfl, hoi, HVJ.out⟩
              clear hoi hjL hlt
              go_wp2_with fail
              have hz := (HZJ.out.set 0 (.slice o8 M c8)).set 1 (.slice o7 L5 c7)
              have z0 := hz.cell (j := 0) rfl
              have z1 := hz.cell (j := 1) rfl
              have HOZ := Lib.hid (Stat.boxed (x := .slice o8 M c8) (y := .slice o7 L5 c7) HSJ.out HZJ.out rfl rfl rfl)
              have HUZ := Lib.hid (up2 (x := .slice o8 M c8) (y := .slice o7 L5 c7) HUW.out (show w.heap.size ≤ w.heap.size + 1 + 1 by omega))
              generalize (wr.setCell ⟨w.heap.size + 1 + 1, 0, none⟩ (.slice o8 M c8)).setCell ⟨w.heap.size + 1 + 1, 1, none⟩ (.slice o7 L5 c7) = WZ at z0 z1 HOZ HUZ ⊢
              exact bodyPost_ret (v := .tuple #[.agg #[.slice o8 M c8, .slice o7 L5 c7], .int .i64 0]) (by simp [results, Tryz.results23, go_sem, z0, z1]) rfl ⟨_, by rw [HRZ.out], by rw [HRZ.out]; exact HOZ.out, HUZ.out⟩
      · have hne : (NE != 0) = true := by rw [bne_iff_ne]; exact hE
        have HRZ : Hid (RS = (zeroS, NE)) := by show _ = _; rw [← HRS.out, clone_new HF.out (by rw [HNE0.out]; exact hE), HNE0.out]
        clear hE
        have r0 := HRw3.out.frozen 0
        have r1 := HRw3.out.frozen 1
        have r2 := HRw3.out.cell (j := 0) rfl
        have r3 := HRw3.out.cell (j := 1) rfl
        go_wp2_with fail
        have hz := (HRw3.out.set 0 (.slice none 0 0)).set 1 (.slice none 0 0)
        have z0 := hz.cell (j := 0) rfl
        have z1 := hz.cell (j := 1) rfl
        have HUZ := Lib.hid (up2 (x := .slice none 0 0) (y := .slice none 0 0) HUw3.out (show w.heap.size ≤ w.heap.size + 1 + 1 by omega))
        generalize (w3.setCell ⟨w.heap.size + 1 + 1, 0, none⟩ (.slice none 0 0)).setCell ⟨w.heap.size + 1 + 1, 1, none⟩ (.slice none 0 0) = WZ at z0 z1 HUZ ⊢
        exact bodyPost_ret (v := .tuple #[zeroV, .int .i64 NE]) (by simp [results, Tryz.results23, go_sem, z0, z1, zeroV]) rfl ⟨_, by rw [HRZ.out], by rw [HRZ.out]; exact Stat.zero _, HUZ.out⟩
  · have hne : (CK != 0) = true := by rw [bne_iff_ne]; exact h0
    have HRZ : Hid (RS = (zeroS, CK)) := by show _ = _; rw [← HRS.out, clone_chk (by rw [HC.out]; exact h0), HC.out]
    clear h0
    have r0 := HRw1.out.frozen 0
    have r1 := HRw1.out.frozen 1
    have r2 := HRw1.out.cell (j := 0) rfl
    have r3 := HRw1.out.cell (j := 1) rfl
    go_wp2_with fail
    have hz := (HRw1.out.set 0 (.slice none 0 0)).set 1 (.slice none 0 0)
    have z0 := hz.cell (j := 0) rfl
    have z1 := hz.cell (j := 1) rfl
    have HUZ := Lib.hid (up2 (x := .slice none 0 0) (y := .slice none 0 0) HUw1.out (show w.heap.size ≤ w.heap.size + 1 + 1 by omega))
    generalize (w1.setCell ⟨w.heap.size + 1 + 1, 0, none⟩ (.slice none 0 0)).setCell ⟨w.heap.size + 1 + 1, 1, none⟩ (.slice none 0 0) = WZ at z0 z1 HUZ ⊢
    exact bodyPost_ret (v := .tuple #[zeroV, .int .i64 CK]) (by simp [results, Tryz.results23, go_sem, z0, z1, zeroV]) rfl ⟨_, by rw [HRZ.out], by rw [HRZ.out]; exact Stat.zero _, HUZ.out⟩

end Go.Proofs.YtbeigaanlhaolaaGreatDoor

/-
  The law's told. Conditions: as each says.
-/
namespace Go.Proofs.YtbeigaanlhaolaaGreatDoor
open Go.RowKit
open Go.Proofs
open WoolBag
open WoolVol

set_option maxRecDepth 100000 in
set_option maxHeartbeats 400000 in
theorem told_yes (v1 v2 : Value) (st : Sta) (x : Int) (w : World) (h1 : Stat w v1 st) (h2 : Stat w v2 st) :
    Calls Tryz.prog 10 #[v1, .int .i64 x, v2, .int .i64 x] w fun e w' => e = .returned (.bool true) ∧ Up w w' := by
  have HS := Lib.hid (fun W (hW : Up w W) => same_yes v1 v2 st W (h1.up hW) (h2.up hW))
  obtain ⟨a1, b1, rfl, hi1, hv1⟩ := h1
  obtain ⟨a2, b2, rfl, hi2, hv2⟩ := h2
  obtain ⟨o1, c1, rfl, _⟩ := hi1.slice
  obtain ⟨o2, c2, rfl, _⟩ := hi2.slice
  obtain ⟨o3, c3, rfl, _, _⟩ := hv1.slice
  obtain ⟨o4, c4, rfl, _, _⟩ := hv2.slice
  clear hi1 hi2 hv1 hv2
  go_enter Tryz.func10, Tryz.ntmps10
  go_wp2_with fail
  refine (HS.out _ ((Up.alloc _ _).trans (Up.alloc _ _))).mono ?_
  rintro e w1 ⟨rfl, u1⟩
  go_wp2_with fail
  go_ret
  exact ⟨rfl, ((Up.alloc _ _).trans (Up.alloc _ _)).trans u1⟩

end Go.Proofs.YtbeigaanlhaolaaGreatDoor

/-
  The law LogDoes: whatever is handed in, Do answers what the document says. Conditions: a state that can be read, a deed that a call can be handed.
-/
namespace Go.Proofs.YtbeigaanlhaolaaGreatDoor
open Go.RowKit
open Go.Proofs
open WoolBag
open WoolVol

def ShpPost (w : World) (r : Sta × Int) (e : Ending) (w' : World) : Prop := ∃ o c p d, e = .returned (.tuple #[.agg #[.slice o r.1.b.length c, .slice p r.1.v.length d], .int .i64 r.2]) ∧ Stat w' (.agg #[.slice o r.1.b.length c, .slice p r.1.v.length d]) r.1 ∧ Up w w'

theorem shp_of {w : World} {r : Sta × Int} {e : Ending} {w' : World} (h : RdEPost w r e w') : ShpPost w r e w' := by
  obtain ⟨v, rfl, h1, h2⟩ := h
  obtain ⟨o, c, p, d, rfl⟩ := h1.shape
  exact ⟨o, c, p, d, rfl, h1, h2⟩

/-- the reference's Do, for a deed that is right -/
theorem refDo_any (v : Value) (st : Sta) (o : Opn) (w : World) (h : Stat w v st) (hwf : WfS st) (ho : OpWf o) (hc : chkO o = 0) :
    Calls Tryz.prog 23 #[v, opA o] w (ShpPost w (doO FP st o)) := by
  have h15 := chkO_kd hc
  have e0 : doO FP st o = doK FP st o := by unfold doO; rw [if_neg (by omega)]
  rw [e0]
  obtain ⟨kd, s, u, a, t⟩ := o
  simp only at h15
  unfold doK
  simp only
  by_cases h1 : kd = 1
  · subst h1
    rw [if_pos rfl]
    exact (refDo1 v st s u t a w h hwf ho.2.1).mono (fun _ _ => shp_of)
  by_cases h2 : kd = 2
  · subst h2
    rw [if_neg (by omega), if_pos rfl]
    exact (refDo2 v st s u t a w h hwf).mono (fun _ _ => shp_of)
  by_cases h3 : kd = 3
  · subst h3
    rw [if_neg (by omega), if_neg (by omega), if_pos rfl]
    have h9 := refDo34 v st 3 s u t a w h hwf (by omega) (by omega) (by omega)
    unfold do34 at h9
    rw [if_neg (by omega)] at h9
    exact h9.mono (fun _ _ => shp_of)
  by_cases h4 : kd = 4
  · subst h4
    rw [if_neg (by omega), if_neg (by omega), if_neg (by omega), if_pos rfl]
    have h9 := refDo34 v st 4 s u t a w h hwf (by omega) (by omega) (by omega)
    unfold do34 at h9
    rw [if_pos rfl] at h9
    exact h9.mono (fun _ _ => shp_of)
  · have h5 : kd = 5 := by omega
    subst h5
    rw [if_neg (by omega), if_neg (by omega), if_neg (by omega), if_neg (by omega)]
    exact (refDo5 v st s u t a w h hwf ho.2.2.1).mono (fun _ _ => shp_of)

end Go.Proofs.YtbeigaanlhaolaaGreatDoor
