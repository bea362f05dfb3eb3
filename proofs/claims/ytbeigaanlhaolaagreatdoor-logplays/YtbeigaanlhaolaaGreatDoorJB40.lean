/-
  The texts RefDo1, VolCat, one behind the other; each says below what it holds and on what conditions.
-/
import Derived.Test.YtbeigaanlhaolaaGreatDoorJB39
import Derived.Test.YtbeigaanlhaolaaGreatDoorJB37
import Derived.Test.YtbeigaanlhaolaaGreatDoorJB16
import Derived.Lib.AppendZerosOnto
import Derived.Lib.SliceRun

/-
  What the reference's Do returns, for kind 1. Condition: a state that can be read.
-/
namespace Go.Proofs.YtbeigaanlhaolaaGreatDoor
open Go.RowKit
open Go.Proofs
open WoolBag
open WoolVol

set_option maxRecDepth 100000 in
set_option maxHeartbeats 2000000 in
theorem refDo1 (v : Value) (st : Sta) (s u t : List UInt8) (a : Int) (w : World) (h : Stat w v st) (hwf : WfS st) (hs : s.length ≤ 9223372036854775807) :
    Calls Tryz.prog 23 #[v, opV 1 s u a t] w (RdEPost w (make FP st s a)) := by
  have HST := Lib.hid h
  have HCK := Lib.hid (fun W (hW : Up w W) => refState_any v st W (h.up hW) hwf)
  have HVL := Lib.hid (fun W (hW : Up w W) => refVol_any v st s W (h.up hW))
  have HFR := Lib.hid (fun (h6 : st.v.length ≤ 6) W (hW : Up w W) => fresh_any v st s W (h.up hW) hs h6)
  have HWI := Lib.hid (fun (hl : st.v.Pairwise (fun a b => slt a.nm b.nm = true)) (hno : ∀ a ∈ st.v, a.nm ≠ s) (h6 : st.v.length ≤ 6) vd bl W (hW : Up w W) (hd : Ids W vd bl) => with_any v st s vd bl W (h.up hW) hd hl hno h6)
  unfold RdPost at HWI
  obtain ⟨vb, vv, rfl, hb, hv⟩ := h
  have HVV := Lib.hid hv
  obtain ⟨oB, cB, rfl, _⟩ := hb.slice
  obtain ⟨oV, cV, rfl, hV1, hV2⟩ := hv.slice
  unfold maxLen at hV2
  clear hb hv hwf
  obtain ⟨RS, hRS⟩ : ∃ RS, make FP st s a = RS := ⟨_, rfl⟩
  rw [hRS]
  have HRS := Lib.hid hRS
  clear hRS
  obtain ⟨N, hN⟩ : ∃ N, st.v.length = N := ⟨_, rfl⟩
  obtain ⟨M, hM⟩ : ∃ M, st.b.length = M := ⟨_, rfl⟩
  have HN := Lib.hid hN
  have HM := Lib.hid hM
  rw [hN, hM] at HST HCK HVL HFR HWI ⊢
  rw [hN] at HVV hV1
  clear hN hM
  obtain ⟨CK, hCK⟩ : ∃ CK, chkS FP st = CK := ⟨_, rfl⟩
  rw [hCK] at HCK
  have HC := Lib.hid hCK
  clear hCK
  unfold opV
  have HRA : Hid (RowC (((w.alloc (.cells #[.slice oB M cB, .slice oV N cV] 36)).alloc (.cells #[.int .i64 1, .string (bs s), .string (bs u), .int .i64 a, .string (bs t)] 27)).alloc (.cells #[.slice none 0 0, .slice none 0 0] 36)) w.heap.size 36 [.slice oB M cB, .slice oV N cV]) := RowC.up (rowN_at [.slice oB M cB, .slice oV N cV] 36 rfl) ((Up.alloc _ _).trans (Up.alloc _ _))
  have HRO : Hid (RowC (((w.alloc (.cells #[.slice oB M cB, .slice oV N cV] 36)).alloc (.cells #[.int .i64 1, .string (bs s), .string (bs u), .int .i64 a, .string (bs t)] 27)).alloc (.cells #[.slice none 0 0, .slice none 0 0] 36)) (w.heap.size + 1) 27 [.int .i64 1, .string (bs s), .string (bs u), .int .i64 a, .string (bs t)]) := RowC.up (rowN_at [.int .i64 1, .string (bs s), .string (bs u), .int .i64 a, .string (bs t)] 27 (by simp)) (Up.alloc _ _)
  have HRR : Hid (RowC (((w.alloc (.cells #[.slice oB M cB, .slice oV N cV] 36)).alloc (.cells #[.int .i64 1, .string (bs s), .string (bs u), .int .i64 a, .string (bs t)] 27)).alloc (.cells #[.slice none 0 0, .slice none 0 0] 36)) (w.heap.size + 1 + 1) 36 [.slice none 0 0, .slice none 0 0]) := rowN_at [.slice none 0 0, .slice none 0 0] 36 (by simp)
  have HW0 : Hid (Up w (((w.alloc (.cells #[.slice oB M cB, .slice oV N cV] 36)).alloc (.cells #[.int .i64 1, .string (bs s), .string (bs u), .int .i64 a, .string (bs t)] 27)).alloc (.cells #[.slice none 0 0, .slice none 0 0] 36))) := ((Up.alloc _ _).trans (Up.alloc _ _)).trans (Up.alloc _ _)
  go_enter Tryz.func23, Tryz.ntmps23
  go_upto_region 1 with (fail)
  generalize (((w.alloc (.cells #[.slice oB M cB, .slice oV N cV] 36)).alloc (.cells #[.int .i64 1, .string (bs s), .string (bs u), .int .i64 a, .string (bs t)] 27)).alloc (.cells #[.slice none 0 0, .slice none 0 0] 36)) = W0 at HRA HRO HRR HW0 ⊢
  have q0 := HRA.out.cell (j := 0) rfl
  have q1 := HRA.out.cell (j := 1) rfl
  go_wp2_with fail
  refine (HCK.out _ HW0.out).mono ?_
  rintro e w1 ⟨rfl, u1⟩
  have HRAw1 := Lib.hid (HRA.out.up u1)
  have HROw1 := Lib.hid (HRO.out.up u1)
  have HRw1 := Lib.hid (HRR.out.up u1)
  have HUw1 := Lib.hid (HW0.out.trans u1)
  clear u1 q0 q1 HRA HRO HRR HW0
  unfold make at HRS
  rw [HC.out] at HRS
  obtain ⟨NE, hNE⟩ : ∃ NE, newE st s = NE := ⟨_, rfl⟩
  rw [hNE] at HRS HFR
  have HNE0 := Lib.hid hNE
  clear hNE
  generalize ixV (fun t => t == s) st.v = IX at HVL
  by_cases h0 : CK = 0
  · subst h0
    have hgood := chkS_zero.1 HC.out
    have hN6 : N ≤ 6 := by rw [← HN.out]; exact hgood.len
    have HFR2 := Lib.hid (HFR.out hN6)
    have q0 := HRAw1.out.cell (j := 0) rfl
    have q1 := HRAw1.out.cell (j := 1) rfl
    have q2 := HROw1.out.cell (j := 1) rfl
    go_wp2_with fail
    refine (HVL.out _ HUw1.out).mono ?_
    rintro e w2 ⟨rfl, u2⟩
    have HRAw2 := Lib.hid (HRAw1.out.up u2)
    have HROw2 := Lib.hid (HROw1.out.up u2)
    have HRw2 := Lib.hid (HRw1.out.up u2)
    have HUw2 := Lib.hid (HUw1.out.trans u2)
    clear u2 q0 q1 q2
    have c0 := HROw2.out.cell (j := 0) rfl
    have c3 := HROw2.out.cell (j := 3) rfl
    by_cases hn : a < 1 ∨ 32 < a
    · have HRZ : Hid (RS = (zeroS, 1)) := by show _ = _; rw [← HRS.out, if_neg (by simp), if_pos hn]
      go_wp2_with fail
      refine (refWithin_no _ _ _ _ hn).mono ?_
      rintro e w3 ⟨rfl, rfl⟩
      clear hn
      have r0 := HRw2.out.frozen 0
      have r1 := HRw2.out.frozen 1
      have r2 := HRw2.out.cell (j := 0) rfl
      have r3 := HRw2.out.cell (j := 1) rfl
      go_wp2_with fail
      have hz := (HRw2.out.set 0 (.slice none 0 0)).set 1 (.slice none 0 0)
      have z0 := hz.cell (j := 0) rfl
      have z1 := hz.cell (j := 1) rfl
      have HUZ := Lib.hid (up2 (x := .slice none 0 0) (y := .slice none 0 0) HUw2.out (show w.heap.size ≤ w.heap.size + 1 + 1 by omega))
      generalize (w2.setCell ⟨w.heap.size + 1 + 1, 0, none⟩ (.slice none 0 0)).setCell ⟨w.heap.size + 1 + 1, 1, none⟩ (.slice none 0 0) = WZ at z0 z1 HUZ ⊢
      exact bodyPost_ret (v := .tuple #[zeroV, .int .i64 1]) (by simp [results, Tryz.results23, go_sem, z0, z1, zeroV]) rfl ⟨_, by rw [HRZ.out], by rw [HRZ.out]; exact Stat.zero _, HUZ.out⟩
    · obtain ⟨q, rfl⟩ : ∃ q : Nat, a = (q : Int) := ⟨a.toNat, by omega⟩
      have hq1 : 1 ≤ q := by omega
      have hq2 : q ≤ 32 := by omega
      go_wp2_with fail
      refine (refWithin_yes _ _ _ _ (by omega) (by omega)).mono ?_
      rintro e w3 ⟨rfl, rfl⟩
      have q0 := HRAw2.out.cell (j := 0) rfl
      have q1 := HRAw2.out.cell (j := 1) rfl
      have q2 := HROw2.out.cell (j := 1) rfl
      go_wp2_with fail
      refine (HFR2.out _ HUw2.out).mono ?_
      rintro e w3 ⟨rfl, u3⟩
      have HRAw3 := Lib.hid (HRAw2.out.up u3)
      have HROw3 := Lib.hid (HROw2.out.up u3)
      have HRw3 := Lib.hid (HRw2.out.up u3)
      have HUw3 := Lib.hid (HUw2.out.trans u3)
      clear u3 q0 q1 q2 c0 c3
      by_cases hE : NE = 0
      · subst hE
        obtain ⟨hnm, hno, h6⟩ := newE_zero HNE0.out
        have HRZ : Hid (RS = (⟨st.b, vins ⟨s, List.replicate q noId⟩ st.v⟩, 0)) := by show _ = _; rw [← HRS.out, if_neg (by simp), if_neg hn, if_neg (by simp), Int.toNat_natCast]
        have HWI2 := Lib.hid (HWI.out hgood.ord hno (by first | exact hN6 | exact hgood.len))
        have hmk := fun W => run_holes q hq2 W
        have HMO := Lib.hid (fun W => holes_own q hq2 W 0 (Nat.zero_le _))
        have q0 := HRAw3.out.cell (j := 0) rfl
        have q1 := HRAw3.out.cell (j := 1) rfl
        have q2 := HROw3.out.cell (j := 1) rfl
        have q3 := HROw3.out.cell (j := 3) rfl
        have hne1 : w.heap.size + 1 + 1 ≠ w.heap.size := by omega
        have hne2 : w.heap.size + 1 + 1 ≠ w.heap.size + 1 := by omega
        clear hgood hnm hno h6 hn
        go_wp2_with fail
        go_region_held3 (fun U => U.cell? ⟨w.heap.size, 0, none⟩ = some (.slice oB M cB) ∧ U.cell? ⟨w.heap.size, 1, none⟩ = some (.slice oV N cV) ∧ U.cell? ⟨w.heap.size + 1, 1, none⟩ = some (.string (bs s)) ∧ U.cell? ⟨w.heap.size + 1, 3, none⟩ = some (.int .i64 (q : Int))) (first | go_keep | (exact ⟨(World.cell?_setCell_far _ _ _ _ hne1).trans ((World.cell?_setCell_far _ _ _ _ hne1).trans y0), (World.cell?_setCell_far _ _ _ _ hne1).trans ((World.cell?_setCell_far _ _ _ _ hne1).trans y1), (World.cell?_setCell_far _ _ _ _ hne2).trans ((World.cell?_setCell_far _ _ _ _ hne2).trans y2), (World.cell?_setCell_far _ _ _ _ hne2).trans ((World.cell?_setCell_far _ _ _ _ hne2).trans y3)⟩)) ((go_at_call 41; (have hc := HWI2.out (.slice (some ⟨w3.heap.size, 0, none⟩) q q) (List.replicate q noId) (w3.alloc (.cells (fl idC (List.replicate q noId)).toArray 86)).drew (HUw3.out.trans ((Up.alloc _ _).trans (Up.drew _))) ((HMO.out w3).ids.up (Up.drew _)); with_reducible refine hc.mono ?_; clear hc; rintro e w4 ⟨v4, rfl, hs4, u4⟩; have h34 : Up w3 w4 := ((Up.alloc _ _).trans (Up.drew _)).trans u4; have HS4 := Lib.hid hs4; obtain ⟨o4, c4, o5, c5, hv4⟩ := hs4.shape; subst hv4; have hz4 := HRw3.out.up h34; have x0 := hz4.frozen 0; have x1 := hz4.frozen 1; have x2 := hz4.cell (j := 0) rfl; have x3 := hz4.cell (j := 1) rfl; have y0 := (HRAw3.out.up h34).cell (j := 0) rfl; have y1 := (HRAw3.out.up h34).cell (j := 1) rfl; have y2 := (HROw3.out.up h34).cell (j := 1) rfl; have y3 := (HROw3.out.up h34).cell (j := 3) rfl)))
        all_goals
          have HZ4 := Lib.hid hz4
          have HU4 := Lib.hid (HUw3.out.trans h34)
          clear hz4 x0 x1 x2 x3 y0 y1 y2 y3
          go_wp2_with fail
          obtain ⟨L5, hL5⟩ : ∃ L5, (vins ⟨s, List.replicate q noId⟩ st.v).length = L5 := ⟨_, rfl⟩
          rw [hL5] at HS4 ⊢
          have hz := (HZ4.out.set 0 (.slice o4 st.b.length c4)).set 1 (.slice o5 L5 c5)
          have z0 := hz.cell (j := 0) rfl
          have z1 := hz.cell (j := 1) rfl
          have HOZ := Lib.hid (Stat.boxed (x := .slice o4 st.b.length c4) (y := .slice o5 L5 c5) HS4.out HZ4.out rfl rfl rfl)
          have HUZ := Lib.hid (up2 (x := .slice o4 st.b.length c4) (y := .slice o5 L5 c5) HU4.out (show w.heap.size ≤ w.heap.size + 1 + 1 by omega))
          generalize (w4.setCell ⟨w.heap.size + 1 + 1, 0, none⟩ (.slice o4 st.b.length c4)).setCell ⟨w.heap.size + 1 + 1, 1, none⟩ (.slice o5 L5 c5) = WZ at z0 z1 HOZ HUZ ⊢
          exact bodyPost_ret (v := .tuple #[.agg #[.slice o4 st.b.length c4, .slice o5 L5 c5], .int .i64 0]) (by simp [results, Tryz.results23, go_sem, z0, z1]) rfl ⟨_, by rw [HRZ.out], by rw [HRZ.out]; exact HOZ.out, HUZ.out⟩
      · have hne : (NE != 0) = true := by rw [bne_iff_ne]; exact hE
        have HRZ : Hid (RS = (zeroS, NE)) := by show _ = _; rw [← HRS.out, if_neg (by simp), if_neg hn, if_pos hE]
        clear hE hn
        have r0 := HRw3.out.frozen 0
        have r1 := HRw3.out.frozen 1
        have r2 := HRw3.out.cell (j := 0) rfl
        have r3 := HRw3.out.cell (j := 1) rfl
        go_wp2_with fail
        have hz := (HRw3.out.set 0 (.slice none 0 0)).set 1 (.slice none 0 0)
        have z0 := hz.cell (j := 0) rfl
        have z1 := hz.cell (j := 1) rfl
        have HUZ := Lib.hid (up2 (x := .slice none 0 0) (y := .slice none 0 0) HUw3.out (show w.heap.size ≤ w.heap.size + 1 + 1 by omega))
        generalize (w3.setCell ⟨w.heap.size + 1 + 1, 0, none⟩ (.slice none 0 0)).setCell ⟨w.heap.size + 1 + 1, 1, none⟩ (.slice none 0 0) = WZ at z0 z1 HUZ ⊢
        exact bodyPost_ret (v := .tuple #[zeroV, .int .i64 NE]) (by simp [results, Tryz.results23, go_sem, z0, z1, zeroV]) rfl ⟨_, by rw [HRZ.out], by rw [HRZ.out]; exact Stat.zero _, HUZ.out⟩
  · have hne : (CK != 0) = true := by rw [bne_iff_ne]; exact h0
    have HRZ : Hid (RS = (zeroS, CK)) := by show _ = _; rw [← HRS.out, if_pos h0]
    clear h0
    have r0 := HRw1.out.frozen 0
    have r1 := HRw1.out.frozen 1
    have r2 := HRw1.out.cell (j := 0) rfl
    have r3 := HRw1.out.cell (j := 1) rfl
    go_wp2_with fail
    have hz := (HRw1.out.set 0 (.slice none 0 0)).set 1 (.slice none 0 0)
    have z0 := hz.cell (j := 0) rfl
    have z1 := hz.cell (j := 1) rfl
    have HUZ := Lib.hid (up2 (x := .slice none 0 0) (y := .slice none 0 0) HUw1.out (show w.heap.size ≤ w.heap.size + 1 + 1 by omega))
    generalize (w1.setCell ⟨w.heap.size + 1 + 1, 0, none⟩ (.slice none 0 0)).setCell ⟨w.heap.size + 1 + 1, 1, none⟩ (.slice none 0 0) = WZ at z0 z1 HUZ ⊢
    exact bodyPost_ret (v := .tuple #[zeroV, .int .i64 CK]) (by simp [results, Tryz.results23, go_sem, z0, z1, zeroV]) rfl ⟨_, by rw [HRZ.out], by rw [HRZ.out]; exact Stat.zero _, HUZ.out⟩

end Go.Proofs.YtbeigaanlhaolaaGreatDoor

/-
  What slices.Grow (of nil) and slices.Concat (of two) return at rows of volumes: a new row of the two, one behind the other. Conditions: both rows can be read.
-/
namespace Go.Proofs.YtbeigaanlhaolaaGreatDoor
open Go.RowKit
open Go.Proofs
open WoolBag
open WoolVol

theorem VCs.news {w : World} {o : Option Addr} {n c : Nat} {l : List VC} (h : VCs w (.slice o n c) l) (h0 : 0 < l.length) : ∃ ad : Addr, o = some ad ∧ ∀ j u, (fl vcC l)[j]? = some u → w.cell? (ad.add j) = some u := by
  obtain ⟨b, off, h1, h2⟩ := Sl.cells h (by omega)
  exact ⟨⟨b, off, none⟩, h1, fun j u hj => by rw [add_off]; exact h2 j u hj⟩

/-- an append whose run is known -/
theorem wpList_append_runV {P : Program} (w : World) {ops : Array Oper} {rest : List Oper} {o : Oper} {a : Act} {Q : Exit → Act → World → Prop} (hgd : o.guard = none) (s x : Operand) (ts : Array TypeId)
    (ho : o.op = .call { callee := .builtin .append, args := #[s, x], argTypes := ts }) (v1 v2 v' : Value) (w' : World) (hs : a.eval s = v1) (hx : a.eval x = v2)
    (hrun : (Builtin.append_ ts o.type #[v1, v2]).run P w = .ok v' w') (h : wpList P ops Q rest (a.put o.dst v') w') : wpList P ops Q (o :: rest) a w := by
  refine wpList_plain hgd fun K hK => ?_
  unfold Oper.wp execOp
  simp only [ho, resolve, invoke, builtin, Sem.run_bind, Sem.run_pure, Result.andThen_ok, List.map_toArray, List.map_cons, List.map_nil, hs, hx, hrun]
  exact hK _ _ h

theorem grown_upV {w wr w' : World} {g k G n : Nat} {xs : List Value} {e : TypeId} {size : Nat} (hu : Up w wr) (hown : wr.ownsRow w.heap.size e size (.slice (some ⟨g, 0, none⟩) k G) n xs) (hg : wr.grownBy w' (some g)) : Up w w' :=
  Below.grown hu hg hu.size (fun q hq => (World.ownsRow.lt hown q hq).1)

def GrowPostV (n : Nat) (w : World) (e : Ending) (w' : World) : Prop :=
  ∃ G, e = .returned (.slice (some ⟨w.heap.size, 0, none⟩) 0 G) ∧ n ≤ G ∧ w'.ownsRow w.heap.size 81 2 (.slice (some ⟨w.heap.size, 0, none⟩) 0 G) 0 [] ∧ Up w w'

theorem zero_sizeV (n : Nat) : (Builtin.zeroCells (Value.agg #[.string ⟨#[]⟩, .slice none 0 0]).cells n).size = n * 2 := by
  unfold Builtin.zeroCells
  rw [Array.size_map, Array.size_range]
  rfl

set_option maxRecDepth 100000 in
set_option maxHeartbeats 400000 in
theorem grow_nilV (n : Nat) (w : World) (h0 : 0 < n) (h : n * 40 ≤ 281474976710656) :
    Calls Tryz.prog 78 #[.slice none 0 0, .int .i64 (n : Int)] w (GrowPostV n w) := by
  obtain ⟨i0, hi, hz0, hz1, hz2⟩ := volInfo'
  have hold : (Builtin.firstCells i0.size 0 (.slice none 0 0)).run Tryz.prog w.drew = .ok ([] : List Value).toArray w.drew := by simp [Builtin.firstCells]
  have hnx : Builtin.nextslicecap (0 + n) 0 = n := by unfold Builtin.nextslicecap; rw [if_pos (by omega)]; omega
  have hrun := fun ty => Lib.run_append_grow_zeros (P := Tryz.prog) w 34 3 ty 81 i0 _ .i64 .i64 Tryz.underlying34 Tryz.underlying3 hi hz0 none 0 0 [] hold n h0 (by rw [hz1]; omega) (by omega) (by omega) (by rw [hz2]; exact h) (by rw [hz2, hnx]; exact h)
  have hG1 := grownCap_ge w (0 + n) 0 81
  have hG2 := grownCap_le_maxLen w (0 + n) 0 81 (by unfold maxLen; omega)
  obtain ⟨G, hG⟩ : ∃ G, grownCap w (0 + n) 0 81 = G := ⟨_, rfl⟩
  rw [hG] at hG1 hG2
  simp only [hG] at hrun
  obtain ⟨cs, hcs⟩ : ∃ cs, (([] : List Value).toArray ++ Builtin.zeroCells (Value.agg #[.string ⟨#[]⟩, .slice none 0 0]).cells n ++ Builtin.zeroCells (Value.agg #[.string ⟨#[]⟩, .slice none 0 0]).cells (G - (0 + n))) = cs := ⟨_, rfl⟩
  have hsz : cs.size = G * 2 := by rw [← hcs, Array.size_append, Array.size_append, zero_sizeV, zero_sizeV]; simp; omega
  simp only [hcs] at hrun
  have HSZ := Lib.hid hsz
  unfold maxLen at hG2
  clear hcs hsz hG hold hnx hi hz0 hz1 hz2
  have d1 : decide ((n : Int) < 0) = false := by rw [decide_eq_false_iff_not]; omega
  have d2 : decide (0 < n) = true := decide_eq_true h0
  rw [Nat.zero_add] at hrun
  go_enter Tryz.func78, Tryz.ntmps78
  go_wp2_with (at_builtin; refine wpList_append_runV _ rfl _ _ #[34, 3] rfl _ _ _ _ rfl rfl (hrun _) ?_)
  go_ret
  refine ⟨G, rfl, by omega, ⟨rfl, .inr ⟨w.heap.size, G, cs, rfl, Nat.le_refl _, heap_alloc_new _ _, Nat.zero_le _, by unfold maxLen; omega, HSZ.out, rfl⟩⟩, (Up.drew _).trans (Up.alloc _ _)⟩

set_option maxRecDepth 100000 in
theorem grow_noneV (w : World) :
    Calls Tryz.prog 78 #[.slice none 0 0, .int .i64 0] w fun e w' => e = .returned (.slice none 0 0) ∧ w = w' := by
  go_enter Tryz.func78, Tryz.ntmps78
  go_wp2_with fail
  go_ret
  exact ⟨rfl, rfl⟩

/-- an append into a row that has room -/
theorem run_catV {w : World} {base g k G n c : Nat} {o : Option Addr} {xs l : List VC} (ty : TypeId) (hown : w.ownsRow base 81 2 (.slice (some ⟨g, 0, none⟩) k G) k (fl vcC xs)) (hs : VCs w (.slice o n c) l) (hroom : k + l.length ≤ G) (h1l : ∀ u ∈ fl vcC l, u.oneCell' = true) :
    ∃ w', (Builtin.append_ #[34, 34] ty #[.slice (some ⟨g, 0, none⟩) k G, .slice o n c]).run Tryz.prog w = .ok (.slice (some ⟨g, 0, none⟩) (k + l.length) G) w' ∧
      w'.ownsRow base 81 2 (.slice (some ⟨g, 0, none⟩) (k + l.length) G) (k + l.length) (fl vcC (xs ++ l)) ∧ w.grownBy w' (some g) := by
  obtain ⟨i0, hi, hz0, hz1, hz2⟩ := volInfo'
  have hn : n = l.length := by
    obtain ⟨o', c', hv, _⟩ := Sl.slice hs
    simp only [Value.slice.injEq] at hv
    exact hv.2.1
  subst hn
  rcases Nat.eq_zero_or_pos l.length with h0 | h0
  · have hl : l = [] := List.eq_nil_of_length_eq_zero h0
    subst hl
    refine ⟨w, ?_, by rw [List.append_nil]; exact hown, World.grownBy.refl _ _⟩
    have hkG : k ≤ G := hroom
    cases o with
    | none => simp [Builtin.append_, run_underlying Tryz.underlying34, sizeOf, typeInfo, hi, Builtin.lenOf, Builtin.firstCells, storeCells, hkG]
    | some a => simp [Builtin.append_, run_underlying Tryz.underlying34, sizeOf, typeInfo, hi, Builtin.lenOf, Builtin.firstCells, storeCells, loadCells, loadCellsFrom, hkG]
  · obtain ⟨ad, rfl, hnews⟩ := VCs.news hs h0
    obtain ⟨w', hrun, r1, r2⟩ := run_append_fits (P := Tryz.prog) w base 34 ty 81 i0 2 Tryz.underlying34 hi hz1 g k G (fl vcC xs) hown ad l.length c (fl vcC l) (vL_length l) hnews h1l hroom
    exact ⟨w', hrun, by rw [vL_append]; exact r1, r2⟩

/-- an append of nothing to nil -/
theorem run_cat_noneV {w : World} {n c : Nat} {o : Option Addr} {l : List VC} (ty : TypeId) (hs : VCs w (.slice o n c) l) (h0 : l.length = 0) :
    (Builtin.append_ #[34, 34] ty #[.slice none 0 0, .slice o n c]).run Tryz.prog w = .ok (.slice none 0 0) w := by
  obtain ⟨i0, hi, hz0, hz1, hz2⟩ := volInfo'
  have hn : n = 0 := by
    obtain ⟨o', c', hv, _⟩ := Sl.slice hs
    simp only [Value.slice.injEq] at hv
    rw [hv.2.1, h0]
  subst hn
  cases o with
  | none => simp [Builtin.append_, run_underlying Tryz.underlying34, sizeOf, typeInfo, hi, Builtin.lenOf, Builtin.firstCells]
  | some a => simp [Builtin.append_, run_underlying Tryz.underlying34, sizeOf, typeInfo, hi, Builtin.lenOf, Builtin.firstCells, loadCells, loadCellsFrom]

def SumRelV (n m : Nat) (s i : Value) : Prop := (s = .int .i64 0 ∧ i = .int .i64 0) ∨ (s = .int .i64 (n : Int) ∧ i = .int .i64 1) ∨ (s = .int .i64 ((n : Int) + (m : Int)) ∧ i = .int .i64 2)

/-- what has been put together -/
def CatRowV (w : World) (base N : Nat) (v : Value) (xs : List VC) : Prop :=
  (N = 0 ∧ xs = [] ∧ v = .slice none 0 0) ∨ ∃ g G, v = .slice (some ⟨g, 0, none⟩) xs.length G ∧ N ≤ G ∧ w.ownsRow base 81 2 v xs.length (fl vcC xs)

theorem CatRowV.vcs {w : World} {base N : Nat} {v : Value} {xs : List VC} (h : CatRowV w base N v xs) : VCs w v xs := by
  rcases h with ⟨_, rfl, rfl⟩ | ⟨g, G, rfl, _, h⟩
  · exact Sl.nil w 2
  · exact Sl.of_own h

def CatRelV (l m : List VC) (w : World) (v i : Value) (wr : World) : Prop :=
  Up w wr ∧ ((i = .int .i64 0 ∧ CatRowV wr w.heap.size (l.length + m.length) v []) ∨ (i = .int .i64 1 ∧ CatRowV wr w.heap.size (l.length + m.length) v l) ∨ (i = .int .i64 2 ∧ CatRowV wr w.heap.size (l.length + m.length) v (l ++ m)))

def CatPostV (l m : List VC) (w : World) (e : Ending) (w' : World) : Prop := ∃ v, e = .returned v ∧ VCs w' v (l ++ m) ∧ Up w w'

/-- one more row behind what has been put together -/
theorem CatRowV.more {w wr : World} {N : Nat} {v : Value} {xs l : List VC} {o : Option Addr} {n c : Nat} (ty : TypeId) (h : CatRowV wr w.heap.size N v xs) (hu : Up w wr) (hs : VCs wr (.slice o n c) l) (hN : xs.length + l.length ≤ N) (h1l : ∀ u ∈ fl vcC l, u.oneCell' = true) :
    ∃ v' w', (Builtin.append_ #[34, 34] ty #[v, .slice o n c]).run Tryz.prog wr = .ok v' w' ∧ CatRowV w' w.heap.size N v' (xs ++ l) ∧ Up w w' := by
  rcases h with ⟨h0, rfl, rfl⟩ | ⟨g, G, rfl, hG, hown⟩
  · have hl : l.length = 0 := by omega
    refine ⟨_, _, run_cat_noneV ty hs hl, ?_, hu⟩
    rw [List.eq_nil_of_length_eq_zero hl]
    exact .inl ⟨h0, rfl, rfl⟩
  · obtain ⟨w', hrun, r1, r2⟩ := run_catV ty hown hs (by omega) h1l
    refine ⟨_, w', hrun, .inr ⟨g, G, by rw [List.length_append], hG, by rw [List.length_append]; exact r1⟩, ?_⟩
    exact grown_upV hu hown r2


def GrewPostV (n : Nat) (w : World) (e : Ending) (w' : World) : Prop := ∃ v, e = .returned v ∧ CatRowV w' w.heap.size n v [] ∧ Up w w'

theorem grow_anyV (n : Nat) (i : Int) (w : World) (hi : i = (n : Int)) (h : n * 40 ≤ 281474976710656) :
    Calls Tryz.prog 78 #[.slice none 0 0, .int .i64 i] w (GrewPostV n w) := by
  subst hi
  rcases Nat.eq_zero_or_pos n with h0 | h0
  · subst h0
    refine (grow_noneV w).mono ?_
    rintro e w' ⟨rfl, rfl⟩
    exact ⟨_, rfl, .inl ⟨rfl, rfl, rfl⟩, Up.refl _⟩
  · refine (grow_nilV n w h0 h).mono ?_
    rintro e w' ⟨G, rfl, hG, hown, hu⟩
    exact ⟨_, rfl, .inr ⟨_, G, rfl, hG, hown⟩, hu⟩

theorem CatRowV.shape {w : World} {base N : Nat} {v : Value} {xs : List VC} (h : CatRowV w base N v xs) : ∃ o c, v = .slice o xs.length c := by
  rcases h with ⟨_, rfl, rfl⟩ | ⟨g, G, rfl, _⟩
  · exact ⟨_, _, rfl⟩
  · exact ⟨_, _, rfl⟩

set_option maxRecDepth 100000 in
set_option maxHeartbeats 1000000 in
theorem concat_anyV (B : Nat) (o1 o2 : Option Addr) (n1 c1 n2 c2 : Nat) (l m : List VC) (w : World) (h1 : VCs w (.slice o1 n1 c1) l) (h2 : VCs w (.slice o2 n2 c2) m)
    (e1 : w.cell? ⟨B, 0, none⟩ = some (.slice o1 n1 c1)) (e2 : w.cell? ⟨B, 1, none⟩ = some (.slice o2 n2 c2)) (hb : (l.length + m.length) * 40 ≤ 281474976710656) (o1l : ∀ u ∈ fl vcC l, u.oneCell' = true) (o2l : ∀ u ∈ fl vcC m, u.oneCell' = true) :
    Calls Tryz.prog 43 #[.slice (some ⟨B, 0, none⟩) 2 2] w (CatPostV l m w) := by
  have hn1 : n1 = l.length := by
    obtain ⟨_, _, hv, _⟩ := Sl.slice h1
    simp only [Value.slice.injEq] at hv
    exact hv.2.1
  have hn2 : n2 = m.length := by
    obtain ⟨_, _, hv, _⟩ := Sl.slice h2
    simp only [Value.slice.injEq] at hv
    exact hv.2.1
  subst hn1 hn2
  have H1 := Lib.hid h1
  have O1 := Lib.hid o1l
  have O2 := Lib.hid o2l
  have H2 := Lib.hid h2
  have E1 := Lib.hid e1
  have E2 := Lib.hid e2
  obtain ⟨a, ha⟩ : ∃ a, l.length = a := ⟨_, rfl⟩
  obtain ⟨b, hbb⟩ : ∃ b, m.length = b := ⟨_, rfl⟩
  have HA := Lib.hid ha
  have HB := Lib.hid hbb
  rw [ha] at e1 hb
  rw [hbb] at e2 hb
  rw [ha] at H1 E1
  rw [hbb] at H2 E2
  clear h1 h2 ha hbb o1l o2l
  go_enter Tryz.func43, Tryz.ntmps43
  go_wp2_with fail
  go_loop [3, 11] (fun s i => SumRelV a b s i) (fun _ i => 2 - (intOf i).toNat)
  case atStart => exact .inl ⟨rfl, rfl⟩
  case round =>
    rcases hrel with ⟨rfl, rfl⟩ | ⟨rfl, rfl⟩ | ⟨rfl, rfl⟩
    · go_wp2_with fail
      go_round
      case rel => exact .inr (.inl ⟨rfl, rfl⟩)
      case measure => simp only [intOf]; omega
    · go_wp2_with fail
      go_round
      case rel => exact .inr (.inr ⟨rfl, rfl⟩)
      case measure => simp only [intOf]; omega
    · go_wp2_with fail
      clear e1 e2
      refine (grow_anyV (a + b) _ _ (by omega) hb).mono ?_
      rintro e w1 ⟨v1, rfl, hr1, u1⟩
      have HR1 := Lib.hid hr1
      have U1 := Lib.hid u1
      clear hr1 u1
      go_wp2_with fail
      go_loopw [6, 27] (fun v i wr => CatRelV l m w v i wr) (fun _ i _ => 2 - (intOf i).toNat)
      case atStart => exact ⟨U1.out, .inl ⟨rfl, by rw [HA.out, HB.out]; exact HR1.out⟩⟩
      case round =>
        obtain ⟨hu, hrel⟩ := hrel
        have f1 := E1.out
        have f2 := E2.out
        rw [← hu.cell (World.block_lt_of_cell? w _ f1)] at f1
        rw [← hu.cell (World.block_lt_of_cell? w _ f2)] at f2
        have HU := Lib.hid hu
        rcases hrel with ⟨rfl, hr⟩ | ⟨rfl, hr⟩ | ⟨rfl, hr⟩
        · obtain ⟨v', w', hrun, hr', hu'⟩ := hr.more 34 hu (Sl.up H1.out hu) (by rw [List.length_nil]; omega) O1.out
          have HR := Lib.hid hr'
          have HU' := Lib.hid hu'
          clear hr hu hr' hu'
          go_wp2_with (at_builtin; refine wpList_append_runV _ rfl _ _ #[34, 34] rfl _ _ _ _ rfl rfl hrun ?_)
          go_roundw
          case rel => exact ⟨HU'.out, .inr (.inl ⟨rfl, by have := HR.out; rw [List.nil_append] at this; exact this⟩)⟩
          case measure => simp only [intOf]; omega
        · obtain ⟨v', w', hrun, hr', hu'⟩ := hr.more 34 hu (Sl.up H2.out hu) (Nat.le_refl _) O2.out
          have HR := Lib.hid hr'
          have HU' := Lib.hid hu'
          clear hr hu hr' hu'
          go_wp2_with (at_builtin; refine wpList_append_runV _ rfl _ _ #[34, 34] rfl _ _ _ _ rfl rfl hrun ?_)
          go_roundw
          case rel => exact ⟨HU'.out, .inr (.inr ⟨rfl, HR.out⟩)⟩
          case measure => simp only [intOf]; omega
        · have HR := Lib.hid hr.vcs
          clear hr hu
          go_wp2_with fail
          go_ret
          exact ⟨_, rfl, HR.out, HU.out⟩

end Go.Proofs.YtbeigaanlhaolaaGreatDoor
