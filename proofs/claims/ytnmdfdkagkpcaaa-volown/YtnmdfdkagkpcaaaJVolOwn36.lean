/-
  What vol's checkNew and Make return. Conditions: a state that can be read.
-/
import Derived.Test.YtnmdfdkagkpcaaaJVolOwn35
namespace Go.Proofs.Ytnmdfdkagkpcaaa
open Go.RowKit
open Go.Proofs
open WoolBag
open WoolVol

theorem hole_cells (n : Nat) : madeCells (Value.agg #[.bool false, .int .i64 0, .int .i64 0]).cells (n * 3) = (fl idC (List.replicate n noId)).toArray := by
  have hl : (fl idC (List.replicate n noId)).length = n * 3 := by rw [fl_length idC_len, List.length_replicate]
  apply Array.ext
  · rw [size_madeCells, List.size_toArray, hl]
  · intro i h1 h2
    rw [size_madeCells] at h1
    have hq : i / 3 < (List.replicate n noId).length := by rw [List.length_replicate]; omega
    have hg := fl_get idC_len (List.replicate n noId) (i / 3) hq (i % 3) (by omega)
    rw [show i / 3 * 3 + i % 3 = i by omega, List.getElem_replicate] at hg
    have h3 : (fl idC (List.replicate n noId)).toArray[i] = (fl idC (List.replicate n noId))[i]'(by rw [hl]; exact h1) := by simp
    rw [h3]
    have h4 := List.getElem?_eq_getElem (show i < (fl idC (List.replicate n noId)).length by rw [hl]; exact h1)
    rw [h4] at hg
    have hmd : (madeCells (Value.agg #[.bool false, .int .i64 0, .int .i64 0]).cells (n * 3))[i]? = some ((#[Value.bool false, .int .i64 0, .int .i64 0])[i % 3]!) := by
      unfold madeCells
      rw [Array.getElem?_map, Array.getElem?_range, if_pos h1]
      rfl
    rw [Array.getElem?_eq_getElem (by rw [size_madeCells]; exact h1)] at hmd
    rw [Option.some.inj hmd]
    have hm : i % 3 < 3 := Nat.mod_lt _ (by omega)
    rcases Nat.lt_or_ge (i % 3) 1 with m0 | m0
    · have e : i % 3 = 0 := by omega
      rw [e] at hg ⊢
      exact (Option.some.inj hg).symm
    rcases Nat.lt_or_ge (i % 3) 2 with m1 | m1
    · have e : i % 3 = 1 := by omega
      rw [e] at hg ⊢
      exact (Option.some.inj hg).symm
    · have e : i % 3 = 2 := by omega
      rw [e] at hg ⊢
      exact (Option.some.inj hg).symm

theorem run_holes (n : Nat) (hn : n ≤ 32) (W : World) : (Instr.makeSlice 46 (.int .i64 (n : Int)) (.int .i64 (n : Int))).run Try.prog W = .ok (.slice (some ⟨W.heap.size, 0, none⟩) n n) (W.alloc (.cells (fl idC (List.replicate n noId)).toArray 51)) := by
  obtain ⟨i, hi, hz0, hz1, hz2⟩ := idInfo'
  have h := run_make (P := Try.prog) W 46 51 i _ Try.underlying46 hi hz0 .i64 .i64 (n : Int) (n : Int) (by omega) (Int.le_refl _) (by rw [hz2]; omega) (by omega)
  rw [hz1, Int.toNat_natCast, hole_cells] at h
  exact h

theorem holes_own (n : Nat) (hn : n ≤ 32) (W : World) (base : Nat) (hb : base ≤ W.heap.size) : OIds (W.alloc (.cells (fl idC (List.replicate n noId)).toArray 51)) base (.slice (some ⟨W.heap.size, 0, none⟩) n n) (List.replicate n noId) := by
  have h := own_mk (m := 3) (n := n) (cap := n) (L := fl idC (List.replicate n noId)) (sp := []) hb (show RowC (W.alloc (.cells (fl idC (List.replicate n noId)).toArray 51)) W.heap.size 51 _ by rw [List.append_nil]; exact heap_alloc_new W _) (by rw [fl_length idC_len, List.length_replicate]) (Nat.le_refl _) (by unfold maxLen; omega) (by simp)
  unfold OIds
  rw [List.length_replicate]
  exact h

theorem Stat.shape {w : World} {v : Value} {st : Sta} (h : Stat w v st) : ∃ o4 c4 o5 c5, v = .agg #[.slice o4 st.b.length c4, .slice o5 st.v.length c5] := by
  obtain ⟨vb, vv, rfl, hb, hv⟩ := h
  obtain ⟨o4, c4, rfl, _⟩ := hb.slice
  obtain ⟨o5, c5, rfl, _, _⟩ := hv.slice
  exact ⟨_, _, _, _, rfl⟩

theorem ixV_neg (s : List UInt8) (l : List Vo) : decide (ixV (fun t => t == s) l ≥ 0) = l.any (nmB s) := by
  rw [ixV_name, vix_any]
  cases vix (nmB s) l with
  | none => rfl
  | some k => simp

set_option maxRecDepth 100000 in
set_option maxHeartbeats 1000000 in
theorem checkNew_any (v : Value) (st : Sta) (s : List UInt8) (w : World) (h : Stat w v st) (hs : s.length ≤ 9223372036854775807) :
    Calls Try.prog 40 #[v, .string (bs s)] w fun e w' => e = .returned (.int .i64 (newE st s)) ∧ Up w w' := by
  have HNM := Lib.hid (fun W => name_any s W hs)
  obtain ⟨vb, vv, rfl, hb, hv⟩ := h
  have HIX := Lib.hid (fun W (hW : Up w W) => index_any vv st.v s W (hv.up hW))
  obtain ⟨oB, cB, rfl, _⟩ := hb.slice
  obtain ⟨oV, cV, rfl, _, _⟩ := hv.slice
  have hxn := ixV_neg s st.v
  obtain ⟨R, hR⟩ : ∃ R, newE st s = R := ⟨_, rfl⟩
  rw [hR]
  unfold newE at hR
  generalize ixV (fun t => t == s) st.v = IX at HIX hxn
  generalize st.v.any (nmB s) = AN at hxn hR
  generalize nameB s = NB at HNM hR
  generalize st.b.length = M at *
  generalize st.v.length = N at *
  have HR := Lib.hid hR
  have HA : Hid (RowC (w.alloc (.cells #[.slice oB M cB, .slice oV N cV] 31)) w.heap.size 31 [.slice oB M cB, .slice oV N cV]) := heap_alloc_new w _
  have HW0 : Hid (Up w (w.alloc (.cells #[.slice oB M cB, .slice oV N cV] 31))) := Up.alloc _ _
  clear hR hb hv
  go_enter Try.func40, Try.ntmps40
  go_wp2_with fail
  generalize (w.alloc (.cells #[.slice oB M cB, .slice oV N cV] 31)) = W0 at HA HW0 ⊢
  refine (HNM.out _).mono ?_
  rintro e w1 ⟨rfl, rfl⟩
  cases NB with
  | false =>
    have HV : Hid (R = 3) := by show _ = _; rw [← HR.out]; rfl
    go_wp2_with fail
    go_ret
    exact ⟨by rw [HV.out]; rfl, HW0.out⟩
  | true =>
    have a1 := HA.out.cell (j := 1) rfl
    go_wp2_with fail
    refine (HIX.out _ HW0.out).mono ?_
    rintro e w2 ⟨rfl, u2⟩
    have HU2 := Lib.hid (HW0.out.trans u2)
    have HA2 := Lib.hid (HA.out.up u2)
    clear u2 a1
    have a1 := HA2.out.cell (j := 1) rfl
    cases AN with
    | true =>
      have HV : Hid (R = 5) := by show _ = _; rw [← HR.out]; rfl
      go_wp2_with fail
      go_ret
      exact ⟨by rw [HV.out]; rfl, HU2.out⟩
    | false =>
      by_cases h6 : N = 6
      · subst h6
        have HV : Hid (R = 8) := by show _ = _; rw [← HR.out]; rfl
        go_wp2_with fail
        go_ret
        exact ⟨by rw [HV.out]; rfl, HU2.out⟩
      · have HV : Hid (R = 0) := by show _ = _; rw [← HR.out, if_neg (by simp), if_neg (by simp), if_neg h6]
        have hne : ((N : Int) == 6) = false := by simp; omega
        clear h6
        go_wp2_with fail
        go_ret
        exact ⟨by rw [HV.out]; rfl, HU2.out⟩

set_option maxRecDepth 100000 in
set_option maxHeartbeats 1000000 in
theorem make_own (v : Value) (st : Sta) (s : List UInt8) (n : Int) (w : World) (h : Stat w v st) (hwf : WfS st) (hs : s.length ≤ 9223372036854775807) :
    Calls Try.prog 19 #[v, .string (bs s), .int .i64 n] w (StEPost w (make FP st s n)) := by
  have HCK := Lib.hid (fun W (hW : Up w W) => vcheck_any v st W (h.up hW) hwf)
  have HCN := Lib.hid (fun W (hW : Up w W) => checkNew_any v st s W (h.up hW) hs)
  have HSC := Lib.hid (fun (hg : WoolVol.Good FP st) W (hW : Up w W) => stclone_any v st W (h.up hW) hg)
  unfold StPost at HSC
  obtain ⟨vb, vv, rfl, hb, hv⟩ := h
  obtain ⟨oB, cB, rfl, _⟩ := hb.slice
  obtain ⟨oV, cV, rfl, _, _⟩ := hv.slice
  clear hb hv hwf hs
  obtain ⟨RS, hRS⟩ : ∃ RS, make FP st s n = RS := ⟨_, rfl⟩
  rw [hRS]
  unfold make at hRS
  obtain ⟨CK, hCK⟩ : ∃ CK, chkS FP st = CK := ⟨_, rfl⟩
  obtain ⟨NE, hNE⟩ : ∃ NE, newE st s = NE := ⟨_, rfl⟩
  rw [hCK, hNE] at hRS
  rw [hCK] at HCK
  rw [hNE] at HCN
  have HRS := Lib.hid hRS
  have HCK0 := Lib.hid hCK
  have HNE0 := Lib.hid hNE
  clear hRS hCK hNE
  obtain ⟨M, hM⟩ : ∃ M, st.b.length = M := ⟨_, rfl⟩
  obtain ⟨N, hN⟩ : ∃ N, st.v.length = N := ⟨_, rfl⟩
  rw [hM, hN] at HCK HCN HSC ⊢
  clear hM hN
  have HR : Hid (RowC ((w.alloc (.cells #[.slice oB M cB, .slice oV N cV] 31)).alloc (.cells #[.slice none 0 0, .slice none 0 0] 31)) (w.heap.size + 1) 31 [.slice none 0 0, .slice none 0 0]) := box_new w _ _ _ _
  have HA : Hid (RowC ((w.alloc (.cells #[.slice oB M cB, .slice oV N cV] 31)).alloc (.cells #[.slice none 0 0, .slice none 0 0] 31)) w.heap.size 31 [.slice oB M cB, .slice oV N cV]) := RowC.up (rowN_at [.slice oB M cB, .slice oV N cV] _ rfl) (Up.alloc _ _)
  have HW0 : Hid (Up w ((w.alloc (.cells #[.slice oB M cB, .slice oV N cV] 31)).alloc (.cells #[.slice none 0 0, .slice none 0 0] 31))) := (Up.alloc _ _).trans (Up.alloc _ _)
  go_enter Try.func19, Try.ntmps19
  go_upto_region 1 with (fail)
  generalize (w.alloc (.cells #[.slice oB M cB, .slice oV N cV] 31)).alloc (.cells #[.slice none 0 0, .slice none 0 0] 31) = W0 at HA HR HW0 ⊢
  have a0 := HA.out.cell (j := 0) rfl
  have a1 := HA.out.cell (j := 1) rfl
  go_wp2_with fail
  refine (HCK.out _ HW0.out).mono ?_
  rintro e w1 ⟨rfl, u1⟩
  have HUw1 := Lib.hid (HW0.out.trans u1)
  have HRw1 := Lib.hid (HR.out.up u1)
  have HAw1 := Lib.hid (HA.out.up u1)
  clear a0 a1 u1
  by_cases hC : CK = 0
  · subst hC
    by_cases hn : n < 1 ∨ 32 < n
    · have HRZ : Hid (RS = (zeroS, 1)) := by show _ = _; rw [← HRS.out, if_neg (by simp), if_pos hn]
      by_cases hn1 : n < 1
      · have d1 : decide (n < 1) = true := decide_eq_true hn1
        clear hn hn1
        have r0 := HRw1.out.frozen 0
        have r1 := HRw1.out.frozen 1
        have r2 := HRw1.out.cell (j := 0) rfl
        have r3 := HRw1.out.cell (j := 1) rfl
        go_wp2_with fail
        have hz := (HRw1.out.set 0 (.slice none 0 0)).set 1 (.slice none 0 0)
        have z0 := hz.cell (j := 0) rfl
        have z1 := hz.cell (j := 1) rfl
        have HUZ := Lib.hid (up2 (x := .slice none 0 0) (y := .slice none 0 0) HUw1.out (Nat.le_succ w.heap.size))
        generalize (w1.setCell ⟨w.heap.size + 1, 0, none⟩ (.slice none 0 0)).setCell ⟨w.heap.size + 1, 1, none⟩ (.slice none 0 0) = WZ at z0 z1 HUZ ⊢
        exact bodyPost_ret (v := .tuple #[zeroV, .int .i64 1]) (by simp [results, Try.results19, go_sem, z0, z1, zeroV]) rfl ⟨_, by rw [HRZ.out], by rw [HRZ.out]; exact OSt.zero _ _, HUZ.out⟩
      · have d1 : decide (n < 1) = false := decide_eq_false hn1
        have d2 : decide (32 < n) = true := decide_eq_true (by omega)
        clear hn hn1
        have r0 := HRw1.out.frozen 0
        have r1 := HRw1.out.frozen 1
        have r2 := HRw1.out.cell (j := 0) rfl
        have r3 := HRw1.out.cell (j := 1) rfl
        go_wp2_with fail
        have hz := (HRw1.out.set 0 (.slice none 0 0)).set 1 (.slice none 0 0)
        have z0 := hz.cell (j := 0) rfl
        have z1 := hz.cell (j := 1) rfl
        have HUZ := Lib.hid (up2 (x := .slice none 0 0) (y := .slice none 0 0) HUw1.out (Nat.le_succ w.heap.size))
        generalize (w1.setCell ⟨w.heap.size + 1, 0, none⟩ (.slice none 0 0)).setCell ⟨w.heap.size + 1, 1, none⟩ (.slice none 0 0) = WZ at z0 z1 HUZ ⊢
        exact bodyPost_ret (v := .tuple #[zeroV, .int .i64 1]) (by simp [results, Try.results19, go_sem, z0, z1, zeroV]) rfl ⟨_, by rw [HRZ.out], by rw [HRZ.out]; exact OSt.zero _ _, HUZ.out⟩
    · obtain ⟨q, rfl⟩ : ∃ q : Nat, n = (q : Int) := ⟨n.toNat, by omega⟩
      have hq1 : 1 ≤ q := by omega
      have hq2 : q ≤ 32 := by omega
      have d1 : decide ((q : Int) < 1) = false := decide_eq_false (by omega)
      have d2 : decide (32 < (q : Int)) = false := decide_eq_false (by omega)
      have a0 := HAw1.out.cell (j := 0) rfl
      have a1 := HAw1.out.cell (j := 1) rfl
      go_wp2_with fail
      refine (HCN.out _ HUw1.out).mono ?_
      rintro e w2 ⟨rfl, u2⟩
      have HUw2 := Lib.hid (HUw1.out.trans u2)
      have HRw2 := Lib.hid (HRw1.out.up u2)
      have HAw2 := Lib.hid (HAw1.out.up u2)
      clear a0 a1 u2
      by_cases hE : NE = 0
      · subst hE
        obtain ⟨hnm, hno, h6⟩ := newE_zero HNE0.out
        have hgood := chkS_zero.1 HCK0.out
        have HSC2 := Lib.hid (HSC.out hgood)
        have HRZ : Hid (RS = (⟨st.b, vins ⟨s, List.replicate q noId⟩ st.v⟩, 0)) := by show _ = _; rw [← HRS.out, if_neg (by simp), if_neg hn, if_neg (by simp), Int.toNat_natCast]
        have hs12 : s.length ≤ 12 := by unfold nameB at hnm; simp at hnm; omega
        have HADD : Hid (∀ W base vs vd, base ≤ W.heap.size → OFr W base vs st vd → OIds W base vd (List.replicate q noId) → Calls Try.prog 42 #[vs, .string (bs s), vd] W (AddPost W base ⟨st.b, vins ⟨s, List.replicate q noId⟩ st.v⟩)) := fun W base vs vd hb h1 h2 => add_any vs st s vd _ base W h1 h2 (Nat.le_trans hgood.len (by omega)) hs12 hb
        unfold AddPost at HADD
        have hmk := fun W => run_holes q hq2 W
        have HMO := Lib.hid (fun W => holes_own q hq2 W)
        have HE9 : Hid ((w2.drew.alloc (.cells (fl idC (List.replicate q noId)).toArray 51)).heap.size = w2.heap.size + 1) := (fun (h9 : ∀ (u : World) (o : Obj), (u.alloc o).heap.size = u.heap.size + 1) => h9 w2.drew _) (fun u o => by simp)
        have HU0 : Hid (w.heap.size + 1 + 1 ≤ w2.heap.size) := HRw2.out.lt
        have a0 := HAw2.out.cell (j := 0) rfl
        have a1 := HAw2.out.cell (j := 1) rfl
        clear hgood hnm hno h6 hs12 hn d1 d2
        go_wp2_with fail
        have hne : w.heap.size + 1 ≠ w.heap.size := by omega
        go_region_held3 (fun U => U.cell? ⟨w.heap.size, 0, none⟩ = some (.slice oB M cB) ∧ U.cell? ⟨w.heap.size, 1, none⟩ = some (.slice oV N cV)) (first | go_keep | (exact ⟨(World.cell?_setCell_far _ _ _ _ hne).trans ((World.cell?_setCell_far _ _ _ _ hne).trans y0), (World.cell?_setCell_far _ _ _ _ hne).trans ((World.cell?_setCell_far _ _ _ _ hne).trans y1)⟩)) (first
          | (go_at_call 33; ((with_reducible refine (HSC2.out _ (by first | exact HUw2.out.trans (Up.drew _) | exact HUw2.out.trans ((Up.drew _).trans (Up.alloc _ _)))).mono ?_); rintro e w3 ⟨v3, rfl, ho3, u3⟩; have hb3 : Up w2 w3 := (by first | exact (Up.drew _).trans u3 | exact ((Up.drew _).trans (Up.alloc _ _)).trans u3); have ho3' : OSt w3 w2.heap.size v3 st := (by first | exact ho3 | exact OSt.base ho3 ((Up.drew w2).trans (Up.alloc _ _)).size); (first | (have ho3s : OSt w3 (w2.heap.size + 1) v3 st := (by first | exact ho3 | (rw [← HE9.out]; exact ho3))) | skip); have y0 := (HAw2.out.up hb3).cell (j := 0) rfl; have y1 := (HAw2.out.up hb3).cell (j := 1) rfl))
          | (go_at_call 42; first
            | (have hc := HADD.out (w3.alloc (.cells (fl idC (List.replicate q noId)).toArray 51)) w2.heap.size v3 (.slice (some ⟨w3.heap.size, 0, none⟩) q q) (hb3.trans (Up.alloc _ _)).size (OFr.later ho3' (Up.alloc _ _) (fun g hg => Nat.le_of_eq (Option.some.inj hg))) (HMO.out w3 w2.heap.size hb3.size); with_reducible refine hc.mono ?_; clear hc; rintro e w4 ⟨v4, rfl, hs4, hb4⟩; have h24 : Up w2 w4 := Up.trans' (hb3.trans (Up.alloc _ _)) hb4; have HS4 := Lib.hid hs4; obtain ⟨o4, c4, o5, c5, hv4⟩ := hs4.stat.shape; subst hv4; have hz4 := HRw2.out.up h24; have y0 := (HAw2.out.up h24).cell (j := 0) rfl; have y1 := (HAw2.out.up h24).cell (j := 1) rfl; have x0 := hz4.frozen 0; have x1 := hz4.frozen 1; have x2 := hz4.cell (j := 0) rfl; have x3 := hz4.cell (j := 1) rfl)
            | (have hc := HADD.out w3 w2.heap.size v3 (.slice (some ⟨w2.heap.size, 0, none⟩) q q) hb3.size (OFr.sooner (base' := w2.heap.size + 1) ho3s (by omega) (fun g hg => by have e : w2.heap.size = g := Option.some.inj hg; omega)) (show OIds w3 w2.heap.size (.slice (some ⟨w2.heap.size, 0, none⟩) q q) (List.replicate q noId) from own_up (HMO.out w2.drew w2.heap.size (Nat.le_refl _)) u3); with_reducible refine hc.mono ?_; clear hc; rintro e w4 ⟨v4, rfl, hs4, hb4⟩; have h24 : Up w2 w4 := Up.trans' hb3 hb4; have HS4 := Lib.hid hs4; obtain ⟨o4, c4, o5, c5, hv4⟩ := hs4.stat.shape; subst hv4; have hz4 := HRw2.out.up h24; have y0 := (HAw2.out.up h24).cell (j := 0) rfl; have y1 := (HAw2.out.up h24).cell (j := 1) rfl; have x0 := hz4.frozen 0; have x1 := hz4.frozen 1; have x2 := hz4.cell (j := 0) rfl; have x3 := hz4.cell (j := 1) rfl)))
        all_goals
          have HZ4 := Lib.hid hz4
          have HU4 := Lib.hid (HUw2.out.trans h24)
          clear hz4 x0 x1 x2 x3
          go_wp2_with fail
          obtain ⟨L5, hL5⟩ : ∃ L5, (vins ⟨s, List.replicate q noId⟩ st.v).length = L5 := ⟨_, rfl⟩
          rw [hL5] at HS4 ⊢
          have hz := (HZ4.out.set 0 (.slice o4 st.b.length c4)).set 1 (.slice o5 L5 c5)
          have z0 := hz.cell (j := 0) rfl
          have z1 := hz.cell (j := 1) rfl
          have HOZ := Lib.hid (OSt.base (OSt.boxed HS4.out HZ4.out) HUw2.out.size)
          have HUZ := Lib.hid (up2 (x := .slice o4 st.b.length c4) (y := .slice o5 L5 c5) HU4.out (Nat.le_succ w.heap.size))
          generalize (w4.setCell ⟨w.heap.size + 1, 0, none⟩ (.slice o4 st.b.length c4)).setCell ⟨w.heap.size + 1, 1, none⟩ (.slice o5 L5 c5) = WZ at z0 z1 HOZ HUZ ⊢
          exact bodyPost_ret (v := .tuple #[.agg #[.slice o4 st.b.length c4, .slice o5 L5 c5], .int .i64 0]) (by simp [results, Try.results19, go_sem, z0, z1]) rfl ⟨_, by rw [HRZ.out], by rw [HRZ.out]; exact HOZ.out, HUZ.out⟩
      · have hne : (NE != 0) = true := by rw [bne_iff_ne]; exact hE
        have HRZ : Hid (RS = (zeroS, NE)) := by show _ = _; rw [← HRS.out, if_neg (by simp), if_neg hn, if_pos hE]
        clear hE hn d1 d2
        have r0 := HRw2.out.frozen 0
        have r1 := HRw2.out.frozen 1
        have r2 := HRw2.out.cell (j := 0) rfl
        have r3 := HRw2.out.cell (j := 1) rfl
        go_wp2_with fail
        have hz := (HRw2.out.set 0 (.slice none 0 0)).set 1 (.slice none 0 0)
        have z0 := hz.cell (j := 0) rfl
        have z1 := hz.cell (j := 1) rfl
        have HUZ := Lib.hid (up2 (x := .slice none 0 0) (y := .slice none 0 0) HUw2.out (Nat.le_succ w.heap.size))
        generalize (w2.setCell ⟨w.heap.size + 1, 0, none⟩ (.slice none 0 0)).setCell ⟨w.heap.size + 1, 1, none⟩ (.slice none 0 0) = WZ at z0 z1 HUZ ⊢
        exact bodyPost_ret (v := .tuple #[zeroV, .int .i64 NE]) (by simp [results, Try.results19, go_sem, z0, z1, zeroV]) rfl ⟨_, by rw [HRZ.out], by rw [HRZ.out]; exact OSt.zero _ _, HUZ.out⟩
  · have hne : (CK != 0) = true := by rw [bne_iff_ne]; exact hC
    have HRZ : Hid (RS = (zeroS, CK)) := by show _ = _; rw [← HRS.out, if_pos hC]
    clear hC
    have r0 := HRw1.out.frozen 0
    have r1 := HRw1.out.frozen 1
    have r2 := HRw1.out.cell (j := 0) rfl
    have r3 := HRw1.out.cell (j := 1) rfl
    go_wp2_with fail
    have hz := (HRw1.out.set 0 (.slice none 0 0)).set 1 (.slice none 0 0)
    have z0 := hz.cell (j := 0) rfl
    have z1 := hz.cell (j := 1) rfl
    have HUZ := Lib.hid (up2 (x := .slice none 0 0) (y := .slice none 0 0) HUw1.out (Nat.le_succ w.heap.size))
    generalize (w1.setCell ⟨w.heap.size + 1, 0, none⟩ (.slice none 0 0)).setCell ⟨w.heap.size + 1, 1, none⟩ (.slice none 0 0) = WZ at z0 z1 HUZ ⊢
    exact bodyPost_ret (v := .tuple #[zeroV, .int .i64 CK]) (by simp [results, Try.results19, go_sem, z0, z1, zeroV]) rfl ⟨_, by rw [HRZ.out], by rw [HRZ.out]; exact OSt.zero _ _, HUZ.out⟩

theorem make_any (v : Value) (st : Sta) (s : List UInt8) (n : Int) (w : World) (h : Stat w v st) (hwf : WfS st) (hs : s.length ≤ 9223372036854775807) :
    Calls Try.prog 19 #[v, .string (bs s), .int .i64 n] w (RdEPost w (make FP st s n)) := by
  refine (make_own v st s n w h hwf hs).mono ?_
  rintro e w' ⟨v', h1, h2, h3⟩
  exact ⟨v', h1, h2.stat, h3⟩

end Go.Proofs.Ytnmdfdkagkpcaaa
