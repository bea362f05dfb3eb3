/-
  What the reference's fresh and with return. Conditions: as each says.
-/
import Derived.Test.YtbeigaanlhaolaaGreatDoorJB38
import Derived.Test.YtbeigaanlhaolaaGreatDoorJB19
import Derived.Deep.RegionHeldLaw
import Derived.Deep.AppendLies
import Derived.Deep.DeepCutAuto
import Derived.Test.YtbeigaanlhaolaaGreatDoorJB34
namespace Go.Proofs.YtbeigaanlhaolaaGreatDoor
open Go.RowKit
open Go.Proofs
open WoolBag
open WoolVol

set_option maxRecDepth 100000 in
set_option maxHeartbeats 1000000 in
theorem fresh_any (v : Value) (st : Sta) (s : List UInt8) (w : World) (h : Stat w v st) (hs : s.length ≤ 9223372036854775807) (h6 : st.v.length ≤ 6) :
    Calls Tryz.prog 40 #[v, .string (bs s)] w fun e w' => e = .returned (.int .i64 (newE st s)) ∧ Up w w' := by
  have HNM := Lib.hid (fun W => refName_any s W hs)
  have HIX := Lib.hid (fun W (hW : Up w W) => refVol_any v st s W (h.up hW))
  obtain ⟨vb, vv, rfl, hb, hv⟩ := h
  obtain ⟨oB, cB, rfl, _⟩ := hb.slice
  obtain ⟨oV, cV, rfl, _, _⟩ := hv.slice
  have hxn := ixV_neg s st.v
  obtain ⟨R, hR⟩ : ∃ R, newE st s = R := ⟨_, rfl⟩
  rw [hR]
  unfold newE at hR
  generalize ixV (fun t => t == s) st.v = IX at HIX hxn
  generalize st.v.any (nmB s) = AN at hxn hR
  generalize nameB s = NB at HNM hR
  generalize st.b.length = M at *
  generalize st.v.length = N at *
  have HR := Lib.hid hR
  have HA : Hid (RowC (w.alloc (.cells #[.slice oB M cB, .slice oV N cV] 36)) w.heap.size 36 [.slice oB M cB, .slice oV N cV]) := heap_alloc_new w _
  have HW0 : Hid (Up w (w.alloc (.cells #[.slice oB M cB, .slice oV N cV] 36))) := Up.alloc _ _
  clear hR hb hv
  go_enter Tryz.func40, Tryz.ntmps40
  go_wp2_with fail
  generalize (w.alloc (.cells #[.slice oB M cB, .slice oV N cV] 36)) = W0 at HA HW0 ⊢
  refine (HNM.out _).mono ?_
  rintro e w1 ⟨rfl, u1⟩
  have HU1 := Lib.hid (HW0.out.trans u1)
  have HA1 := Lib.hid (HA.out.up u1)
  clear u1
  cases NB with
  | false =>
    have HV : Hid (R = 3) := by show _ = _; rw [← HR.out]; rfl
    go_wp2_with fail
    go_ret
    exact ⟨by rw [HV.out]; rfl, HU1.out⟩
  | true =>
    have a0 := HA1.out.cell (j := 0) rfl
    have a1 := HA1.out.cell (j := 1) rfl
    go_wp2_with fail
    refine (HIX.out _ HU1.out).mono ?_
    rintro e w2 ⟨rfl, u2⟩
    have HU2 := Lib.hid (HU1.out.trans u2)
    have HA2 := Lib.hid (HA1.out.up u2)
    clear u2 a0 a1
    have a1 := HA2.out.cell (j := 1) rfl
    cases AN with
    | true =>
      have HV : Hid (R = 5) := by show _ = _; rw [← HR.out]; rfl
      go_wp2_with fail
      go_ret
      exact ⟨by rw [HV.out]; rfl, HU2.out⟩
    | false =>
      by_cases h7 : N = 6
      · subst h7
        have HV : Hid (R = 8) := by show _ = _; rw [← HR.out]; rfl
        go_wp2_with fail
        go_ret
        exact ⟨by rw [HV.out]; rfl, HU2.out⟩
      · have HV : Hid (R = 0) := by show _ = _; rw [← HR.out, if_neg (by simp), if_neg (by simp), if_neg h7]
        have hne : decide ((N : Int) > 5) = false := decide_eq_false (by omega)
        clear h7
        go_wp2_with fail
        go_ret
        exact ⟨by rw [HV.out]; rfl, HU2.out⟩

/-- volumes as they lie in memory, their slices in parts -/
theorem Rd.parts {w : World} : ∀ {C : List VC} {l : List Vo}, Rd w C l → ∃ S : List VS, C = S.map toVC
  | [], _, _ => ⟨[], rfl⟩
  | x :: C, l, h => by
    cases l with
    | nil => have := h.len; simp at this
    | cons y l =>
      obtain ⟨S, hS⟩ := Rd.parts (C := C) (l := l) ⟨by have := h.len; simpa using this, fun k hk => by have := h.nm (k + 1) (by simpa using hk); simpa using this, fun k hk => by have := h.bl (k + 1) (by simpa using hk); simpa using this⟩
      have h0 := h.bl 0 (by simp)
      obtain ⟨o, c, e, _, _⟩ := h0.slice
      refine ⟨⟨x.nm, o, y.bl.length, c⟩ :: S, ?_⟩
      rw [List.map_cons, hS]
      congr 1
      obtain ⟨xn, xs⟩ := x
      simp at e
      unfold toVC
      rw [e]

/-- a volume behind the others, sorted: laid at its place -/
theorem sorted_rd {w : World} {S d : List VS} {l : List Vo} {x : VS} {y : Vo} (h : Rd w (S.map toVC) l) (hx : x.nm = y.nm) (hy : Ids w (.slice x.o x.n x.c) y.bl) (hl : l.Pairwise (fun a b => slt a.nm b.nm = true)) (hno : ∀ a ∈ l, a.nm ≠ y.nm)
    (hp : d.Perm (S ++ [x])) (hs : d.Pairwise (fun a b => slt b.nm a.nm = false)) : Rd w (d.map toVC) (vins y l) := by
  have hlen : S.length = l.length := by have := h.len; simpa using this
  have hnm : ∀ k (hk : k < S.length) (hkl : k < l.length), S[k].nm = l[k].nm := fun k hk hkl => by
    have := h.nm k hkl
    rw [List.getElem_map] at this
    exact this
  have hd := perm_ins (f := VS.nm) (k := vplace y.nm l) (l := S) (x := x) (d := d) ?_ ?_ ?_ hp hs
  · rw [hd, List.map_append, List.map_cons, List.map_take, List.map_drop]
    exact Rd.ins h hx hy _
  · rw [List.pairwise_iff_getElem]
    intro i j hi hj hij
    rw [hnm i hi (by omega), hnm j hj (by omega)]
    exact List.pairwise_iff_getElem.1 hl i j (by omega) (by omega) hij
  · intro a ha
    obtain ⟨j, hj, rfl⟩ := List.getElem_of_mem ha
    rw [List.length_take] at hj
    rw [List.getElem_take, hnm j (by omega) (by omega), hx]
    exact vplace_below hno j (by omega) (by omega)
  · intro a ha
    obtain ⟨j, hj, rfl⟩ := List.getElem_of_mem ha
    rw [List.length_drop] at hj
    rw [List.getElem_drop, hnm _ (by omega) (by omega), hx]
    exact vplace_above hl _ (by omega) (by omega)

/-- a state's box, and volumes of the call's own with one more behind them -/
def WMid (W0 : World) (sB : Value) (n : Nat) (L : List Value) (p : Value) (wx : World) : Prop :=
  ∃ X g cap, p = .pointer (some ⟨X, 0, none⟩) ∧ W0.heap.size ≤ X ∧ RowC wx X 36 [sB, .slice (some ⟨g, 0, none⟩) n cap] ∧ wx.ownsRow W0.heap.size 81 2 (.slice (some ⟨g, 0, none⟩) n cap) n L ∧ Up W0 wx

theorem wmid {W0 w2 : World} {X g cap n : Nat} {sB a b : Value} {L : List Value} (hx : RowC w2 X 36 [a, b]) (hX : W0.heap.size ≤ X) (hU : Up W0 w2) (ho : w2.ownsRow W0.heap.size 81 2 (.slice (some ⟨g, 0, none⟩) n cap) n L) :
    WMid W0 sB n L (.pointer (some ⟨X, 0, none⟩)) ((w2.setCell ⟨X, 0, none⟩ sB).setCell ⟨X, 1, none⟩ (.slice (some ⟨g, 0, none⟩) n cap)) := by
  have hne := own_apart ho hx voState
  exact ⟨X, g, cap, rfl, hX, (hx.set 0 sB).set 1 _, own_set (own_set ho hne) hne, up2 hU hX⟩

theorem newsV {U : World} {B : Nat} {a b : Value} (h : RowC U B 81 [a, b]) : ∀ j u, [a, b][j]? = some u → U.cell? ((⟨B, 0, none⟩ : Addr).add j) = some u := by
  intro j u hu
  rw [add_lit, Nat.zero_add]
  exact h.cell hu

set_option maxRecDepth 100000 in
set_option maxHeartbeats 1000000 in
theorem with_any (v : Value) (st : Sta) (s : List UInt8) (vd : Value) (bl : List Idn) (w : World) (h : Stat w v st) (hd : Ids w vd bl) (hl : st.v.Pairwise (fun a b => slt a.nm b.nm = true)) (hno : ∀ a ∈ st.v, a.nm ≠ s) (h6 : st.v.length ≤ 6) :
    Calls Tryz.prog 41 #[v, .agg #[.string (bs s), vd]] w (RdPost w ⟨st.b, vins ⟨s, bl⟩ st.v⟩) := by
  have hm := hmf
  obtain ⟨vb, vv, rfl, hb, C, hC, hR⟩ := h
  obtain ⟨oB, cB, rfl, _⟩ := hb.slice
  obtain ⟨oV, cV, hvv, _, _⟩ := Sl.slice hC
  subst hvv
  obtain ⟨oD, cD, rfl, _, _⟩ := hd.slice
  have hCl := hR.len
  have HCV := Lib.hid (fun W (hW : Up w W) => cloneV_any _ C W (Sl.up hC hW) hR.one (by omega))
  unfold VCPost at HCV
  have HB := Lib.hid hb
  have HRD := Lib.hid hR
  have HD := Lib.hid hd
  obtain ⟨N, hN⟩ : ∃ N, C.length = N := ⟨_, rfl⟩
  obtain ⟨M, hM⟩ : ∃ M, st.b.length = M := ⟨_, rfl⟩
  obtain ⟨D, hDl⟩ : ∃ D, bl.length = D := ⟨_, rfl⟩
  rw [hN] at HCV hCl ⊢
  rw [hM] at HB ⊢
  rw [hDl] at HD ⊢
  rw [← hCl] at h6
  have HCL := Lib.hid hCl
  have HNL := Lib.hid hN
  clear hb hC hR hd hCl hN hM hDl
  have HA : Hid (RowC (((w.alloc (.cells #[.slice oB M cB, .slice oV N cV] 36)).alloc (.cells #[.string (bs s), .slice oD D cD] 81)).alloc (.cells #[.slice none 0 0, .slice none 0 0] 36)) w.heap.size 36 [.slice oB M cB, .slice oV N cV]) := RowC.up (rowN_at [.slice oB M cB, .slice oV N cV] _ rfl) ((Up.alloc _ _).trans (Up.alloc _ _))
  have HV : Hid (RowC (((w.alloc (.cells #[.slice oB M cB, .slice oV N cV] 36)).alloc (.cells #[.string (bs s), .slice oD D cD] 81)).alloc (.cells #[.slice none 0 0, .slice none 0 0] 36)) (w.heap.size + 1) 81 [.string (bs s), .slice oD D cD]) := RowC.up (rowN_at [.string (bs s), .slice oD D cD] _ (by simp)) (Up.alloc _ _)
  have HZB : Hid (RowC (((w.alloc (.cells #[.slice oB M cB, .slice oV N cV] 36)).alloc (.cells #[.string (bs s), .slice oD D cD] 81)).alloc (.cells #[.slice none 0 0, .slice none 0 0] 36)) (w.heap.size + 1 + 1) 36 [.slice none 0 0, .slice none 0 0]) := rowN_at [.slice none 0 0, .slice none 0 0] _ (by simp)
  have HW0 : Hid (Up w (((w.alloc (.cells #[.slice oB M cB, .slice oV N cV] 36)).alloc (.cells #[.string (bs s), .slice oD D cD] 81)).alloc (.cells #[.slice none 0 0, .slice none 0 0] 36))) := ((Up.alloc _ _).trans (Up.alloc _ _)).trans (Up.alloc _ _)
  go_enter Tryz.func41, Tryz.ntmps41
  go_upto_region 1 with (fail)
  generalize ((w.alloc (.cells #[.slice oB M cB, .slice oV N cV] 36)).alloc (.cells #[.string (bs s), .slice oD D cD] 81)).alloc (.cells #[.slice none 0 0, .slice none 0 0] 36) = W0 at HA HV HZB HW0 ⊢
  obtain ⟨i0, hi, hz0, hz1, hz2⟩ := volInfo'
  have HI := Lib.hid hi
  have HZ0 := Lib.hid hz0
  have HZ1 := Lib.hid hz1
  have HZ2 := Lib.hid hz2
  have HO1 : Hid (∀ u ∈ [Value.string (bs s), .slice oD D cD], u.oneCell' = true) := by
    intro u hu
    simp at hu
    rcases hu with rfl | rfl <;> rfl
  have a0 := HA.out.cell (j := 0) rfl
  have a1 := HA.out.cell (j := 1) rfl
  have v0 := HV.out.cell (j := 0) rfl
  have v1' := HV.out.cell (j := 1) rfl
  have hZ0 := HZB.out.lt
  clear hi hz0 hz1 hz2
  go_cut [5] (fun p wx => WMid W0 (.slice oB M cB) (N + 1) (fl vcC C ++ [.string (bs s), .slice oD D cD]) p wx)
  case first =>
    go_region_held_law (fun U => U.cell? ⟨w.heap.size, 0, none⟩ = some (.slice oB M cB) ∧ U.cell? ⟨w.heap.size, 1, none⟩ = some (.slice oV N cV) ∧ U.cell? ⟨w.heap.size + 1, 0, none⟩ = some (.string (bs s)) ∧ U.cell? ⟨w.heap.size + 1, 1, none⟩ = some (.slice oD D cD)) (first | go_keep | (exact ⟨(World.cell?_setCell_far _ _ _ _ (by intro hh; simp only at hh; omega)).trans ((World.cell?_setCell_far _ _ _ _ (by intro hh; simp only at hh; omega)).trans s0), (World.cell?_setCell_far _ _ _ _ (by intro hh; simp only at hh; omega)).trans ((World.cell?_setCell_far _ _ _ _ (by intro hh; simp only at hh; omega)).trans s1), (World.cell?_setCell_far _ _ _ _ (by intro hh; simp only at hh; omega)).trans ((World.cell?_setCell_far _ _ _ _ (by intro hh; simp only at hh; omega)).trans s2), (World.cell?_setCell_far _ _ _ _ (by intro hh; simp only at hh; omega)).trans ((World.cell?_setCell_far _ _ _ _ (by intro hh; simp only at hh; omega)).trans s3)⟩) | (exact ⟨(World.cell?_setCell_far _ _ _ _ (by intro hh; simp only at hh; omega)).trans ((World.cell?_setCell_far _ _ _ _ (by intro hh; simp only at hh; omega)).trans (Lib.cell?_alloc_some _ s0)), (World.cell?_setCell_far _ _ _ _ (by intro hh; simp only at hh; omega)).trans ((World.cell?_setCell_far _ _ _ _ (by intro hh; simp only at hh; omega)).trans (Lib.cell?_alloc_some _ s1)), (World.cell?_setCell_far _ _ _ _ (by intro hh; simp only at hh; omega)).trans ((World.cell?_setCell_far _ _ _ _ (by intro hh; simp only at hh; omega)).trans (Lib.cell?_alloc_some _ s2)), (World.cell?_setCell_far _ _ _ _ (by intro hh; simp only at hh; omega)).trans ((World.cell?_setCell_far _ _ _ _ (by intro hh; simp only at hh; omega)).trans (Lib.cell?_alloc_some _ s3))⟩)) (first
      | (go_at_call 73; ((with_reducible refine (HCV.out _ (HW0.out.trans (by first | exact Up.drew _ | exact (Up.drew _).trans (Up.alloc _ _) | exact ((Up.drew _).trans (Up.alloc _ _)).trans (Up.alloc _ _)))).mono ?_); rintro e w1 ⟨v1, rfl, hoc, u1⟩; have hW1 : Up W0 w1 := (by first | exact (Up.drew _).trans u1 | exact ((Up.drew _).trans (Up.alloc _ _)).trans u1 | exact (((Up.drew _).trans (Up.alloc _ _)).trans (Up.alloc _ _)).trans u1); have hc1 : w1.ownsRow W0.heap.size 81 2 v1 N (fl vcC C) := (by rw [← HNL.out]; exact own_base hoc (by first | exact (Up.drew W0).size | exact ((Up.drew W0).trans (Up.alloc _ _)).size | exact (((Up.drew W0).trans (Up.alloc _ _)).trans (Up.alloc _ _)).size)); have s0 := (HA.out.up hW1).cell (j := 0) rfl; have s1 := (HA.out.up hW1).cell (j := 1) rfl; have s2 := (HV.out.up hW1).cell (j := 0) rfl; have s3 := (HV.out.up hW1).cell (j := 1) rfl))
      | (have hnb : RowC w1 (W0.heap.size + 1) 81 [.string (bs s), .slice oD D cD] := RowC.up (rowN_at (w := W0.drew.alloc (.cells #[.slice none 0 0, .slice none 0 0] 36)) [.string (bs s), .slice oD D cD] _ (by simp)) u1; have hxb : RowC w1 W0.heap.size 36 [.slice none 0 0, .slice none 0 0] := RowC.up (RowC.up (heap_alloc_new W0.drew (.cells #[.slice none 0 0, .slice none 0 0] 36)) (Up.alloc _ _)) u1; refine step_append_lies _ rfl (.tmp 10) (.tmp 12) 34 rfl W0.heap.size 81 i0 _ 2 40 Tryz.underlying34 HI.out HZ0.out HZ1.out HZ2.out rfl (by decide) v1 N (fl vcC C) (by simp [Act.eval]) (own_up hc1 (Up.refl w1)) ⟨(W0.heap.size + 1), 0, none⟩ 1 1 [.string (bs s), .slice oD D cD] (by simp [Act.eval]) rfl (newsV hnb) HO1.out (by decide) (by unfold maxLen; omega) (by omega) (hW1.trans (Up.refl w1)).size _ rfl ?_; intro g cap w2 hown hgrow hat hlt; have hU2 : Up W0 w2 := Below.grown (hW1.trans (Up.refl w1)) hgrow (hW1.trans (Up.refl w1)).size (fun q hq => (World.ownsRow.lt hc1 q hq).1); have hsz1 := hW1.size; have hsz2 := hU2.size; have s0 := (HA.out.up hU2).cell (j := 0) rfl; have s1 := (HA.out.up hU2).cell (j := 1) rfl; have s2 := (HV.out.up hU2).cell (j := 0) rfl; have s3 := (HV.out.up hU2).cell (j := 1) rfl; have hx2 := hxb.kept hgrow (own_apart (own_up hc1 (Up.refl w1)) hxb voState); have p0 := hx2.cell (j := 0) rfl; have p1 := hx2.cell (j := 1) rfl; have p2 := hx2.frozen 0; have p3 := hx2.frozen 1)
      | (have hnb : RowC w1 W0.heap.size 81 [.string (bs s), .slice oD D cD] := RowC.up (RowC.up (heap_alloc_new W0.drew (.cells #[.string (bs s), .slice oD D cD] 81)) (Up.alloc _ _)) u1; have hxb : RowC w1 (W0.heap.size + 1) 36 [.slice none 0 0, .slice none 0 0] := RowC.up (rowN_at (w := W0.drew.alloc (.cells #[.string (bs s), .slice oD D cD] 81)) [.slice none 0 0, .slice none 0 0] _ (by simp)) u1; refine step_append_lies _ rfl (.tmp 10) (.tmp 12) 34 rfl W0.heap.size 81 i0 _ 2 40 Tryz.underlying34 HI.out HZ0.out HZ1.out HZ2.out rfl (by decide) v1 N (fl vcC C) (by simp [Act.eval]) (own_up hc1 (Up.refl w1)) ⟨W0.heap.size, 0, none⟩ 1 1 [.string (bs s), .slice oD D cD] (by simp [Act.eval]) rfl (newsV hnb) HO1.out (by decide) (by unfold maxLen; omega) (by omega) (hW1.trans (Up.refl w1)).size _ rfl ?_; intro g cap w2 hown hgrow hat hlt; have hU2 : Up W0 w2 := Below.grown (hW1.trans (Up.refl w1)) hgrow (hW1.trans (Up.refl w1)).size (fun q hq => (World.ownsRow.lt hc1 q hq).1); have hsz1 := hW1.size; have hsz2 := hU2.size; have s0 := (HA.out.up hU2).cell (j := 0) rfl; have s1 := (HA.out.up hU2).cell (j := 1) rfl; have s2 := (HV.out.up hU2).cell (j := 0) rfl; have s3 := (HV.out.up hU2).cell (j := 1) rfl; have hx2 := hxb.kept hgrow (own_apart (own_up hc1 (Up.refl w1)) hxb voState); have p0 := hx2.cell (j := 0) rfl; have p1 := hx2.cell (j := 1) rfl; have p2 := hx2.frozen 0; have p3 := hx2.frozen 1)
      | (have hnb : RowC (w1.alloc (.cells #[.slice none 0 0, .slice none 0 0] 36)) W0.heap.size 81 [.string (bs s), .slice oD D cD] := RowC.up (RowC.up (heap_alloc_new W0.drew (.cells #[.string (bs s), .slice oD D cD] 81)) u1) (Up.alloc _ _); have hxb : RowC (w1.alloc (.cells #[.slice none 0 0, .slice none 0 0] 36)) w1.heap.size 36 [.slice none 0 0, .slice none 0 0] := heap_alloc_new w1 (.cells #[.slice none 0 0, .slice none 0 0] 36); refine step_append_lies _ rfl (.tmp 10) (.tmp 12) 34 rfl W0.heap.size 81 i0 _ 2 40 Tryz.underlying34 HI.out HZ0.out HZ1.out HZ2.out rfl (by decide) v1 N (fl vcC C) (by simp [Act.eval]) (own_up hc1 (Up.alloc w1 _)) ⟨W0.heap.size, 0, none⟩ 1 1 [.string (bs s), .slice oD D cD] (by simp [Act.eval]) rfl (newsV hnb) HO1.out (by decide) (by unfold maxLen; omega) (by omega) (hW1.trans (Up.alloc w1 _)).size _ rfl ?_; intro g cap w2 hown hgrow hat hlt; have hU2 : Up W0 w2 := Below.grown (hW1.trans (Up.alloc w1 _)) hgrow (hW1.trans (Up.alloc w1 _)).size (fun q hq => (World.ownsRow.lt hc1 q hq).1); have hsz1 := hW1.size; have hsz2 := hU2.size; have s0 := (HA.out.up hU2).cell (j := 0) rfl; have s1 := (HA.out.up hU2).cell (j := 1) rfl; have s2 := (HV.out.up hU2).cell (j := 0) rfl; have s3 := (HV.out.up hU2).cell (j := 1) rfl; have hx2 := hxb.kept hgrow (own_apart (own_up hc1 (Up.alloc w1 _)) hxb voState); have p0 := hx2.cell (j := 0) rfl; have p1 := hx2.cell (j := 1) rfl; have p2 := hx2.frozen 0; have p3 := hx2.frozen 1)
      | (have hnb : RowC ((w1.alloc (.cells #[.slice none 0 0, .slice none 0 0] 36)).alloc (.cells #[.string (bs s), .slice oD D cD] 81)) (w1.heap.size + 1) 81 [.string (bs s), .slice oD D cD] := rowN_at (w := w1.alloc (.cells #[.slice none 0 0, .slice none 0 0] 36)) [.string (bs s), .slice oD D cD] _ (by simp); have hxb : RowC ((w1.alloc (.cells #[.slice none 0 0, .slice none 0 0] 36)).alloc (.cells #[.string (bs s), .slice oD D cD] 81)) w1.heap.size 36 [.slice none 0 0, .slice none 0 0] := RowC.up (heap_alloc_new w1 (.cells #[.slice none 0 0, .slice none 0 0] 36)) (Up.alloc _ _); refine step_append_lies _ rfl (.tmp 10) (.tmp 12) 34 rfl W0.heap.size 81 i0 _ 2 40 Tryz.underlying34 HI.out HZ0.out HZ1.out HZ2.out rfl (by decide) v1 N (fl vcC C) (by simp [Act.eval]) (own_up hc1 ((Up.alloc w1 _).trans (Up.alloc _ _))) ⟨(w1.heap.size + 1), 0, none⟩ 1 1 [.string (bs s), .slice oD D cD] (by simp [Act.eval]) rfl (newsV hnb) HO1.out (by decide) (by unfold maxLen; omega) (by omega) (hW1.trans ((Up.alloc w1 _).trans (Up.alloc _ _))).size _ rfl ?_; intro g cap w2 hown hgrow hat hlt; have hU2 : Up W0 w2 := Below.grown (hW1.trans ((Up.alloc w1 _).trans (Up.alloc _ _))) hgrow (hW1.trans ((Up.alloc w1 _).trans (Up.alloc _ _))).size (fun q hq => (World.ownsRow.lt hc1 q hq).1); have hsz1 := hW1.size; have hsz2 := hU2.size; have s0 := (HA.out.up hU2).cell (j := 0) rfl; have s1 := (HA.out.up hU2).cell (j := 1) rfl; have s2 := (HV.out.up hU2).cell (j := 0) rfl; have s3 := (HV.out.up hU2).cell (j := 1) rfl; have hx2 := hxb.kept hgrow (own_apart (own_up hc1 ((Up.alloc w1 _).trans (Up.alloc _ _))) hxb voState); have p0 := hx2.cell (j := 0) rfl; have p1 := hx2.cell (j := 1) rfl; have p2 := hx2.frozen 0; have p3 := hx2.frozen 1)
      | (have hnb : RowC ((w1.alloc (.cells #[.string (bs s), .slice oD D cD] 81)).alloc (.cells #[.slice none 0 0, .slice none 0 0] 36)) w1.heap.size 81 [.string (bs s), .slice oD D cD] := RowC.up (heap_alloc_new w1 (.cells #[.string (bs s), .slice oD D cD] 81)) (Up.alloc _ _); have hxb : RowC ((w1.alloc (.cells #[.string (bs s), .slice oD D cD] 81)).alloc (.cells #[.slice none 0 0, .slice none 0 0] 36)) (w1.heap.size + 1) 36 [.slice none 0 0, .slice none 0 0] := rowN_at (w := w1.alloc (.cells #[.string (bs s), .slice oD D cD] 81)) [.slice none 0 0, .slice none 0 0] _ (by simp); refine step_append_lies _ rfl (.tmp 10) (.tmp 12) 34 rfl W0.heap.size 81 i0 _ 2 40 Tryz.underlying34 HI.out HZ0.out HZ1.out HZ2.out rfl (by decide) v1 N (fl vcC C) (by simp [Act.eval]) (own_up hc1 ((Up.alloc w1 _).trans (Up.alloc _ _))) ⟨w1.heap.size, 0, none⟩ 1 1 [.string (bs s), .slice oD D cD] (by simp [Act.eval]) rfl (newsV hnb) HO1.out (by decide) (by unfold maxLen; omega) (by omega) (hW1.trans ((Up.alloc w1 _).trans (Up.alloc _ _))).size _ rfl ?_; intro g cap w2 hown hgrow hat hlt; have hU2 : Up W0 w2 := Below.grown (hW1.trans ((Up.alloc w1 _).trans (Up.alloc _ _))) hgrow (hW1.trans ((Up.alloc w1 _).trans (Up.alloc _ _))).size (fun q hq => (World.ownsRow.lt hc1 q hq).1); have hsz1 := hW1.size; have hsz2 := hU2.size; have s0 := (HA.out.up hU2).cell (j := 0) rfl; have s1 := (HA.out.up hU2).cell (j := 1) rfl; have s2 := (HV.out.up hU2).cell (j := 0) rfl; have s3 := (HV.out.up hU2).cell (j := 1) rfl; have hx2 := hxb.kept hgrow (own_apart (own_up hc1 ((Up.alloc w1 _).trans (Up.alloc _ _))) hxb voState); have p0 := hx2.cell (j := 0) rfl; have p1 := hx2.cell (j := 1) rfl; have p2 := hx2.frozen 0; have p3 := hx2.frozen 1)
      | (have hnb : RowC (w1.alloc (.cells #[.string (bs s), .slice oD D cD] 81)) w1.heap.size 81 [.string (bs s), .slice oD D cD] := heap_alloc_new w1 (.cells #[.string (bs s), .slice oD D cD] 81); have hxb : RowC (w1.alloc (.cells #[.string (bs s), .slice oD D cD] 81)) W0.heap.size 36 [.slice none 0 0, .slice none 0 0] := RowC.up (RowC.up (heap_alloc_new W0.drew (.cells #[.slice none 0 0, .slice none 0 0] 36)) u1) (Up.alloc _ _); refine step_append_lies _ rfl (.tmp 10) (.tmp 12) 34 rfl W0.heap.size 81 i0 _ 2 40 Tryz.underlying34 HI.out HZ0.out HZ1.out HZ2.out rfl (by decide) v1 N (fl vcC C) (by simp [Act.eval]) (own_up hc1 (Up.alloc w1 _)) ⟨w1.heap.size, 0, none⟩ 1 1 [.string (bs s), .slice oD D cD] (by simp [Act.eval]) rfl (newsV hnb) HO1.out (by decide) (by unfold maxLen; omega) (by omega) (hW1.trans (Up.alloc w1 _)).size _ rfl ?_; intro g cap w2 hown hgrow hat hlt; have hU2 : Up W0 w2 := Below.grown (hW1.trans (Up.alloc w1 _)) hgrow (hW1.trans (Up.alloc w1 _)).size (fun q hq => (World.ownsRow.lt hc1 q hq).1); have hsz1 := hW1.size; have hsz2 := hU2.size; have s0 := (HA.out.up hU2).cell (j := 0) rfl; have s1 := (HA.out.up hU2).cell (j := 1) rfl; have s2 := (HV.out.up hU2).cell (j := 0) rfl; have s3 := (HV.out.up hU2).cell (j := 1) rfl; have hx2 := hxb.kept hgrow (own_apart (own_up hc1 (Up.alloc w1 _)) hxb voState); have p0 := hx2.cell (j := 0) rfl; have p1 := hx2.cell (j := 1) rfl; have p2 := hx2.frozen 0; have p3 := hx2.frozen 1)
      | (have hnb : RowC w1 W0.heap.size 81 [.string (bs s), .slice oD D cD] := RowC.up (heap_alloc_new W0.drew (.cells #[.string (bs s), .slice oD D cD] 81)) u1; refine step_append_lies _ rfl (.tmp 10) (.tmp 12) 34 rfl W0.heap.size 81 i0 _ 2 40 Tryz.underlying34 HI.out HZ0.out HZ1.out HZ2.out rfl (by decide) v1 N (fl vcC C) (by simp [Act.eval]) (own_up hc1 (Up.refl w1)) ⟨W0.heap.size, 0, none⟩ 1 1 [.string (bs s), .slice oD D cD] (by simp [Act.eval]) rfl (newsV hnb) HO1.out (by decide) (by unfold maxLen; omega) (by omega) (hW1.trans (Up.refl w1)).size _ rfl ?_; intro g cap w2 hown hgrow hat hlt; have hU2 : Up W0 w2 := Below.grown (hW1.trans (Up.refl w1)) hgrow (hW1.trans (Up.refl w1)).size (fun q hq => (World.ownsRow.lt hc1 q hq).1); have hsz1 := hW1.size; have hsz2 := hU2.size; have s0 := (HA.out.up hU2).cell (j := 0) rfl; have s1 := (HA.out.up hU2).cell (j := 1) rfl; have s2 := (HV.out.up hU2).cell (j := 0) rfl; have s3 := (HV.out.up hU2).cell (j := 1) rfl)
      | (have hnb : RowC (w1.alloc (.cells #[.string (bs s), .slice oD D cD] 81)) w1.heap.size 81 [.string (bs s), .slice oD D cD] := heap_alloc_new w1 (.cells #[.string (bs s), .slice oD D cD] 81); refine step_append_lies _ rfl (.tmp 10) (.tmp 12) 34 rfl W0.heap.size 81 i0 _ 2 40 Tryz.underlying34 HI.out HZ0.out HZ1.out HZ2.out rfl (by decide) v1 N (fl vcC C) (by simp [Act.eval]) (own_up hc1 (Up.alloc w1 _)) ⟨w1.heap.size, 0, none⟩ 1 1 [.string (bs s), .slice oD D cD] (by simp [Act.eval]) rfl (newsV hnb) HO1.out (by decide) (by unfold maxLen; omega) (by omega) (hW1.trans (Up.alloc w1 _)).size _ rfl ?_; intro g cap w2 hown hgrow hat hlt; have hU2 : Up W0 w2 := Below.grown (hW1.trans (Up.alloc w1 _)) hgrow (hW1.trans (Up.alloc w1 _)).size (fun q hq => (World.ownsRow.lt hc1 q hq).1); have hsz1 := hW1.size; have hsz2 := hU2.size; have s0 := (HA.out.up hU2).cell (j := 0) rfl; have s1 := (HA.out.up hU2).cell (j := 1) rfl; have s2 := (HV.out.up hU2).cell (j := 0) rfl; have s3 := (HV.out.up hU2).cell (j := 1) rfl))
    all_goals
      clear s0 s1 s2 s3
      go_wp2_with fail
      go_meet
      first
      | exact wmid hx2 (by omega) hU2 hown
      | exact ⟨_, g, cap, rfl, hsz2, heap_alloc_new w2 _, own_up hown (Up.alloc _ _), hU2.trans (Up.alloc _ _)⟩
  case rest =>
    obtain ⟨X, g, cap, rfl, hXW, hX, hown, hU⟩ := hcut
    obtain ⟨W, hW⟩ : ∃ W, W = wc := ⟨_, rfl⟩
    subst hW
    obtain ⟨S, hS⟩ := HRD.out.parts
    have hfl : fl vcC C ++ [.string (bs s), .slice oD D cD] = fl vsC (S ++ [⟨s, oD, D, cD⟩]) := by rw [hS, fl_vs, fl_append]; rfl
    have hSl : (S ++ [(⟨s, oD, D, cD⟩ : VS)]).length = N + 1 := by
      rw [List.length_append, ← HNL.out, hS, List.length_map]; rfl
    rw [hfl] at hown
    rcases own_row hown with ⟨h1, _, _⟩ | ⟨g', cap', sp, h1, hgb, hrow, hc1, hc2, hc3⟩
    · simp at h1
    simp only [Value.slice.injEq, Option.some.injEq, Addr.mk.injEq] at h1
    obtain ⟨⟨rfl, _, _⟩, _, rfl⟩ := h1
    have hgX : g ≠ X := RowC.apart hrow hX voState
    have hsort := sortV g cap X (S ++ [⟨s, oD, D, cD⟩]) sp W hrow (by rw [hSl]; exact hX.cell (j := 1) rfl) (Ne.symm hgX) (by rw [hSl]; omega) (by rw [hSl]; omega) (by rw [hSl]; exact hc1) hc2
    rw [hSl] at hsort
    unfold SortVPost at hsort
    rw [hSl] at hsort
    have HSORT := Lib.hid hsort
    have HX := Lib.hid hX
    have HUW := Lib.hid hU
    have HZW := Lib.hid (HZB.out.up hU)
    have HSS := Lib.hid hS
    have HGB := Lib.hid hgb
    have hZX : w.heap.size + 1 + 1 ≠ X := by
      have h1 := HZB.out.lt
      omega
    have hgZ : g ≠ w.heap.size + 1 + 1 := RowC.apart hrow HZW.out voState
    have x1 := hX.cell (j := 1) rfl
    clear hsort hX hU hown hfl hSl hS hgb hrow
    go_wp2_with fail
    refine HSORT.out.mono ?_
    rintro e w5 ⟨rfl, d, hp, hs5, hv5, hg5⟩
    have hX5 := HX.out.kept hg5 (by simpa using hgX)
    have hZ5 := HZW.out.kept hg5 (by simpa using hgZ)
    have hU5 : Up w w5 := Below.grown (HW0.out.trans HUW.out) hg5 (HW0.out.trans HUW.out).size (fun q hq => by cases hq; exact Nat.le_trans HW0.out.size HGB.out)
    have hrd := HRD.out.up hU5
    rw [HSS.out] at hrd
    have HST : Hid (Stat w5 (.agg #[.slice oB M cB, .slice (some ⟨g, 0, none⟩) (N + 1) cap]) ⟨st.b, vins ⟨s, bl⟩ st.v⟩) := ⟨_, _, rfl, HB.out.up hU5, ⟨d.map toVC, hv5, sorted_rd (y := ⟨s, bl⟩) hrd rfl (HD.out.up hU5) hl hno hp hs5⟩⟩
    have HU5 := Lib.hid hU5
    have HZ5 := Lib.hid hZ5
    have y0 := hX5.cell (j := 0) rfl
    have y1 := hX5.cell (j := 1) rfl
    have r0 := hZ5.frozen 0
    have r1 := hZ5.frozen 1
    have r2 := hZ5.cell (j := 0) rfl
    have r3 := hZ5.cell (j := 1) rfl
    clear hX5 hZ5 hU5 hrd hp hs5 hv5 hg5 x1
    go_wp2_with fail
    have hz := (HZ5.out.set 0 (.slice oB M cB)).set 1 (.slice (some ⟨g, 0, none⟩) (N + 1) cap)
    have z0 := hz.cell (j := 0) rfl
    have z1 := hz.cell (j := 1) rfl
    have HOZ := Lib.hid (Stat.boxed (x := .slice oB M cB) (y := .slice (some ⟨g, 0, none⟩) (N + 1) cap) HST.out HZ5.out rfl rfl rfl)
    have HUZ := Lib.hid (up2 (x := .slice oB M cB) (y := .slice (some ⟨g, 0, none⟩) (N + 1) cap) HU5.out (show w.heap.size ≤ w.heap.size + 1 + 1 by omega))
    generalize (w5.setCell ⟨w.heap.size + 1 + 1, 0, none⟩ (.slice oB M cB)).setCell ⟨w.heap.size + 1 + 1, 1, none⟩ (.slice (some ⟨g, 0, none⟩) (N + 1) cap) = WZ at z0 z1 HOZ HUZ ⊢
    exact bodyPost_ret (v := .agg #[.slice oB M cB, .slice (some ⟨g, 0, none⟩) (N + 1) cap]) (by simp [results, Tryz.results41, go_sem, z0, z1]) rfl ⟨_, rfl, HOZ.out, HUZ.out⟩

end Go.Proofs.YtbeigaanlhaolaaGreatDoor
