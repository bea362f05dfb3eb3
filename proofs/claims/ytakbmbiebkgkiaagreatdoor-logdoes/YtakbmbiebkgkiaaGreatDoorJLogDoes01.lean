/-
  The law LogDoes: whatever is handed in, Do answers what the document says. Conditions: a state that can be read, a deed that a call can be handed.
-/
import Derived.Test.YtakbmbiebkgkiaaGreatDoorJB15
import Derived.Test.YtakbmbiebkgkiaaGreatDoorJB28
import Derived.Test.YtakbmbiebkgkiaaGreatDoorJB38
import Derived.Test.YtakbmbiebkgkiaaGreatDoorJB41
import Derived.Test.YtakbmbiebkgkiaaGreatDoorJB42
import Derived.Test.YtakbmbiebkgkiaaGreatDoorJB43
import Derived.Test.YtakbmbiebkgkiaaGreatDoorJB44
import Derived.Deep.DeepCutAuto
namespace Go.Proofs.YtakbmbiebkgkiaaGreatDoor
open Go.RowKit
open Go.Proofs
open WoolBag
open WoolVol

def ShpPost (w : World) (r : Sta × Int) (e : Ending) (w' : World) : Prop := ∃ o c p d, e = .returned (.tuple #[.agg #[.slice o r.1.b.length c, .slice p r.1.v.length d], .int .i64 r.2]) ∧ Stat w' (.agg #[.slice o r.1.b.length c, .slice p r.1.v.length d]) r.1 ∧ Up w w'

theorem shp_of {w : World} {r : Sta × Int} {e : Ending} {w' : World} (h : RdEPost w r e w') : ShpPost w r e w' := by
  obtain ⟨v, rfl, h1, h2⟩ := h
  obtain ⟨o, c, p, d, rfl⟩ := h1.shape
  exact ⟨o, c, p, d, rfl, h1, h2⟩

theorem shp_ofS {w : World} {r : Sta × Int} {e : Ending} {w' : World} (h : StEPost w r e w') : ShpPost w r e w' := by
  obtain ⟨v, rfl, h1, h2⟩ := h
  have h3 := h1.stat
  obtain ⟨o, c, p, d, rfl⟩ := h3.shape
  exact ⟨o, c, p, d, rfl, h3, h2⟩

/-- the reference's Do, for a deed that is right -/
theorem refDo_any (v : Value) (st : Sta) (o : Opn) (w : World) (h : Stat w v st) (hwf : WfS st) (ho : OpWf o) (hc : chkO o = 0) :
    Calls Tryz.prog 8 #[v, opA o] w (ShpPost w (doO FP st o)) := by
  have h15 := chkO_kd hc
  have e0 : doO FP st o = doK FP st o := by unfold doO; rw [if_neg (by omega)]
  rw [e0]
  obtain ⟨kd, s, u, a, t⟩ := o
  simp only at h15
  unfold doK
  simp only
  by_cases h1 : kd = 1
  · subst h1
    rw [if_pos rfl]
    exact (refDo1 v st s u t a w h hwf ho.2.1).mono (fun _ _ => shp_of)
  by_cases h2 : kd = 2
  · subst h2
    rw [if_neg (by omega), if_pos rfl]
    exact (refDo2 v st s u t a w h hwf).mono (fun _ _ => shp_of)
  by_cases h3 : kd = 3
  · subst h3
    rw [if_neg (by omega), if_neg (by omega), if_pos rfl]
    have h9 := refDo34 v st 3 s u t a w h hwf (by omega) (by omega) (by omega)
    unfold do34 at h9
    rw [if_neg (by omega)] at h9
    exact h9.mono (fun _ _ => shp_of)
  by_cases h4 : kd = 4
  · subst h4
    rw [if_neg (by omega), if_neg (by omega), if_neg (by omega), if_pos rfl]
    have h9 := refDo34 v st 4 s u t a w h hwf (by omega) (by omega) (by omega)
    unfold do34 at h9
    rw [if_pos rfl] at h9
    exact h9.mono (fun _ _ => shp_of)
  · have h5 : kd = 5 := by omega
    subst h5
    rw [if_neg (by omega), if_neg (by omega), if_neg (by omega), if_neg (by omega)]
    exact (refDo5 v st s u t a w h hwf ho.2.2.1).mono (fun _ _ => shp_of)

set_option maxRecDepth 100000 in
set_option maxHeartbeats 2000000 in
theorem logDoes_walk (a0 : Value) (s0 : Sta) (a1 : Opn) (w : World) (w0 : Stat w a0 s0 ∧ WfS s0) (w1 : OpWf a1) :
    Calls Tryz.prog 3 #[a0, opA a1] w fun e w' => e = .returned (.bool true) ∧ Up w w' := by
  obtain ⟨hst, hwf⟩ := w0
  have HQ1 : Hid (∀ W, Up w W → Calls Tryz.prog 5 #[a0, opA a1] W (ShpPost W (doO FP s0 a1))) := fun W hW => (do_any a0 s0 a1 W (hst.up hW) hwf w1).mono (fun _ _ => shp_ofS)
  have HQ2 := Lib.hid (fun W => refDeed_any a1 W w1)
  have HQ3 : Hid (chkO a1 = 0 → ∀ W, Up w W → Calls Tryz.prog 8 #[a0, opA a1] W (ShpPost W (doO FP s0 a1))) := fun hc W hW => refDo_any a0 s0 a1 W (hst.up hW) hwf w1 hc
  have HZ : Hid (chkO a1 ≠ 0 → doO FP s0 a1 = (zeroS, chkO a1)) := fun hc => by unfold doO; rw [if_pos hc]
  obtain ⟨C, hC⟩ : ∃ C, chkO a1 = C := ⟨_, rfl⟩
  obtain ⟨R, hR⟩ : ∃ R, doO FP s0 a1 = R := ⟨_, rfl⟩
  rw [hC] at HQ2 HQ3 HZ
  rw [hR] at HQ1 HQ3 HZ
  clear hC hR
  obtain ⟨vb, vv, rfl, hb, hv⟩ := hst
  obtain ⟨oB, cB, rfl, _⟩ := hb.slice
  obtain ⟨oV, cV, rfl, _, _⟩ := hv.slice
  clear hb hv hwf w1
  unfold opA at *
  unfold ShpPost at HQ1 HQ3
  obtain ⟨kd, nm, ot, pl, tx⟩ := a1
  simp only at *
  generalize s0.b.length = M at *
  generalize s0.v.length = N at *
  generalize bs nm = NM at *
  generalize bs ot = OT at *
  generalize bs tx = TX at *
  have HA : Hid (RowC ((w.alloc (.cells #[.slice oB M cB, .slice oV N cV] 25)).alloc (.cells #[.int .i64 kd, .string NM, .string OT, .int .i64 pl, .string TX] 27)) w.heap.size 25 [.slice oB M cB, .slice oV N cV]) := RowC.up (rowN_at [.slice oB M cB, .slice oV N cV] 25 rfl) (Up.alloc _ _)
  have HO : Hid (RowC ((w.alloc (.cells #[.slice oB M cB, .slice oV N cV] 25)).alloc (.cells #[.int .i64 kd, .string NM, .string OT, .int .i64 pl, .string TX] 27)) (w.heap.size + 1) 27 [.int .i64 kd, .string NM, .string OT, .int .i64 pl, .string TX]) := rowN_at [.int .i64 kd, .string NM, .string OT, .int .i64 pl, .string TX] 27 (by simp)
  have HU : Hid (Up w ((w.alloc (.cells #[.slice oB M cB, .slice oV N cV] 25)).alloc (.cells #[.int .i64 kd, .string NM, .string OT, .int .i64 pl, .string TX] 27))) := (Up.alloc _ _).trans (Up.alloc _ _)
  go_enter Tryz.func3, Tryz.ntmps3
  go_upto_region 1 with (fail)
  generalize ((w.alloc (.cells #[.slice oB M cB, .slice oV N cV] 25)).alloc (.cells #[.int .i64 kd, .string NM, .string OT, .int .i64 pl, .string TX] 27)) = W0 at HA HO HU ⊢
  generalize w.heap.size = A at HA HO ⊢
  have q0 := HA.out.cell (j := 0) rfl
  have q1 := HA.out.cell (j := 1) rfl
  have p0 := HO.out.cell (j := 0) rfl
  have p1 := HO.out.cell (j := 1) rfl
  have p2 := HO.out.cell (j := 2) rfl
  have p3 := HO.out.cell (j := 3) rfl
  have p4 := HO.out.cell (j := 4) rfl
  go_wp2_with fail
  refine (HQ1.out _ HU.out).mono ?_
  rintro e w1 ⟨o1, c1, d1, f1, rfl, hs1, u1⟩
  clear q0 q1 p0 p1 p2 p3 p4
  go_upto_region 2 with (fail)
  have hal := u1.trans (Up.alloc w1 (.cells #[.slice o1 R.1.b.length c1, .slice d1 R.1.v.length f1] 25))
  have HX : Hid (RowC (w1.alloc (.cells #[.slice o1 R.1.b.length c1, .slice d1 R.1.v.length f1] 25)) w1.heap.size 25 [.slice o1 R.1.b.length c1, .slice d1 R.1.v.length f1]) := heap_alloc_new w1 _
  have HS := Lib.hid (hs1.up (Up.alloc w1 (.cells #[.slice o1 R.1.b.length c1, .slice d1 R.1.v.length f1] 25)))
  replace HA := Lib.hid (HA.out.up hal)
  replace HO := Lib.hid (HO.out.up hal)
  replace HU := Lib.hid (HU.out.trans hal)
  clear hal u1 hs1 HQ1
  generalize w1.alloc (.cells #[.slice o1 R.1.b.length c1, .slice d1 R.1.v.length f1] 25) = W1 at HX HS HA HO HU ⊢
  generalize w1.heap.size = X at HX ⊢
  have p0 := HO.out.cell (j := 0) rfl
  have p1 := HO.out.cell (j := 1) rfl
  have p2 := HO.out.cell (j := 2) rfl
  have p3 := HO.out.cell (j := 3) rfl
  have p4 := HO.out.cell (j := 4) rfl
  go_wp2_with fail
  refine (HQ2.out _).mono ?_
  rintro e w2 ⟨rfl, u2⟩
  clear p0 p1 p2 p3 p4
  replace HX := Lib.hid (HX.out.up u2)
  replace HS := Lib.hid (HS.out.up u2)
  replace HA := Lib.hid (HA.out.up u2)
  replace HO := Lib.hid (HO.out.up u2)
  replace HU := Lib.hid (HU.out.trans u2)
  clear u2 HQ2
  have x0 := HX.out.cell (j := 0) rfl
  have x1 := HX.out.cell (j := 1) rfl
  by_cases h0 : C = 0
  · subst h0
    have q0 := HA.out.cell (j := 0) rfl
    have q1 := HA.out.cell (j := 1) rfl
    have p0 := HO.out.cell (j := 0) rfl
    have p1 := HO.out.cell (j := 1) rfl
    have p2 := HO.out.cell (j := 2) rfl
    have p3 := HO.out.cell (j := 3) rfl
    have p4 := HO.out.cell (j := 4) rfl
    clear x0 x1
    go_wp2_with fail
    refine (HQ3.out (by first | rfl | trivial) _ HU.out).mono ?_
    rintro e w3 ⟨o2, c2, d2, f2, rfl, hs2, u3⟩
    clear q0 q1 p0 p1 p2 p3 p4
    go_upto_region 6 with (fail)
    have hal := u3.trans (Up.alloc w3 (.cells #[.slice o2 R.1.b.length c2, .slice d2 R.1.v.length f2] 25))
    have HY : Hid (RowC (w3.alloc (.cells #[.slice o2 R.1.b.length c2, .slice d2 R.1.v.length f2] 25)) w3.heap.size 25 [.slice o2 R.1.b.length c2, .slice d2 R.1.v.length f2]) := heap_alloc_new w3 _
    have HT := Lib.hid (hs2.up (Up.alloc w3 (.cells #[.slice o2 R.1.b.length c2, .slice d2 R.1.v.length f2] 25)))
    replace HX := Lib.hid (HX.out.up hal)
    replace HS := Lib.hid (HS.out.up hal)
    replace HU := Lib.hid (HU.out.trans hal)
    clear hal u3 hs2 HA HO HQ3
    generalize w3.alloc (.cells #[.slice o2 R.1.b.length c2, .slice d2 R.1.v.length f2] 25) = W3 at HX HS HY HT HU ⊢
    generalize w3.heap.size = Y at HY ⊢
    have HC := Lib.hid (told_yes _ _ R.1 R.2 W3 HS.out HT.out)
    have x0 := HX.out.cell (j := 0) rfl
    have x1 := HX.out.cell (j := 1) rfl
    have y0 := HY.out.cell (j := 0) rfl
    have y1 := HY.out.cell (j := 1) rfl
    go_wp2_with fail
    refine HC.out.mono ?_
    rintro e w4 ⟨rfl, u4⟩
    have HUZ := Lib.hid (HU.out.trans u4)
    clear u4
    go_wp2_with fail
    go_ret
    exact ⟨rfl, HUZ.out⟩
  · have hn : (C == 0) = false := by rw [beq_eq_false_iff_ne]; exact h0
    have hR := HZ.out h0
    subst hR
    have HC := Lib.hid (told_yes _ _ zeroS C w2 HS.out (Stat.zero w2))
    unfold zeroV at HC
    clear HZ h0
    go_wp2_with fail
    refine HC.out.mono ?_
    rintro e w4 ⟨rfl, u4⟩
    have HUZ := Lib.hid (HU.out.trans u4)
    clear u4
    go_wp2_with fail
    go_ret
    exact ⟨rfl, HUZ.out⟩

end Go.Proofs.YtakbmbiebkgkiaaGreatDoor
