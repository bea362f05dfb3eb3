/-
  What the reference's Less returns. Conditions: the row can be read and is a right bag.
-/
import Derived.Test.YtjklecglecpflaaGreatDoorRefBag3
namespace Go.Proofs.YtjklecglecpflaaGreatDoor
open Go.RowKit
open Go.Proofs
open WoolBag

/-- what Less leaves -/
def LessPost (w : World) (R : List Itm × Int) (e : Ending) (w' : World) : Prop :=
  ∃ o c, e = .returned (.tuple #[.slice o R.1.length c, .int .i64 R.2]) ∧ Items w' (.slice o R.1.length c) R.1 ∧ Up w w'

set_option maxRecDepth 100000 in
set_option maxHeartbeats 1000000 in
theorem refLess_any (v : Value) (l : List Itm) (ib : Bool) (is iN : Int) (w : World) (h : Items w v l) (hb : Bag FP l) :
    Calls Tryz.prog 60 #[v, .agg #[.bool ib, .int .i64 is, .int .i64 iN]] w (LessPost w (WoolBag.drop FP l (ib, is, iN))) := by
  obtain ⟨R, hR⟩ : ∃ R, WoolBag.drop FP l (ib, is, iN) = R := ⟨_, rfl⟩
  rw [hR]
  have hf : WoolBag.find FP l (ib, is, iN) = (match idx (idB (ib, is, iN)) l with | some k => (k, 0) | none => (0, 4)) := by
    unfold WoolBag.find
    rw [(chk_zero FP).2 hb, if_neg (fun h => h rfl)]
    cases idx (idB (ib, is, iN)) l <;> rfl
  unfold WoolBag.drop at hR
  rw [hf] at hR
  clear hf
  have hl := hb.len
  have HIT := Lib.hid (fun W (hW : Up w W) => refItem_any v l ib is iN W (h.up hW))
  have HCL := Lib.hid (fun W (hW : Up w W) => sclone_any v l W (h.up hW) hl)
  have HB := Lib.hid hb
  unfold ixI at HIT
  obtain ⟨o, c, rfl, h3⟩ := h.slice
  unfold maxLen at h3
  cases hi : idx (idB (ib, is, iN)) l with
  | none =>
    rw [hi] at hR HIT
    have HRV := Lib.hid hR
    clear hR hi h hb HCL
    go_enter Tryz.func60, Tryz.ntmps60
    go_wp2_with fail
    refine (HIT.out _ (Up.alloc _ _)).mono ?_
    rintro e w1 ⟨rfl, u1⟩
    have HU1 : Hid (Up w w1) := Up.after _ _ _ u1
    clear u1
    go_wp2_with fail
    go_ret2
    have hr := HRV.out
    rw [if_neg (show ¬ (4 : Int) = 0 by decide)] at hr
    refine ⟨none, 0, by rw [← hr]; rfl, ?_, HU1.out⟩
    rw [← hr]
    exact (OItems.nil w1 0).items
  | some k =>
    rw [hi] at hR HIT
    obtain ⟨hk, _, _⟩ := idx_some hi
    rw [if_pos rfl] at hR
    have hlf := less_filter (F := FP) hb hk
    have hok := hb.ok _ (List.getElem_mem hk)
    have r1 := hok.2.2.2.2.1
    have r2 := hok.2.2.2.2.2
    have hgets := (itL_get l k hk).2.2.2
    have hsetR := itL_setR l k hk (-1)
    obtain ⟨L', hL'⟩ : ∃ L', l.set k (more l[k] (-1)) = L' := ⟨_, rfl⟩
    have hLl : L'.length = l.length := by rw [← hL', List.length_set]
    rw [hL'] at hsetR hlf
    obtain ⟨r, hrr⟩ : ∃ r, l[k].r = r := ⟨_, rfl⟩
    rw [hrr] at r1 r2 hgets hsetR
    have HG1 := Lib.hid hgets
    have HSR := Lib.hid hsetR
    have HLL := Lib.hid hLl
    have HRV : Hid (R = (L'.filter (fun x => !noR x), 0)) := by
      show R = _
      rw [← hR]
      exact congrArg (·, (0 : Int)) hlf.symm
    clear hR hi h hb hlf hok hgets hsetR hL' hrr hLl
    go_enter Tryz.func60, Tryz.ntmps60
    go_wp2_with fail
    refine (HIT.out _ (Up.alloc _ _)).mono ?_
    rintro e w1 ⟨rfl, u1⟩
    have HU1 : Hid (Up w w1) := Up.after _ _ _ u1
    clear u1
    go_wp2_with fail
    refine (HCL.out _ HU1.out).mono ?_
    rintro e w2 ⟨v', rfl, hown, u2⟩
    rcases hown.row with ⟨_, hnil⟩ | ⟨g, cap, sp, rfl, hg, hrow, hc1, hc2, hc3⟩
    · rw [hnil] at hk; simp at hk
    have hU2 := HU1.out.trans u2
    have hgw : w.heap.size ≤ g := Nat.le_trans HU1.out.size hg
    have c3 := hrow.cell (get_app (sp := sp) HG1.out)
    have fz := hrow.frozen (k * 4 + 3)
    obtain ⟨w3, hw3⟩ : ∃ w3, w2.setCell ⟨g, k * 4 + 3, none⟩ (.int .i64 (r + -1)) = w3 := ⟨_, rfl⟩
    have hrow3 := hrow.set (k * 4 + 3) (.int .i64 (r + -1))
    rw [List.set_append_left _ _ (by rw [itL_length]; omega), HSR.out, hw3] at hrow3
    have hU3 : Up w w3 := by rw [← hw3]; exact Below.setCell hU2 (p := ⟨g, k * 4 + 3, none⟩) hgw _
    have hm : r - 1 = r + -1 := Int.sub_eq_add_neg
    have HU3 := Lib.hid hU3
    have HW3 := Lib.hid hw3
    have HDEL := Lib.hid (deleteF_any L' g cap sp w3 hrow3 (by rw [HLL.out]; exact hl) (by rw [HLL.out]; exact hc1) hc2)
    rw [HLL.out] at HDEL
    have HGW := Lib.hid hgw
    unfold maxLen at hc2
    rw [← hm] at HW3
    clear hown hrow hg u2 hU2 hrow3 hU3 hw3 hc3 HG1 HSR hgw hm
    go_wp2_with fail
    rw [HW3.out]
    refine HDEL.out.mono ?_
    rintro e w4 ⟨rfl, hi4, hg4⟩
    have HI4 := Lib.hid hi4
    have HU4 : Hid (Up w w4) := Below.grown HU3.out hg4 HU3.out.size (fun j hj => by cases hj; exact HGW.out)
    clear hi4 hg4
    go_wp2_with fail
    go_ret2
    refine ⟨some ⟨g, 0, none⟩, cap, by rw [HRV.out]; rfl, ?_, HU4.out⟩
    rw [HRV.out]
    exact HI4.out

end Go.Proofs.YtjklecglecpflaaGreatDoor
