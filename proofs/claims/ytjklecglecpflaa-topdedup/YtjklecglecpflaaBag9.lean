/-
  What Drop of package bag returns. Condition: the row can be read.
-/
import Derived.Test.YtjklecglecpflaaBag8
namespace Go.Proofs.Ytjklecglecpflaa
open Go.RowKit
open Go.Proofs
open WoolBag

/-- what Drop leaves: a new row and an error -/
def DropPost (w : World) (R : List Itm × Int) (e : Ending) (w' : World) : Prop :=
  ∃ v', e = .returned (.tuple #[v', .int .i64 R.2]) ∧ OItems w' w.heap.size v' R.1 ∧ Up w w'

theorem less_set (l : List Itm) (k : Nat) (h : k < l.length) : (l.set k (more l[k] (-1))).eraseIdx k = l.eraseIdx k := by
  rw [List.eraseIdx_set_eq]

set_option maxRecDepth 100000 in
set_option maxHeartbeats 1000000 in
theorem drop_any (v : Value) (l : List Itm) (i : Bool × Int × Int) (w : World) (h : Items w v l) :
    Calls Try.prog 63 #[v, idV i] w (DropPost w (WoolBag.drop FP l i)) := by
  obtain ⟨R, hR⟩ : ∃ R, WoolBag.drop FP l i = R := ⟨_, rfl⟩
  rw [hR]
  unfold WoolBag.drop at hR
  have hfi := Lib.hid (fun W (hW : Up w W) => find_any v l i W (h.up hW))
  unfold findR at hfi
  have HL := Lib.hid (find_lt (l := l) (i := i))
  obtain ⟨k, hK⟩ : ∃ K, (find FP l i).1 = K := ⟨_, rfl⟩
  obtain ⟨E, hE⟩ : ∃ E, (find FP l i).2 = E := ⟨_, rfl⟩
  rw [hK, hE] at hfi HL hR
  have HCL := Lib.hid (fun W (hW : Up w W) hb => clone_any v l W (h.up hW) (Bag.len hb) (fun x hx => (Bag.ok (F := FP) hb x hx).1))
  have HRR := Lib.hid hR
  obtain ⟨o, c, rfl, h3⟩ := h.slice
  unfold maxLen at h3
  unfold idV at hfi ⊢
  obtain ⟨ib, is, iN⟩ := i
  simp only at hfi ⊢
  clear hR hK hE h
  go_enter Try.func63, Try.ntmps63
  go_wp2_with fail
  refine (hfi.out _ (Up.alloc _ _)).mono ?_
  rintro e w1 ⟨rfl, u1⟩
  have HU1 : Hid (Up w w1) := Up.after _ _ _ u1
  clear u1
  by_cases h0 : E = 0
  · subst h0
    obtain ⟨hk, hbag, _⟩ := HL.out rfl
    have hl := hbag.len
    have hok := hbag.ok _ (List.getElem_mem hk)
    have r1 := hok.2.2.2.2.1
    have r2 := hok.2.2.2.2.2
    have hr := HRR.out
    rw [if_pos rfl] at hr
    unfold less at hr
    rw [getElem!_pos l k hk] at hr
    have HC := Lib.hid (HCL.out w1 HU1.out hbag)
    have hgets := (itL_get l k hk).2.2.2
    have hsetR := itL_setR l k hk (-1)
    obtain ⟨L', hL'⟩ : ∃ L', l.set k (more l[k] (-1)) = L' := ⟨_, rfl⟩
    have hLl : L'.length = l.length := by rw [← hL', List.length_set]
    have hgets' := (itL_get L' k (by omega)).2.2.2
    have hk' : L'[k]'(by omega) = more l[k] (-1) := by subst hL'; rw [List.getElem_set_self]
    have hera : L'.eraseIdx k = l.eraseIdx k := by rw [← hL']; exact less_set l k hk
    rw [hk'] at hgets'
    simp only [more] at hgets'
    rw [hL'] at hr hsetR
    obtain ⟨r, hrr⟩ : ∃ r, l[k].r = r := ⟨_, rfl⟩
    rw [hrr] at r1 r2 hr hgets hsetR hgets'
    have HG1 := Lib.hid hgets
    have HG2 := Lib.hid hgets'
    have HSR := Lib.hid hsetR
    have HLL := Lib.hid hLl
    have HER := Lib.hid hera
    have HRV := Lib.hid hr
    clear hgets hgets' hsetR hLl hk' hr hrr hok hbag hL' HL HRR HCL hera
    go_wp2_with fail
    refine HC.out.mono ?_
    rintro e w2 ⟨v', rfl, hown, u2⟩
    rcases hown.row with ⟨_, hnil⟩ | ⟨g, cap, sp, rfl, hg, hrow, hc1, hc2, hc3⟩
    · rw [hnil] at hk; simp at hk
    have hU2 := HU1.out.trans u2
    have hgw : w.heap.size ≤ g := Nat.le_trans HU1.out.size hg
    have c3 := hrow.cell (get_app (sp := sp) HG1.out)
    have fz := hrow.frozen (k * 4 + 3)
    obtain ⟨w3, hw3⟩ : ∃ w3, w2.setCell ⟨g, k * 4 + 3, none⟩ (.int .i64 (r + -1)) = w3 := ⟨_, rfl⟩
    have hrow3 := hrow.set (k * 4 + 3) (.int .i64 (r + -1))
    rw [List.set_append_left _ _ (by rw [itL_length]; omega), HSR.out, hw3] at hrow3
    have hU3 : Up w w3 := by rw [← hw3]; exact Below.setCell hU2 (p := ⟨g, k * 4 + 3, none⟩) hgw _
    have e3 := hrow3.cell (get_app (sp := sp) HG2.out)
    have hwr : IntKind.i64.wrap (r - 1) = r + -1 := by rw [Int.sub_eq_add_neg]; exact IntWalk.i64_in _ (by omega)
    have hm : r - 1 = r + -1 := Int.sub_eq_add_neg
    have HROW3 := Lib.hid hrow3
    have HU3 := Lib.hid hU3
    have HC3 := Lib.hid hc3
    have HW3 := Lib.hid hw3
    have HGW := Lib.hid hgw
    have HC2 := Lib.hid hc2
    unfold maxLen at hc2
    rw [← hw3, ← hm] at e3
    rw [← hm] at HW3
    clear hown hrow hg u2 hU2 hrow3 hU3 hw3 hc3 HG1 HG2 HSR hwr
    by_cases h1 : r = 1
    · have hr := HRV.out
      rw [if_pos h1] at hr
      subst h1
      have HRV2 := Lib.hid hr
      have HDEL := Lib.hid (delete_any L' k (k + 1) g cap sp w3 rfl (by rw [HLL.out]; exact hk) HROW3.out (by rw [HLL.out]; exact hc1) HC2.out (by rw [HLL.out]; exact HC3.out))
      rw [HLL.out, HER.out] at HDEL
      clear hr hm
      have hel : (l.eraseIdx k).length = l.length - 1 := List.length_eraseIdx_of_lt hk
      have HEL := Lib.hid hel
      clear hel
      go_wp2_with fail
      rw [show w2.setCell ⟨g, k * 4 + 3, none⟩ (.int .i64 0) = w3 from HW3.out]
      have hd := HDEL.out
      rw [show ((k + 1 : Nat) : Int) = (k : Int) + 1 by omega] at hd
      refine hd.mono ?_
      rintro e w4 ⟨rfl, hr4, hb4⟩
      have HR4 := Lib.hid hr4
      have HB4 := Lib.hid hb4
      clear hd hr4 hb4
      go_wp2_with fail
      go_ret2
      have hel := HEL.out
      refine ⟨_, by rw [← HRV2.out]; rfl, ?_, Below.trans HU3.out (HB4.out.mono hgw)⟩
      rw [← HRV2.out]
      show OItems w4 w.heap.size (.slice (some ⟨g, 0, none⟩) (l.length - 1) cap) (l.eraseIdx k)
      rw [← hel]
      have hz : zc.length = 4 := rfl
      exact OItems.mk hgw HR4.out (by omega) HC2.out (by rw [List.length_append, hz]; have := HC3.out; omega)
    · have hr := HRV.out
      rw [if_neg h1] at hr
      have HRV2 := Lib.hid hr
      have d0 : (r - 1 == 0) = false := by simp; omega
      clear hr hm
      go_wp2_with fail
      rw [HW3.out]
      go_ret2
      have hll := HLL.out
      refine ⟨_, by rw [← HRV2.out]; rfl, ?_, HU3.out⟩
      rw [← HRV2.out]
      show OItems w3 w.heap.size (.slice (some ⟨g, 0, none⟩) l.length cap) L'
      rw [← hll]
      exact OItems.mk hgw HROW3.out (by omega) HC2.out (by rw [hll]; exact HC3.out)
  · have hr := HRR.out
    rw [if_neg h0] at hr
    have HRV := Lib.hid hr
    have hne : (E != 0) = true := by rw [bne_iff_ne]; exact h0
    clear hr h0
    go_wp2_with fail
    go_ret2
    exact ⟨_, by rw [← HRV.out]; rfl, by rw [← HRV.out]; exact OItems.nil _ _, HU1.out⟩

end Go.Proofs.Ytjklecglecpflaa
