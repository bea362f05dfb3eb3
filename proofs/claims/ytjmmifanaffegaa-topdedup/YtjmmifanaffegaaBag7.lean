/-
  What clone and reuse of package bag return. Conditions: the row can be read; at most 64 items, each of at most 64 bytes; reuse: the place is one of the row's.
-/
import Derived.Test.YtjmmifanaffegaaBag6
namespace Go.Proofs.Ytjmmifanaffegaa
open Go.RowKit
open Go.Proofs
open WoolBag

def CloneRel (N g : Nat) (L : List Value) (w : World) (i : Value) (wr : World) : Prop :=
  ∃ k : Nat, k ≤ N ∧ i = .int .i64 k ∧ Up w wr ∧ RowI wr g L

set_option maxRecDepth 100000 in
set_option maxHeartbeats 1000000 in
theorem clone_any (v : Value) (l : List Itm) (w : World) (h : Items w v l) (hl : l.length ≤ 64) (ht : ∀ x ∈ l, x.t.length ≤ 64) :
    Calls Try.prog 46 #[v] w (OwnPost w l) := by
  have HC := Lib.hid (sclone_any v l w h hl)
  obtain ⟨o, c, rfl, h3⟩ := h.slice
  have HT := Lib.hid ht
  clear h ht
  go_enter Try.func46, Try.ntmps46
  go_wp2_with fail
  refine HC.out.mono ?_
  rintro e w1 ⟨v', rfl, hown, u1⟩
  have HU1 := Lib.hid u1
  have hsz := u1.size
  rcases hown.row with ⟨rfl, rfl⟩ | ⟨g, cap, sp, rfl, hg, hrow, hc1, hc2, hc3⟩
  · clear hown u1
    go_wp2_with fail
    go_loopw [9] (fun i wr => i = .int .i64 0 ∧ wr = w1) (fun _ _ => 0)
    case atStart => exact ⟨rfl, rfl⟩
    case round =>
      obtain ⟨rfl, rfl⟩ := hrel
      go_wp2_with fail
      go_ret
      exact ⟨_, rfl, OItems.nil _ _, HU1.out⟩
  · have HROW := Lib.hid hrow
    have HC3 := Lib.hid hc3
    have HG : Hid (w.heap.size ≤ g) := hg
    unfold maxLen at hc2
    clear hown u1 hrow hc3 hsz
    go_wp2_with fail
    go_loopw [4, 9] (fun _ i wr => CloneRel l.length g (itL l ++ sp) w i wr) (fun _ i _ => l.length - (intOf i).toNat)
    case atStart => exact ⟨0, Nat.zero_le _, rfl, HU1.out, HROW.out⟩
    case round =>
      obtain ⟨k, hk, rfl, hu, hr⟩ := hrel
      by_cases hlt : k < l.length
      · have d1 : decide (k < l.length) = true := decide_eq_true hlt
        obtain ⟨_, _, b3, _⟩ := itL_get l k hlt
        have a3 := hr.cell (get_app (sp := sp) b3)
        have hsame := set_same _ _ _ (get_app (sp := sp) b3)
        have HTK : Hid ((bs l[k].t).size ≤ 1000) := by
          show (bs l[k].t).size ≤ 1000
          have := HT.out l[k] (List.getElem_mem hlt)
          rw [bs_size]; omega
        obtain ⟨T, hT⟩ : ∃ T, bs l[k].t = T := ⟨_, rfl⟩
        have hb3 := get_app (sp := sp) b3
        rw [hT] at a3 hsame HTK hb3
        have HB3 := Lib.hid hb3
        clear hb3
        have HS := Lib.hid hsame
        have HR := Lib.hid hr
        have HU := Lib.hid hu
        clear hT hsame hr hu b3
        go_wp2_with fail
        refine (clone_str T _ HTK.out).mono ?_
        rintro e w2 ⟨rfl, u2⟩
        have hr2 := HR.out.up u2
        have hu2 := HU.out.trans u2
        have c2 := hr2.cell HB3.out
        have fz := hr2.frozen (k * 4 + 2)
        have hset := hr2.set (k * 4 + 2) (.string T)
        rw [HS.out] at hset
        have HSET := Lib.hid hset
        have HUP : Hid (Up w (w2.setCell ⟨g, k * 4 + 2, none⟩ (.string T))) := Below.setCell hu2 (p := ⟨g, k * 4 + 2, none⟩) HG.out _
        clear hr2 hu2 hset u2 HS HR a3
        go_wp2_with fail
        go_roundw
        case rel => exact ⟨k + 1, by omega, by go_num, HUP.out, HSET.out⟩
        case measure => simp only [intOf]; omega
      · have d1 : decide (k < l.length) = false := decide_eq_false hlt
        have HU := Lib.hid hu
        have HR := Lib.hid hr
        clear hu hr
        go_wp2_with fail
        go_ret
        exact ⟨_, rfl, OItems.mk HG.out HR.out hc1 (by unfold maxLen; omega) HC3.out, HU.out⟩

/-- what Put and its helpers leave: a new row, an identifier, an error -/
def PutPost (w : World) (R : List Itm × (Bool × Int × Int) × Int) (e : Ending) (w' : World) : Prop :=
  ∃ v', e = .returned (.tuple #[v', idV R.2.1, .int .i64 R.2.2]) ∧ OItems w' w.heap.size v' R.1 ∧ Up w w'

/-- what Put answers for a block that is there -/
def reuseV (l : List Itm) (k : Nat) : List Itm × (Bool × Int × Int) × Int :=
  if (l[k]!).r = 1000000 then ([], noId, 8) else (l.set k (more l[k]! 1), idOf l[k]!, 0)

set_option maxRecDepth 100000 in
set_option maxHeartbeats 1000000 in
theorem reuse_any (v : Value) (l : List Itm) (k : Nat) (w : World) (h : Items w v l) (hb : Bag FP l) (hk : k < l.length) :
    Calls Try.prog 50 #[v, .int .i64 (k : Int)] w (PutPost w (reuseV l k)) := by
  have hl := hb.len
  have hok := hb.ok _ (List.getElem_mem hk)
  have HC := Lib.hid (fun W (hW : Up w W) => clone_any v l W (h.up hW) hl (fun x hx => (hb.ok x hx).1))
  obtain ⟨R, hR⟩ : ∃ R, reuseV l k = R := ⟨_, rfl⟩
  rw [hR]
  unfold reuseV at hR
  rw [getElem!_pos l k hk] at hR
  obtain ⟨o, c, rfl, h2, h3, h4⟩ := h
  unfold maxLen at h3
  rcases h4 with h5 | ⟨b, off, rfl, h5⟩
  · rw [h5] at hk; simp at hk
  have a4 := (h5 k hk).2.2.2
  have r1 := hok.2.2.2.2.1
  have r2 := hok.2.2.2.2.2
  clear hok
  obtain ⟨r, hr⟩ : ∃ r, l[k].r = r := ⟨_, rfl⟩
  rw [hr] at a4 hR r1 r2
  have hbw := World.block_lt_of_cell? w _ a4
  have hbw' : b < w.heap.size := hbw
  have hne : b ≠ w.heap.size := by omega
  by_cases h0 : r = 1000000
  · subst h0
    rw [if_pos rfl] at hR
    subst hR
    clear h5 hb HC hr hbw
    go_enter Try.func50, Try.ntmps50
    go_wp2_with fail
    exact bodyPost_ret (v := .tuple #[.slice none 0 0, .agg #[.bool false, .int .i64 0, .int .i64 0], .int .i64 8]) (by simp [results, Try.results50, go_sem]) rfl ⟨_, rfl, OItems.nil _ _, Up.alloc _ _⟩
  · rw [if_neg h0] at hR
    have d0 : (r == 1000000) = false := by simpa using h0
    have HR := Lib.hid hR
    have HRR := Lib.hid hr
    have hidn := identifier_any (more l[k] 1)
    have hidv : idV (idOf (more l[k] 1)) = .agg #[.bool true, .int .i64 l[k].s, .int .i64 l[k].n] := rfl
    have hidv2 : idV (idOf l[k]) = .agg #[.bool true, .int .i64 l[k].s, .int .i64 l[k].n] := rfl
    have HI2 := Lib.hid hidv2
    have hitv : itV (more l[k] 1) = .agg #[.int .i64 l[k].s, .int .i64 l[k].n, .string (bs l[k].t), .int .i64 (l[k].r + 1)] := rfl
    simp only [hidv, hitv, hr] at hidn
    have hgets := itL_get l k hk
    have hsetR := itL_setR l k hk 1
    rw [hr] at hgets hsetR
    obtain ⟨L', hL'⟩ : ∃ L', l.set k (more l[k] 1) = L' := ⟨_, rfl⟩
    have hLl : L'.length = l.length := by rw [← hL', List.length_set]
    have hgets' := itL_get L' k (by omega)
    have hk' : L'[k]'(by omega) = more l[k] 1 := by subst hL'; rw [List.getElem_set_self]
    rw [hk'] at hgets'
    simp only [more, hr] at hgets'
    rw [hL'] at hR hsetR HR
    generalize l[k].s = xs at *
    generalize l[k].n = xn at *
    generalize bs l[k].t = xt at *
    have HID := Lib.hid hidn
    have HG1 := Lib.hid hgets
    have HG2 := Lib.hid hgets'
    have HSR := Lib.hid hsetR
    have HLL := Lib.hid hLl
    clear h5 hb hr hbw hR hidn hidv hidv2 hitv hgets hgets' hsetR hL' hLl hk' h0
    go_enter Try.func50, Try.ntmps50
    go_wp2_with fail
    refine (HC.out _ (Up.alloc _ _)).mono ?_
    rintro e w1 ⟨v', rfl, hown, u1⟩
    rcases hown.row with ⟨_, hnil⟩ | ⟨g, cap, sp, rfl, hg, hrow, hc1, hc2, hc3⟩
    · rw [hnil] at hk; simp at hk
    have hbx := BoxI.up (BoxI.new w 65 (.bool false) (.int .i64 0) (.int .i64 0)) u1
    have hgw : w.heap.size < g := by simp at hg; omega
    have hU1 := Up.after _ _ _ u1
    have c3 := hrow.cell (get_app (sp := sp) HG1.out.2.2.2)
    have fz := hrow.frozen (k * 4 + 3)
    obtain ⟨w2, hw2⟩ : ∃ w2, w1.setCell ⟨g, k * 4 + 3, none⟩ (.int .i64 (r + 1)) = w2 := ⟨_, rfl⟩
    have hrow2 := hrow.set (k * 4 + 3) (.int .i64 (r + 1))
    rw [List.set_append_left _ _ (by rw [itL_length]; omega), HSR.out, hw2] at hrow2
    have hU2 : Up w w2 := by rw [← hw2]; exact Below.setCell hU1 (p := ⟨g, k * 4 + 3, none⟩) (by show w.heap.size ≤ g; omega) _
    have hbx2 : BoxI w2 w.heap.size 65 (.bool false) (.int .i64 0) (.int .i64 0) := by
      rw [← hw2]
      unfold BoxI at hbx ⊢
      simp [World.setCell, Array.getElem?_modify, hbx, show g ≠ w.heap.size by omega]
    have e0 := hrow2.cell (get_app (sp := sp) HG2.out.1)
    have e1 := hrow2.cell (get_app (sp := sp) HG2.out.2.1)
    have e2 := hrow2.cell (get_app (sp := sp) HG2.out.2.2.1)
    have e3 := hrow2.cell (get_app (sp := sp) HG2.out.2.2.2)
    have HW2 := Lib.hid hw2
    have HROW2 := Lib.hid hrow2
    have HU2 := Lib.hid hU2
    have HBX2 := Lib.hid hbx2
    have HC3 := Lib.hid hc3
    have hwr : IntKind.i64.wrap (r + 1) = r + 1 := IntWalk.i64_in _ (by omega)
    unfold maxLen at hc2
    rw [← hw2] at e0 e1 e2 e3
    clear hown hrow hg u1 hU1 hrow2 hU2 hbx hbx2 hw2 hc3 HG1 HG2 HSR
    go_wp2_with fail
    rw [HW2.out]
    refine (HID.out w2).mono ?_
    rintro e w3 ⟨rfl, u3⟩
    have hbx3 := HBX2.out.up u3
    obtain ⟨z0, z1, z2⟩ := hbx3.cells
    have y0 := hbx3.frozen 0
    have y1 := hbx3.frozen 1
    have y2 := hbx3.frozen 2
    have hset := hbx3.set (.bool true) (.int .i64 xs) (.int .i64 xn)
    obtain ⟨w4, hw4⟩ : ∃ w4, ((w3.setCell ⟨w.heap.size, 0, none⟩ (.bool true)).setCell ⟨w.heap.size, 1, none⟩ (.int .i64 xs)).setCell ⟨w.heap.size, 2, none⟩ (.int .i64 xn) = w4 := ⟨_, rfl⟩
    rw [hw4] at hset
    obtain ⟨s0, s1, s2⟩ := hset.cells
    have HU4 : Hid (Up w w4) := by
      show Up w w4
      rw [← hw4]
      exact ((Below.setCell (HU2.out.trans u3) (p := ⟨w.heap.size, 0, none⟩) (Nat.le_refl _) _).setCell (p := ⟨w.heap.size, 1, none⟩) (Nat.le_refl _) _).setCell (p := ⟨w.heap.size, 2, none⟩) (Nat.le_refl _) _
    have HROW4 : Hid (RowI w4 g (itL L' ++ sp)) := by
      show RowI w4 g (itL L' ++ sp)
      have h3 := HROW2.out.up u3
      rw [← hw4]
      unfold RowI at h3 ⊢
      simp [World.setCell, Array.getElem?_modify, h3, show w.heap.size ≠ g by omega]
    have HW4 := Lib.hid hw4
    clear hw4 hset hbx3 u3 e0 e1 e2 e3
    go_wp2_with fail
    rw [HW4.out]
    have hRe := HR.out
    have hll := HLL.out
    exact bodyPost_ret (v := .tuple #[.slice (some ⟨g, 0, none⟩) l.length cap, .agg #[.bool true, .int .i64 xs, .int .i64 xn], .int .i64 0]) (by simp [results, Try.results50, go_sem, s0, s1, s2]) rfl
      ⟨_, by rw [← hRe, HI2.out], by rw [← hRe]; simp only; rw [← hll]; exact OItems.mk (by omega) HROW4.out (by omega) (by unfold maxLen; omega) (by rw [hll]; exact HC3.out), HU4.out⟩

end Go.Proofs.Ytjmmifanaffegaa
