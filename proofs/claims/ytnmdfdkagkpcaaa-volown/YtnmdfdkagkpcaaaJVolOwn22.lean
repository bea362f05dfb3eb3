/-
  The texts Bag7, VolG, one behind the other; each says below what it holds and on what conditions.
-/
import Derived.Test.YtnmdfdkagkpcaaaJVolOwn21

/-
  What clone and reuse of package bag return. Conditions: the row can be read; at most 64 items, each of at most 64 bytes; reuse: the place is one of the row's.
-/
namespace Go.Proofs.Ytnmdfdkagkpcaaa
open Go.RowKit
open Go.Proofs
open WoolBag

def CloneRel (N g : Nat) (L : List Value) (w : World) (i : Value) (wr : World) : Prop :=
  ∃ k : Nat, k ≤ N ∧ i = .int .i64 k ∧ Up w wr ∧ RowI wr g L

set_option maxRecDepth 100000 in
set_option maxHeartbeats 1000000 in
theorem clone_any (v : Value) (l : List Itm) (w : World) (h : Items w v l) (hl : l.length ≤ 64) (ht : ∀ x ∈ l, x.t.length ≤ 64) :
    Calls Try.prog 60 #[v] w (OwnPost w l) := by
  have HC := Lib.hid (sclone_any v l w h hl)
  obtain ⟨o, c, rfl, h3⟩ := h.slice
  have HT := Lib.hid ht
  clear h ht
  go_enter Try.func60, Try.ntmps60
  go_wp2_with fail
  refine HC.out.mono ?_
  rintro e w1 ⟨v', rfl, hown, u1⟩
  have HU1 := Lib.hid u1
  have hsz := u1.size
  rcases hown.row with ⟨rfl, rfl⟩ | ⟨g, cap, sp, rfl, hg, hrow, hc1, hc2, hc3⟩
  · clear hown u1
    go_wp2_with fail
    go_loopw [9] (fun i wr => i = .int .i64 0 ∧ wr = w1) (fun _ _ => 0)
    case atStart => exact ⟨rfl, rfl⟩
    case round =>
      obtain ⟨rfl, rfl⟩ := hrel
      go_wp2_with fail
      go_ret
      exact ⟨_, rfl, OItems.nil _ _, HU1.out⟩
  · have HROW := Lib.hid hrow
    have HC3 := Lib.hid hc3
    have HG : Hid (w.heap.size ≤ g) := hg
    unfold maxLen at hc2
    clear hown u1 hrow hc3 hsz
    go_wp2_with fail
    go_loopw [4, 9] (fun _ i wr => CloneRel l.length g (itL l ++ sp) w i wr) (fun _ i _ => l.length - (intOf i).toNat)
    case atStart => exact ⟨0, Nat.zero_le _, rfl, HU1.out, HROW.out⟩
    case round =>
      obtain ⟨k, hk, rfl, hu, hr⟩ := hrel
      by_cases hlt : k < l.length
      · have d1 : decide (k < l.length) = true := decide_eq_true hlt
        obtain ⟨_, _, b3, _⟩ := itL_get l k hlt
        have a3 := hr.cell (get_app (sp := sp) b3)
        have hsame := set_same _ _ _ (get_app (sp := sp) b3)
        have HTK : Hid ((bs l[k].t).size ≤ 1000) := by
          show (bs l[k].t).size ≤ 1000
          have := HT.out l[k] (List.getElem_mem hlt)
          rw [bs_size]; omega
        obtain ⟨T, hT⟩ : ∃ T, bs l[k].t = T := ⟨_, rfl⟩
        have hb3 := get_app (sp := sp) b3
        rw [hT] at a3 hsame HTK hb3
        have HB3 := Lib.hid hb3
        clear hb3
        have HS := Lib.hid hsame
        have HR := Lib.hid hr
        have HU := Lib.hid hu
        clear hT hsame hr hu b3
        go_wp2_with fail
        refine (clone_str T _ HTK.out).mono ?_
        rintro e w2 ⟨rfl, u2⟩
        have hr2 := HR.out.up u2
        have hu2 := HU.out.trans u2
        have c2 := hr2.cell HB3.out
        have fz := hr2.frozen (k * 4 + 2)
        have hset := hr2.set (k * 4 + 2) (.string T)
        rw [HS.out] at hset
        have HSET := Lib.hid hset
        have HUP : Hid (Up w (w2.setCell ⟨g, k * 4 + 2, none⟩ (.string T))) := Below.setCell hu2 (p := ⟨g, k * 4 + 2, none⟩) HG.out _
        clear hr2 hu2 hset u2 HS HR a3
        go_wp2_with fail
        go_roundw
        case rel => exact ⟨k + 1, by omega, by go_num, HUP.out, HSET.out⟩
        case measure => simp only [intOf]; omega
      · have d1 : decide (k < l.length) = false := decide_eq_false hlt
        have HU := Lib.hid hu
        have HR := Lib.hid hr
        clear hu hr
        go_wp2_with fail
        go_ret
        exact ⟨_, rfl, OItems.mk HG.out HR.out hc1 (by unfold maxLen; omega) HC3.out, HU.out⟩

/-- what Put and its helpers leave: a new row, an identifier, an error -/
def PutPost (w : World) (R : List Itm × (Bool × Int × Int) × Int) (e : Ending) (w' : World) : Prop :=
  ∃ v', e = .returned (.tuple #[v', idV R.2.1, .int .i64 R.2.2]) ∧ OItems w' w.heap.size v' R.1 ∧ Up w w'

/-- what Put answers for a block that is there -/
def reuseV (l : List Itm) (k : Nat) : List Itm × (Bool × Int × Int) × Int :=
  if (l[k]!).r = 1000000 then ([], noId, 8) else (l.set k (more l[k]! 1), idOf l[k]!, 0)

set_option maxRecDepth 100000 in
set_option maxHeartbeats 1000000 in
theorem reuse_any (v : Value) (l : List Itm) (k : Nat) (w : World) (h : Items w v l) (hb : Bag FP l) (hk : k < l.length) :
    Calls Try.prog 71 #[v, .int .i64 (k : Int)] w (PutPost w (reuseV l k)) := by
  have hl := hb.len
  have hok := hb.ok _ (List.getElem_mem hk)
  have HC := Lib.hid (fun W (hW : Up w W) => clone_any v l W (h.up hW) hl (fun x hx => (hb.ok x hx).1))
  obtain ⟨R, hR⟩ : ∃ R, reuseV l k = R := ⟨_, rfl⟩
  rw [hR]
  unfold reuseV at hR
  rw [getElem!_pos l k hk] at hR
  obtain ⟨o, c, rfl, h2, h3, h4⟩ := h
  unfold maxLen at h3
  rcases h4 with h5 | ⟨b, off, rfl, h5⟩
  · rw [h5] at hk; simp at hk
  have a4 := (h5 k hk).2.2.2
  have r1 := hok.2.2.2.2.1
  have r2 := hok.2.2.2.2.2
  clear hok
  obtain ⟨r, hr⟩ : ∃ r, l[k].r = r := ⟨_, rfl⟩
  rw [hr] at a4 hR r1 r2
  have hbw := World.block_lt_of_cell? w _ a4
  have hbw' : b < w.heap.size := hbw
  have hne : b ≠ w.heap.size := by omega
  by_cases h0 : r = 1000000
  · subst h0
    rw [if_pos rfl] at hR
    subst hR
    clear h5 hb HC hr hbw
    go_enter Try.func71, Try.ntmps71
    go_wp2_with fail
    exact bodyPost_ret (v := .tuple #[.slice none 0 0, .agg #[.bool false, .int .i64 0, .int .i64 0], .int .i64 8]) (by simp [results, Try.results71, go_sem]) rfl ⟨_, rfl, OItems.nil _ _, Up.alloc _ _⟩
  · rw [if_neg h0] at hR
    have d0 : (r == 1000000) = false := by simpa using h0
    have HR := Lib.hid hR
    have HRR := Lib.hid hr
    have hidn := identifier_any (more l[k] 1)
    have hidv : idV (idOf (more l[k] 1)) = .agg #[.bool true, .int .i64 l[k].s, .int .i64 l[k].n] := rfl
    have hidv2 : idV (idOf l[k]) = .agg #[.bool true, .int .i64 l[k].s, .int .i64 l[k].n] := rfl
    have HI2 := Lib.hid hidv2
    have hitv : itV (more l[k] 1) = .agg #[.int .i64 l[k].s, .int .i64 l[k].n, .string (bs l[k].t), .int .i64 (l[k].r + 1)] := rfl
    simp only [hidv, hitv, hr] at hidn
    have hgets := itL_get l k hk
    have hsetR := itL_setR l k hk 1
    rw [hr] at hgets hsetR
    obtain ⟨L', hL'⟩ : ∃ L', l.set k (more l[k] 1) = L' := ⟨_, rfl⟩
    have hLl : L'.length = l.length := by rw [← hL', List.length_set]
    have hgets' := itL_get L' k (by omega)
    have hk' : L'[k]'(by omega) = more l[k] 1 := by subst hL'; rw [List.getElem_set_self]
    rw [hk'] at hgets'
    simp only [more, hr] at hgets'
    rw [hL'] at hR hsetR HR
    generalize l[k].s = xs at *
    generalize l[k].n = xn at *
    generalize bs l[k].t = xt at *
    have HID := Lib.hid hidn
    have HG1 := Lib.hid hgets
    have HG2 := Lib.hid hgets'
    have HSR := Lib.hid hsetR
    have HLL := Lib.hid hLl
    clear h5 hb hr hbw hR hidn hidv hidv2 hitv hgets hgets' hsetR hL' hLl hk' h0
    go_enter Try.func71, Try.ntmps71
    go_wp2_with fail
    refine (HC.out _ (Up.alloc _ _)).mono ?_
    rintro e w1 ⟨v', rfl, hown, u1⟩
    rcases hown.row with ⟨_, hnil⟩ | ⟨g, cap, sp, rfl, hg, hrow, hc1, hc2, hc3⟩
    · rw [hnil] at hk; simp at hk
    have hbx := BoxI.up (BoxI.new w 51 (.bool false) (.int .i64 0) (.int .i64 0)) u1
    have hgw : w.heap.size < g := by simp at hg; omega
    have hU1 := Up.after _ _ _ u1
    have c3 := hrow.cell (get_app (sp := sp) HG1.out.2.2.2)
    have fz := hrow.frozen (k * 4 + 3)
    obtain ⟨w2, hw2⟩ : ∃ w2, w1.setCell ⟨g, k * 4 + 3, none⟩ (.int .i64 (r + 1)) = w2 := ⟨_, rfl⟩
    have hrow2 := hrow.set (k * 4 + 3) (.int .i64 (r + 1))
    rw [List.set_append_left _ _ (by rw [itL_length]; omega), HSR.out, hw2] at hrow2
    have hU2 : Up w w2 := by rw [← hw2]; exact Below.setCell hU1 (p := ⟨g, k * 4 + 3, none⟩) (by show w.heap.size ≤ g; omega) _
    have hbx2 : BoxI w2 w.heap.size 51 (.bool false) (.int .i64 0) (.int .i64 0) := by
      rw [← hw2]
      unfold BoxI at hbx ⊢
      simp [World.setCell, Array.getElem?_modify, hbx, show g ≠ w.heap.size by omega]
    have e0 := hrow2.cell (get_app (sp := sp) HG2.out.1)
    have e1 := hrow2.cell (get_app (sp := sp) HG2.out.2.1)
    have e2 := hrow2.cell (get_app (sp := sp) HG2.out.2.2.1)
    have e3 := hrow2.cell (get_app (sp := sp) HG2.out.2.2.2)
    have HW2 := Lib.hid hw2
    have HROW2 := Lib.hid hrow2
    have HU2 := Lib.hid hU2
    have HBX2 := Lib.hid hbx2
    have HC3 := Lib.hid hc3
    have hwr : IntKind.i64.wrap (r + 1) = r + 1 := IntWalk.i64_in _ (by omega)
    unfold maxLen at hc2
    rw [← hw2] at e0 e1 e2 e3
    clear hown hrow hg u1 hU1 hrow2 hU2 hbx hbx2 hw2 hc3 HG1 HG2 HSR
    go_wp2_with fail
    rw [HW2.out]
    refine (HID.out w2).mono ?_
    rintro e w3 ⟨rfl, u3⟩
    have hbx3 := HBX2.out.up u3
    obtain ⟨z0, z1, z2⟩ := hbx3.cells
    have y0 := hbx3.frozen 0
    have y1 := hbx3.frozen 1
    have y2 := hbx3.frozen 2
    have hset := hbx3.set (.bool true) (.int .i64 xs) (.int .i64 xn)
    obtain ⟨w4, hw4⟩ : ∃ w4, ((w3.setCell ⟨w.heap.size, 0, none⟩ (.bool true)).setCell ⟨w.heap.size, 1, none⟩ (.int .i64 xs)).setCell ⟨w.heap.size, 2, none⟩ (.int .i64 xn) = w4 := ⟨_, rfl⟩
    rw [hw4] at hset
    obtain ⟨s0, s1, s2⟩ := hset.cells
    have HU4 : Hid (Up w w4) := by
      show Up w w4
      rw [← hw4]
      exact ((Below.setCell (HU2.out.trans u3) (p := ⟨w.heap.size, 0, none⟩) (Nat.le_refl _) _).setCell (p := ⟨w.heap.size, 1, none⟩) (Nat.le_refl _) _).setCell (p := ⟨w.heap.size, 2, none⟩) (Nat.le_refl _) _
    have HROW4 : Hid (RowI w4 g (itL L' ++ sp)) := by
      show RowI w4 g (itL L' ++ sp)
      have h3 := HROW2.out.up u3
      rw [← hw4]
      unfold RowI at h3 ⊢
      simp [World.setCell, Array.getElem?_modify, h3, show w.heap.size ≠ g by omega]
    have HW4 := Lib.hid hw4
    clear hw4 hset hbx3 u3 e0 e1 e2 e3
    go_wp2_with fail
    rw [HW4.out]
    have hRe := HR.out
    have hll := HLL.out
    exact bodyPost_ret (v := .tuple #[.slice (some ⟨g, 0, none⟩) l.length cap, .agg #[.bool true, .int .i64 xs, .int .i64 xn], .int .i64 0]) (by simp [results, Try.results71, go_sem, s0, s1, s2]) rfl
      ⟨_, by rw [← hRe, HI2.out], by rw [← hRe]; simp only; rw [← hll]; exact OItems.mk (by omega) HROW4.out (by omega) (by unfold maxLen; omega) (by rw [hll]; exact HC3.out), HU4.out⟩

end Go.Proofs.Ytnmdfdkagkpcaaa

/-
  slices.Clone of volumes; what state.Clone returns: a state of the call's own, each volume's blocks in a row of its own. Conditions: as each says.
-/
namespace Go.Proofs.Ytnmdfdkagkpcaaa
open Go.RowKit
open Go.Proofs
open WoolBag
open WoolVol

theorem volInfo : (Try.prog.info? 62).map (fun i => (i.zero, i.size, i.bytes)) = some (some (.agg #[.string ⟨#[]⟩, .slice none 0 0]), 2, 40) := by kernel_rfl

theorem volInfo' : ∃ i, Try.prog.info? 62 = some i ∧ i.zero = some (.agg #[.string ⟨#[]⟩, .slice none 0 0]) ∧ i.size = 2 ∧ i.bytes = 40 := by
  have h := volInfo
  cases hq : Try.prog.info? 62 with
  | none => rw [hq] at h; cases h
  | some i =>
    rw [hq] at h
    simp only [Option.map_some, Option.some.injEq, Prod.mk.injEq] at h
    exact ⟨i, rfl, h.1, h.2.1, h.2.2⟩

/-- volumes in a row of the call's own -/
def OVC (w : World) (base : Nat) (v : Value) (C : List VC) : Prop := w.ownsRow base 62 2 v C.length (fl vcC C)

theorem OVC.vcs {w : World} {base : Nat} {v : Value} {C : List VC} (h : OVC w base v C) : VCs w v C := Sl.of_own h

theorem own_up {w w' : World} {base T m n : Nat} {v : Value} {L : List Value} (h : w.ownsRow base T m v n L) (hu : Up w w') : w'.ownsRow base T m v n L := by
  refine World.ownsRow.kept h (grown_up hu none) ?_
  cases v.ownBlock with
  | none => exact .inl rfl
  | some b => exact .inr (by simp)

theorem own_base {w : World} {base base' T m n : Nat} {v : Value} {L : List Value} (h : w.ownsRow base T m v n L) (hb : base' ≤ base) : w.ownsRow base' T m v n L := by
  refine ⟨h.1, ?_⟩
  rcases h.2 with h | ⟨g, cap, cur, h1, h2, h3⟩
  · exact .inl h
  · exact .inr ⟨g, cap, cur, h1, by omega, h3⟩

def VCPost (w : World) (C : List VC) (e : Ending) (w' : World) : Prop := ∃ v', e = .returned v' ∧ OVC w' w.heap.size v' C ∧ Up w w'

set_option maxRecDepth 100000 in
set_option maxHeartbeats 1000000 in
theorem cloneV_any (v : Value) (C : List VC) (w : World) (h : VCs w v C) (hone : ∀ u ∈ fl vcC C, u.oneCell' = true) (hl : C.length ≤ 6) :
    Calls Try.prog 58 #[v] w (VCPost w C) := by
  obtain ⟨i0, hi, hz0, hz1, hz2⟩ := volInfo'
  obtain ⟨o, c, rfl, _, h3⟩ := Sl.slice h
  unfold maxLen at h3
  have q22 : ∀ (w : World) (a : Option Addr) (n c n' c' : Nat), (binOp .eql 29 (.slice a n c) (.slice none n' c')).run Try.prog w = .ok (.bool a.isNone) w := fun w a n c n' c' => Lib.run_eql_slice_nil w _ _ a n c n' c' Try.underlying29
  cases o with
  | none =>
    have hn : C = [] := by
      by_cases e : C = []
      · exact e
      · obtain ⟨b, off, h1, _⟩ := VCs.at h e; cases h1
    subst hn
    clear h
    go_enter Try.func58, Try.ntmps58
    go_wp2
    go_ret
    exact ⟨_, rfl, World.ownsRow_nil _ _ _ _, Up.refl _⟩
  | some ad =>
    have hcl : Hid (∀ j u, (fl vcC C)[j]? = some u → w.cell? (ad.add j) = some u) := by
      intro j u hj
      have hne : C ≠ [] := by rintro rfl; simp [fl] at hj
      obtain ⟨b, off, sp⟩ := ad
      obtain ⟨b', off', h5, h6⟩ := Sl.cells h (by intro e; exact hne (List.eq_nil_of_length_eq_zero e))
      cases h5
      rw [add_off]
      exact h6 j u hj
    have HONE := Lib.hid hone
    clear h hone
    go_enter Try.func58, Try.ntmps58
    go_wp2_with (at_builtin; refine wpList_append_own _ rfl _ _ 29 rfl w.heap.size 62 i0 _ 2 40 Try.underlying29 hi hz0 hz1 hz2 rfl (by omega) _ _ _ rfl (World.ownsRow_made w #[] 0 (Nat.le_refl _) (Nat.zero_le _) (by simp)) ad C.length c (fl vcC C) rfl ?qc1 ?qc2 ?qc3 ?qc4 ?qc5 ?qc6 ?_)
    case qc1 => exact fl_length vcC_len C
    case qc2 =>
      intro j u hj
      exact Lib.cell?_alloc_some _ (hcl.out j u hj)
    case qc3 => exact HONE.out
    case qc4 => unfold maxLen; omega
    case qc5 => omega
    case qc6 => simp
    intro v' w1 hown hgrow hnil
    have HO : Hid (OVC w1 w.heap.size v' C) := by
      show OVC w1 w.heap.size v' C
      unfold OVC
      simpa using hown
    have HU : Hid (Up w w1) := ((Below.refl _ w).alloc (Nat.le_refl _) _).grown hgrow (by simp) (by intro k hk; simp [Value.ownBlock] at hk; omega)
    clear hown hgrow hnil hcl
    go_wp2
    go_ret
    exact ⟨v', rfl, HO.out, HU.out⟩

/-- volumes whose blocks lie in rows of the call's own, each in another -/
structure ORd (w : World) (base : Nat) (C : List VC) (l : List Vo) : Prop where
  len : C.length = l.length
  nm : ∀ k (h : k < l.length), (C[k]'(by omega)).nm = l[k].nm
  bl : ∀ k (h : k < l.length), OIds w base (C[k]'(by omega)).sl l[k].bl
  apart : ∀ j k (hj : j < l.length) (hk : k < l.length) b, j ≠ k → (C[j]'(by omega)).sl.ownBlock = some b → (C[k]'(by omega)).sl.ownBlock ≠ some b

theorem ORd.rd {w : World} {base : Nat} {C : List VC} {l : List Vo} (h : ORd w base C l) : Rd w C l := ⟨h.len, h.nm, fun k hk => (h.bl k hk).ids⟩
theorem ORd.up {w w' : World} {base : Nat} {C : List VC} {l : List Vo} (h : ORd w base C l) (hu : Up w w') : ORd w' base C l := ⟨h.len, h.nm, fun k hk => own_up (h.bl k hk) hu, h.apart⟩
theorem ORd.base {w : World} {base base' : Nat} {C : List VC} {l : List Vo} (h : ORd w base C l) (hb : base' ≤ base) : ORd w base' C l := ⟨h.len, h.nm, fun k hk => own_base (h.bl k hk) hb, h.apart⟩

/-- volumes of the call's own -/
def OVols (w : World) (base : Nat) (v : Value) (l : List Vo) : Prop := ∃ C, OVC w base v C ∧ ORd w base C l

theorem OVols.vols {w : World} {base : Nat} {v : Value} {l : List Vo} (h : OVols w base v l) : Vols w v l := by
  obtain ⟨C, h1, h2⟩ := h
  exact ⟨C, h1.vcs, h2.rd⟩
theorem OVols.up {w w' : World} {base : Nat} {v : Value} {l : List Vo} (h : OVols w base v l) (hu : Up w w') : OVols w' base v l := by
  obtain ⟨C, h1, h2⟩ := h
  exact ⟨C, own_up h1 hu, h2.up hu⟩
theorem OVols.base {w : World} {base base' : Nat} {v : Value} {l : List Vo} (h : OVols w base v l) (hb : base' ≤ base) : OVols w base' v l := by
  obtain ⟨C, h1, h2⟩ := h
  exact ⟨C, own_base h1 hb, h2.base hb⟩

/-- a state of the call's own -/
def OSt (w : World) (base : Nat) (v : Value) (st : Sta) : Prop := ∃ vb vv, v = .agg #[vb, vv] ∧ OItems w base vb st.b ∧ OVols w base vv st.v

theorem OSt.stat {w : World} {base : Nat} {v : Value} {st : Sta} (h : OSt w base v st) : Stat w v st := by
  obtain ⟨vb, vv, rfl, h1, h2⟩ := h
  exact ⟨vb, vv, rfl, h1.items, h2.vols⟩
theorem OSt.up {w w' : World} {base : Nat} {v : Value} {st : Sta} (h : OSt w base v st) (hu : Up w w') : OSt w' base v st := by
  obtain ⟨vb, vv, rfl, h1, h2⟩ := h
  exact ⟨vb, vv, rfl, h1.up hu, h2.up hu⟩
theorem OSt.base {w : World} {base base' : Nat} {v : Value} {st : Sta} (h : OSt w base v st) (hb : base' ≤ base) : OSt w base' v st := by
  obtain ⟨vb, vv, rfl, h1, h2⟩ := h
  exact ⟨vb, vv, rfl, h1.base hb, h2.base hb⟩
theorem OSt.zero (w : World) (base : Nat) : OSt w base zeroV zeroS := ⟨_, _, rfl, OItems.nil w base, ⟨[], World.ownsRow_nil w base _ _, ⟨rfl, fun k h => absurd h (by simp [zeroS]), fun k h => absurd h (by simp [zeroS]), fun j _ h => absurd h (by simp [zeroS])⟩⟩⟩

def StPost (w : World) (st : Sta) (e : Ending) (w' : World) : Prop := ∃ v', e = .returned v' ∧ OSt w' w.heap.size v' st ∧ Up w w'

end Go.Proofs.Ytnmdfdkagkpcaaa
