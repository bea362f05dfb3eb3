/-
  slices.Clone of records and of segments, clone of package seg: segments of the call's own. Conditions: as each says.
-/
import Derived.Test.YtabhalajelbfoaaSegB
import Derived.Test.YtabhalajelbfoaaClone
import Derived.Deep.RegionHeld3
namespace Go.Proofs.Ytabhalajelbfoaa
open Go.RowKit
open Go.Proofs
open WoolBag
open WoolSeg

theorem add_offS (b off k : Nat) : (⟨b, off, none⟩ : Addr).add k = ⟨b, off + k, none⟩ := by
  unfold Addr.add
  split
  · rename_i e; subst e; rfl
  · rfl

theorem lset_same : ∀ (L : List Value) (j : Nat) (v : Value), L[j]? = some v → L.set j v = L
  | [], _, _, _ => rfl
  | x :: r, 0, v, h => by simp at h; simp [h]
  | x :: r, j + 1, v, h => by rw [List.set_cons_succ, lset_same r j v (by simpa using h)]

/-- what is set as it stood changes nothing -/
theorem RowC.same {w : World} {g T j : Nat} {L : List Value} {v : Value} (h : RowC w g T L) (hj : L[j]? = some v) : w.setCell ⟨g, j, none⟩ v = w := by
  have e : (w.setCell ⟨g, j, none⟩ v).heap = w.heap := by
    apply Array.ext_getElem?
    intro i
    by_cases hi : i = g
    · subst hi
      have h2 := h.set j v
      rw [lset_same L j v hj] at h2
      exact h2.trans h.symm
    · exact Below.heap_setCell w ⟨g, j, none⟩ v i hi
  cases w
  unfold World.setCell at e ⊢
  simp only at e ⊢
  rw [e]

theorem grown_setS (w : World) (g i : Nat) (x : Value) : w.grownBy (w.setCell ⟨g, i, none⟩ x) (some g) :=
  ⟨rfl, rfl, rfl, by simp, fun k _ hk => Below.heap_setCell w ⟨g, i, none⟩ x k (fun e => hk (by rw [e]))⟩

theorem own_setS {w : World} {base T m n g i : Nat} {v x : Value} {L : List Value} (h : w.ownsRow base T m v n L) (hne : v.ownBlock ≠ some g) : (w.setCell ⟨g, i, none⟩ x).ownsRow base T m v n L :=
  World.ownsRow.kept h (grown_setS w g i x) (.inr hne)

/-- a row of another type lies elsewhere -/
theorem own_apartS {w : World} {base T m n g T' : Nat} {v : Value} {L L' : List Value} (h : w.ownsRow base T m v n L) (hr : RowC w g T' L') (hT : T ≠ T') : v.ownBlock ≠ some g := by
  rcases own_row h with ⟨rfl, _, _⟩ | ⟨g', cap, sp, rfl, _, h2, _⟩
  · intro e; cases e
  · intro e
    cases e
    exact (RowC.apart h2 hr hT) rfl

theorem own_grownS {w w' : World} {base T m n : Nat} {v : Value} {L : List Value} {row : Option Nat} (h : w.ownsRow base T m v n L) (hg : w.grownBy w' row) (hne : ∀ b, v.ownBlock = some b → row ≠ some b) : w'.ownsRow base T m v n L := by
  refine ⟨h.1, ?_⟩
  rcases h.2 with h' | ⟨g, cap, cur, rfl, h2, h3, h4⟩
  · exact .inl h'
  · refine .inr ⟨g, cap, cur, rfl, h2, ?_, h4⟩
    rw [← h3]; exact hg.block g (World.ownsRow.lt h g rfl).2 (fun e => hne g rfl e.symm)

def RsPost (w : World) (s : List Rc) (e : Ending) (w' : World) : Prop := ∃ v', e = .returned v' ∧ ORecs w' w.heap.size v' s ∧ Up w w'

set_option maxRecDepth 100000 in
set_option maxHeartbeats 1000000 in
theorem cloneR_any (v : Value) (s : List Rc) (w : World) (h : Recs w v s) (hl : s.length * 40 ≤ 140737488351232) :
    Calls Try.prog 49 #[v] w (RsPost w s) := by
  obtain ⟨i0, hi, hz0, hz1, hz2⟩ := rcInfo'
  have HX := Lib.hid h
  obtain ⟨o, c, rfl, h3, h3'⟩ := h.slice
  have q22 : ∀ (w : World) (a : Option Addr) (n c n' c' : Nat), (binOp .eql 45 (.slice a n c) (.slice none n' c')).run Try.prog w = .ok (.bool a.isNone) w := fun w a n c n' c' => Lib.run_eql_slice_nil w _ _ a n c n' c' Try.underlying45
  cases o with
  | none =>
    have hn : s = [] := by
      by_cases e : s = []
      · exact e
      · obtain ⟨b, off, e2, _⟩ := h.at e
        cases e2
    subst hn
    clear h
    go_enter Try.func49, Try.ntmps49
    go_wp2
    go_ret
    exact ⟨_, rfl, World.ownsRow_nil _ _ _ _, Up.refl _⟩
  | some ad =>
    have hcl : Hid (∀ j u, (fl rcC s)[j]? = some u → w.cell? (ad.add j) = some u) := by
      intro j u hj
      have hne : s.length ≠ 0 := by
        intro e
        have e2 := List.eq_nil_of_length_eq_zero e
        subst e2
        simp [fl] at hj
      obtain ⟨b, off, e, hc⟩ := Sl.cells (show Sl w 4 (.slice (some ad) s.length c) s.length (fl rcC s) from HX.out) hne
      cases e
      rw [add_offS]
      exact hc j u hj
    have hlen := fl_length (f := rcC) rcC_len s
    clear h HX
    go_enter Try.func49, Try.ntmps49
    go_wp2_with (at_builtin; refine wpList_append_own _ rfl _ _ 45 rfl w.heap.size 36 i0 _ 4 40 Try.underlying45 hi hz0 hz1 hz2 rfl (by omega) _ _ _ rfl (World.ownsRow_made w #[] 0 (Nat.le_refl _) (Nat.zero_le _) (by simp)) ad s.length c (fl rcC s) rfl ?qc1 ?qc2 ?qc3 ?qc4 ?qc5 ?qc6 ?_)
    case qc1 => exact hlen
    case qc2 =>
      intro j u hj
      exact Lib.cell?_alloc_some _ (hcl.out j u hj)
    case qc3 => exact fl_one rcC_one s
    case qc4 => unfold maxLen; omega
    case qc5 => omega
    case qc6 => simp
    intro v' w1 hown hgrow hnil
    have HO : Hid (ORecs w1 w.heap.size v' s) := by
      show ORecs w1 w.heap.size v' s
      unfold ORecs
      simpa using hown
    have HU : Hid (Up w w1) := ((Below.refl _ w).alloc (Nat.le_refl _) _).grown hgrow (by simp) (by intro k hk; simp [Value.ownBlock] at hk; omega)
    clear hown hgrow hnil hcl
    go_wp2
    go_ret
    exact ⟨v', rfl, HO.out, HU.out⟩

def SlPost (w : World) (C : List Value) (e : Ending) (w' : World) : Prop := ∃ v', e = .returned v' ∧ OSl w' w.heap.size v' C ∧ Up w w'

set_option maxRecDepth 100000 in
set_option maxHeartbeats 1000000 in
theorem cloneL_any (v : Value) (C : List Value) (w : World) (h : Sl w 1 v C.length C) (hone : ∀ u ∈ C, u.oneCell' = true) (hl : C.length ≤ 1000000000000) :
    Calls Try.prog 48 #[v] w (SlPost w C) := by
  obtain ⟨i0, hi, hz0, hz1, hz2⟩ := sgInfo'
  obtain ⟨o, c, rfl, h3, h3'⟩ := Sl.slice h
  have q22 : ∀ (w : World) (a : Option Addr) (n c n' c' : Nat), (binOp .eql 26 (.slice a n c) (.slice none n' c')).run Try.prog w = .ok (.bool a.isNone) w := fun w a n c n' c' => Lib.run_eql_slice_nil w _ _ a n c n' c' Try.underlying26
  cases o with
  | none =>
    have hn : C = [] := by
      by_cases e : C.length = 0
      · exact List.eq_nil_of_length_eq_zero e
      · obtain ⟨b, off, h1, _⟩ := Sl.cells h e; cases h1
    subst hn
    clear h
    go_enter Try.func48, Try.ntmps48
    go_wp2
    go_ret
    exact ⟨_, rfl, World.ownsRow_nil _ _ _ _, Up.refl _⟩
  | some ad =>
    have hcl : Hid (∀ j u, C[j]? = some u → w.cell? (ad.add j) = some u) := by
      intro j u hj
      have hne : C.length ≠ 0 := by
        intro e
        have e2 := List.eq_nil_of_length_eq_zero e
        subst e2
        simp at hj
      obtain ⟨b, off, e, hc⟩ := Sl.cells h hne
      cases e
      rw [add_offS]
      exact hc j u hj
    have HONE := Lib.hid hone
    clear h hone
    go_enter Try.func48, Try.ntmps48
    go_wp2_with (at_builtin; refine wpList_append_own _ rfl _ _ 26 rfl w.heap.size 45 i0 _ 1 24 Try.underlying26 hi hz0 hz1 hz2 rfl (by omega) _ _ _ rfl (World.ownsRow_made w #[] 0 (Nat.le_refl _) (Nat.zero_le _) (by simp)) ad C.length c C rfl ?qc1 ?qc2 ?qc3 ?qc4 ?qc5 ?qc6 ?_)
    case qc1 => rw [Nat.mul_one]
    case qc2 =>
      intro j u hj
      exact Lib.cell?_alloc_some _ (hcl.out j u hj)
    case qc3 => exact HONE.out
    case qc4 => unfold maxLen; omega
    case qc5 => omega
    case qc6 => simp
    intro v' w1 hown hgrow hnil
    have HO : Hid (OSl w1 w.heap.size v' C) := by
      show OSl w1 w.heap.size v' C
      unfold OSl
      simpa using hown
    have HU : Hid (Up w w1) := ((Below.refl _ w).alloc (Nat.le_refl _) _).grown hgrow (by simp) (by intro k hk; simp [Value.ownBlock] at hk; omega)
    clear hown hgrow hnil hcl
    go_wp2
    go_ret
    exact ⟨v', rfl, HO.out, HU.out⟩

/-! ytabhalajelbfoaa# clone -/

structure SgI (l : List (List Rc)) (C : List Value) (W0 : World) (g : Nat) (sp : List Value) (k : Nat) (C' : List Value) (wr : World) : Prop where
  len : C'.length = l.length
  row : RowC wr g 45 (C' ++ sp)
  own : ∀ j (h : j < l.length), j < k → ORecs wr W0.heap.size (C'[j]'(by omega)) l[j]
  apart : ∀ j i (hj : j < l.length) (hi : i < l.length) b, j < k → i < k → j ≠ i → (C'[j]'(by omega)).ownBlock = some b → (C'[i]'(by omega)).ownBlock ≠ some b
  rest : ∀ j, j < l.length → k ≤ j → C'[j]? = C[j]?
  up : Up W0 wr

theorem SgI.step {l : List (List Rc)} {C : List Value} {W0 : World} {g : Nat} {sp : List Value} {k : Nat} {C' : List Value} {wr wF : World} {u : Value} (h : SgI l C W0 g sp k C' wr) (hk : k < l.length) (hg : W0.heap.size ≤ g)
    (hF : Up wr wF) (hu : ORecs wF wr.heap.size u l[k]) :
    SgI l C W0 g sp (k + 1) (C'.set k u) (wF.setCell ⟨g, k, none⟩ u) := by
  have hrF := h.row.up hF
  have hlen := h.len
  have hb0 : W0.heap.size ≤ wr.heap.size := h.up.size
  have hset : ∀ {base n : Nat} {v : Value} {L : List Value}, wF.ownsRow base 36 4 v n L → (wF.setCell ⟨g, k, none⟩ u).ownsRow base 36 4 v n L := by
    intro base n v L ho
    exact own_setS ho (own_apartS ho hrF rec_ne_seg)
  refine ⟨by rw [List.length_set]; exact hlen, ?_, ?_, ?_, ?_, ?_⟩
  · have := hrF.set k u
    rwa [List.set_append_left _ _ (by omega)] at this
  · intro j hj hjk
    by_cases e : j = k
    · subst e
      rw [List.getElem_set_self]
      exact hset (own_baseS hu hb0)
    · rw [List.getElem_set_ne (Ne.symm e)]
      exact hset ((h.own j hj (by omega)).up hF)
  · intro j i hj hi b hjk hik hne hb
    by_cases e : j = k
    · subst e
      rw [List.getElem_set_self] at hb
      rw [List.getElem_set_ne hne]
      intro hb2
      have h1 := (World.ownsRow.lt hu b hb).1
      have h2 := (World.ownsRow.lt (h.own i hi (by omega)) b hb2).2
      omega
    · rw [List.getElem_set_ne (Ne.symm e)] at hb
      by_cases e2 : i = k
      · subst e2
        rw [List.getElem_set_self]
        intro hb2
        have h1 := (World.ownsRow.lt hu b hb2).1
        have h2 := (World.ownsRow.lt (h.own j hj (by omega)) b hb).2
        omega
      · rw [List.getElem_set_ne (Ne.symm e2)]
        exact h.apart j i hj hi b (by omega) (by omega) hne hb
  · intro j hj hjk
    rw [List.getElem?_set_ne (by omega)]
    exact h.rest j hj (by omega)
  · exact Below.setCell (show Below W0.heap.size W0 wF from h.up.trans hF) (p := ⟨g, k, none⟩) hg _

theorem SgI.ups {l : List (List Rc)} {C : List Value} {W0 : World} {g : Nat} {sp : List Value} {k : Nat} {C' : List Value} {wr wF : World} (h : SgI l C W0 g sp k C' wr) (hF : Up wr wF) : SgI l C W0 g sp k C' wF :=
  ⟨h.len, h.row.up hF, fun j hj hjk => (h.own j hj hjk).up hF, h.apart, h.rest, h.up.trans hF⟩

/-- the row of segments, as it lies -/
def SgRow (v1 : Value) (n base g cap : Nat) (sp : List Value) : Prop := v1 = .slice (some ⟨g, 0, none⟩) n cap ∧ base ≤ g ∧ n ≤ cap ∧ cap ≤ maxLen ∧ n * 1 + sp.length = cap * 1

theorem SgI.done {l : List (List Rc)} {C : List Value} {W0 : World} {g cap : Nat} {sp : List Value} {C' : List Value} {wr : World} {v1 : Value} (h : SgI l C W0 g sp l.length C' wr) (hr : SgRow v1 l.length W0.heap.size g cap sp) : OSgs wr W0.heap.size v1 l := by
  obtain ⟨rfl, h2, h3, h4, h5⟩ := hr
  refine ⟨C', ?_, ⟨h.len, fun k hk => h.own k hk hk, fun j k hj hk b hne => h.apart j k hj hk b hj hk hne⟩⟩
  have := own_mk (m := 1) (n := l.length) h2 h.row (by rw [Nat.mul_one, h.len]) h3 h4 h5
  unfold OSl
  rw [h.len]
  exact this

def SgRel (l : List (List Rc)) (C : List Value) (W0 : World) (v1 i : Value) (wr : World) : Prop :=
  ∃ k : Nat, k ≤ l.length ∧ i = .int .i64 (k : Int) ∧ Up W0 wr ∧ (k = l.length → OSgs wr W0.heap.size v1 l) ∧ (k < l.length → ∃ C' g cap sp, SgRow v1 l.length W0.heap.size g cap sp ∧ SgI l C W0 g sp k C' wr)

theorem SgRel.start {l : List (List Rc)} {C : List Value} {W0 w1 : World} {v1 : Value} (hl : C.length = l.length) (ho : OSl w1 W0.heap.size v1 C) (hu : Up W0 w1) : SgRel l C W0 v1 (.int .i64 ((0 : Nat) : Int)) w1 := by
  refine ⟨0, Nat.zero_le _, rfl, hu, fun h0 => ?_, fun hlt => ?_⟩
  · refine ⟨C, ho, ⟨hl, fun k hk => absurd hk (by omega), fun j k hj => absurd hj (by omega)⟩⟩
  · rcases own_row ho with ⟨_, h1, _⟩ | ⟨g, cap, sp, h1, h2, h3, h4, h5, h6⟩
    · omega
    · rw [hl] at h1 h4 h6
      exact ⟨C, g, cap, sp, ⟨h1, h2, h4, h5, h6⟩, ⟨hl, h3, fun j _ hj => absurd hj (by omega), fun j _ _ _ _ hj => absurd hj (by omega), fun _ _ _ => rfl, hu⟩⟩

theorem SgRel.next {l : List (List Rc)} {C : List Value} {W0 wr : World} {v1 : Value} {g cap k : Nat} {sp : List Value} {C' : List Value} (h : SgI l C W0 g sp (k + 1) C' wr) (hr : SgRow v1 l.length W0.heap.size g cap sp) (hk : k < l.length) : SgRel l C W0 v1 (.int .i64 (((k + 1 : Nat)) : Int)) wr := by
  refine ⟨k + 1, by omega, rfl, h.up, fun e => ?_, fun _ => ⟨_, g, cap, sp, hr, h⟩⟩
  rw [e] at h
  exact h.done hr

def SgPost (w : World) (l : List (List Rc)) (e : Ending) (w' : World) : Prop := ∃ v', e = .returned v' ∧ OSgs w' w.heap.size v' l ∧ Up w w'

end Go.Proofs.Ytabhalajelbfoaa
