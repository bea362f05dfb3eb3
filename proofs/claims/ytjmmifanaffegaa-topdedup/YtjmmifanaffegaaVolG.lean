/-
  slices.Clone of volumes; what state.Clone returns: a state of the call's own, each volume's blocks in a row of its own. Conditions: as each says.
-/
import Derived.Test.YtjmmifanaffegaaVolF
import Derived.Test.YtjmmifanaffegaaBag7
namespace Go.Proofs.Ytjmmifanaffegaa
open Go.RowKit
open Go.Proofs
open WoolBag
open WoolVol

theorem volInfo : (Try.prog.info? 51).map (fun i => (i.zero, i.size, i.bytes)) = some (some (.agg #[.string ⟨#[]⟩, .slice none 0 0]), 2, 40) := by kernel_rfl

theorem volInfo' : ∃ i, Try.prog.info? 51 = some i ∧ i.zero = some (.agg #[.string ⟨#[]⟩, .slice none 0 0]) ∧ i.size = 2 ∧ i.bytes = 40 := by
  have h := volInfo
  cases hq : Try.prog.info? 51 with
  | none => rw [hq] at h; cases h
  | some i =>
    rw [hq] at h
    simp only [Option.map_some, Option.some.injEq, Prod.mk.injEq] at h
    exact ⟨i, rfl, h.1, h.2.1, h.2.2⟩

/-- volumes in a row of the call's own -/
def OVC (w : World) (base : Nat) (v : Value) (C : List VC) : Prop := w.ownsRow base 51 2 v C.length (fl vcC C)

theorem OVC.vcs {w : World} {base : Nat} {v : Value} {C : List VC} (h : OVC w base v C) : VCs w v C := Sl.of_own h

theorem own_up {w w' : World} {base T m n : Nat} {v : Value} {L : List Value} (h : w.ownsRow base T m v n L) (hu : Up w w') : w'.ownsRow base T m v n L := by
  refine World.ownsRow.kept h (grown_up hu none) ?_
  cases v.ownBlock with
  | none => exact .inl rfl
  | some b => exact .inr (by simp)

theorem own_base {w : World} {base base' T m n : Nat} {v : Value} {L : List Value} (h : w.ownsRow base T m v n L) (hb : base' ≤ base) : w.ownsRow base' T m v n L := by
  refine ⟨h.1, ?_⟩
  rcases h.2 with h | ⟨g, cap, cur, h1, h2, h3⟩
  · exact .inl h
  · exact .inr ⟨g, cap, cur, h1, by omega, h3⟩

def VCPost (w : World) (C : List VC) (e : Ending) (w' : World) : Prop := ∃ v', e = .returned v' ∧ OVC w' w.heap.size v' C ∧ Up w w'

set_option maxRecDepth 100000 in
set_option maxHeartbeats 1000000 in
theorem cloneV_any (v : Value) (C : List VC) (w : World) (h : VCs w v C) (hone : ∀ u ∈ fl vcC C, u.oneCell' = true) (hl : C.length ≤ 6) :
    Calls Try.prog 44 #[v] w (VCPost w C) := by
  obtain ⟨i0, hi, hz0, hz1, hz2⟩ := volInfo'
  obtain ⟨o, c, rfl, _, h3⟩ := Sl.slice h
  unfold maxLen at h3
  have q22 : ∀ (w : World) (a : Option Addr) (n c n' c' : Nat), (binOp .eql 24 (.slice a n c) (.slice none n' c')).run Try.prog w = .ok (.bool a.isNone) w := fun w a n c n' c' => Lib.run_eql_slice_nil w _ _ a n c n' c' Try.underlying24
  cases o with
  | none =>
    have hn : C = [] := by
      by_cases e : C = []
      · exact e
      · obtain ⟨b, off, h1, _⟩ := VCs.at h e; cases h1
    subst hn
    clear h
    go_enter Try.func44, Try.ntmps44
    go_wp2
    go_ret
    exact ⟨_, rfl, World.ownsRow_nil _ _ _ _, Up.refl _⟩
  | some ad =>
    have hcl : Hid (∀ j u, (fl vcC C)[j]? = some u → w.cell? (ad.add j) = some u) := by
      intro j u hj
      have hne : C ≠ [] := by rintro rfl; simp [fl] at hj
      obtain ⟨b, off, sp⟩ := ad
      obtain ⟨b', off', h5, h6⟩ := Sl.cells h (by intro e; exact hne (List.eq_nil_of_length_eq_zero e))
      cases h5
      rw [add_off]
      exact h6 j u hj
    have HONE := Lib.hid hone
    clear h hone
    go_enter Try.func44, Try.ntmps44
    go_wp2_with (at_builtin; refine wpList_append_own _ rfl _ _ 24 rfl w.heap.size 51 i0 _ 2 40 Try.underlying24 hi hz0 hz1 hz2 rfl (by omega) _ _ _ rfl (World.ownsRow_made w #[] 0 (Nat.le_refl _) (Nat.zero_le _) (by simp)) ad C.length c (fl vcC C) rfl ?qc1 ?qc2 ?qc3 ?qc4 ?qc5 ?qc6 ?_)
    case qc1 => exact fl_length vcC_len C
    case qc2 =>
      intro j u hj
      exact Lib.cell?_alloc_some _ (hcl.out j u hj)
    case qc3 => exact HONE.out
    case qc4 => unfold maxLen; omega
    case qc5 => omega
    case qc6 => simp
    intro v' w1 hown hgrow hnil
    have HO : Hid (OVC w1 w.heap.size v' C) := by
      show OVC w1 w.heap.size v' C
      unfold OVC
      simpa using hown
    have HU : Hid (Up w w1) := ((Below.refl _ w).alloc (Nat.le_refl _) _).grown hgrow (by simp) (by intro k hk; simp [Value.ownBlock] at hk; omega)
    clear hown hgrow hnil hcl
    go_wp2
    go_ret
    exact ⟨v', rfl, HO.out, HU.out⟩

/-- volumes whose blocks lie in rows of the call's own, each in another -/
structure ORd (w : World) (base : Nat) (C : List VC) (l : List Vo) : Prop where
  len : C.length = l.length
  nm : ∀ k (h : k < l.length), (C[k]'(by omega)).nm = l[k].nm
  bl : ∀ k (h : k < l.length), OIds w base (C[k]'(by omega)).sl l[k].bl
  apart : ∀ j k (hj : j < l.length) (hk : k < l.length) b, j ≠ k → (C[j]'(by omega)).sl.ownBlock = some b → (C[k]'(by omega)).sl.ownBlock ≠ some b

theorem ORd.rd {w : World} {base : Nat} {C : List VC} {l : List Vo} (h : ORd w base C l) : Rd w C l := ⟨h.len, h.nm, fun k hk => (h.bl k hk).ids⟩
theorem ORd.up {w w' : World} {base : Nat} {C : List VC} {l : List Vo} (h : ORd w base C l) (hu : Up w w') : ORd w' base C l := ⟨h.len, h.nm, fun k hk => own_up (h.bl k hk) hu, h.apart⟩
theorem ORd.base {w : World} {base base' : Nat} {C : List VC} {l : List Vo} (h : ORd w base C l) (hb : base' ≤ base) : ORd w base' C l := ⟨h.len, h.nm, fun k hk => own_base (h.bl k hk) hb, h.apart⟩

/-- volumes of the call's own -/
def OVols (w : World) (base : Nat) (v : Value) (l : List Vo) : Prop := ∃ C, OVC w base v C ∧ ORd w base C l

theorem OVols.vols {w : World} {base : Nat} {v : Value} {l : List Vo} (h : OVols w base v l) : Vols w v l := by
  obtain ⟨C, h1, h2⟩ := h
  exact ⟨C, h1.vcs, h2.rd⟩
theorem OVols.up {w w' : World} {base : Nat} {v : Value} {l : List Vo} (h : OVols w base v l) (hu : Up w w') : OVols w' base v l := by
  obtain ⟨C, h1, h2⟩ := h
  exact ⟨C, own_up h1 hu, h2.up hu⟩
theorem OVols.base {w : World} {base base' : Nat} {v : Value} {l : List Vo} (h : OVols w base v l) (hb : base' ≤ base) : OVols w base' v l := by
  obtain ⟨C, h1, h2⟩ := h
  exact ⟨C, own_base h1 hb, h2.base hb⟩

/-- a state of the call's own -/
def OSt (w : World) (base : Nat) (v : Value) (st : Sta) : Prop := ∃ vb vv, v = .agg #[vb, vv] ∧ OItems w base vb st.b ∧ OVols w base vv st.v

theorem OSt.stat {w : World} {base : Nat} {v : Value} {st : Sta} (h : OSt w base v st) : Stat w v st := by
  obtain ⟨vb, vv, rfl, h1, h2⟩ := h
  exact ⟨vb, vv, rfl, h1.items, h2.vols⟩
theorem OSt.up {w w' : World} {base : Nat} {v : Value} {st : Sta} (h : OSt w base v st) (hu : Up w w') : OSt w' base v st := by
  obtain ⟨vb, vv, rfl, h1, h2⟩ := h
  exact ⟨vb, vv, rfl, h1.up hu, h2.up hu⟩
theorem OSt.base {w : World} {base base' : Nat} {v : Value} {st : Sta} (h : OSt w base v st) (hb : base' ≤ base) : OSt w base' v st := by
  obtain ⟨vb, vv, rfl, h1, h2⟩ := h
  exact ⟨vb, vv, rfl, h1.base hb, h2.base hb⟩
theorem OSt.zero (w : World) (base : Nat) : OSt w base zeroV zeroS := ⟨_, _, rfl, OItems.nil w base, ⟨[], World.ownsRow_nil w base _ _, ⟨rfl, fun k h => absurd h (by simp [zeroS]), fun k h => absurd h (by simp [zeroS]), fun j _ h => absurd h (by simp [zeroS])⟩⟩⟩

def StPost (w : World) (st : Sta) (e : Ending) (w' : World) : Prop := ∃ v', e = .returned v' ∧ OSt w' w.heap.size v' st ∧ Up w w'

end Go.Proofs.Ytjmmifanaffegaa
