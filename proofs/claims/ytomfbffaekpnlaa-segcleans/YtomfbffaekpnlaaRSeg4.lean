/-
  What stands in memory while the reference's Stand lays records at the end of segments. Conditions: as each says.
-/
import Derived.Test.YtomfbffaekpnlaaSegF
import Derived.Test.YtomfbffaekpnlaaRSeg1
namespace Go.Proofs.Ytomfbffaekpnlaa
open Go.RowKit
open Go.Proofs
open WoolBag
open WoolSeg

/-- segments whose own row is the call's -/
def StI (base : Nat) (out : Value) (L : List (List Rc)) (wr : World) : Prop :=
  ∃ C, OSl wr base out C ∧ SRd wr C L ∧ ∀ j (h : j < C.length) b, C[j].ownBlock = some b → b < wr.heap.size ∧ out.ownBlock ≠ some b

theorem StI.sgs {base : Nat} {out : Value} {L : List (List Rc)} {wr : World} (h : StI base out L wr) : Sgs wr out L := by
  obtain ⟨C, h1, h2, _⟩ := h
  exact ⟨C, h1.sl, h2⟩
theorem StI.up {base : Nat} {out : Value} {L : List (List Rc)} {wr wF : World} (h : StI base out L wr) (hF : Up wr wF) : StI base out L wF := by
  obtain ⟨C, h1, h2, h3⟩ := h
  exact ⟨C, own_upS h1 hF, h2.up hF, fun j hj b hb => ⟨Nat.lt_of_lt_of_le (h3 j hj b hb).1 hF.size, (h3 j hj b hb).2⟩⟩

theorem Recs.kept {w w' : World} {v : Value} {s : List Rc} {row : Option Nat} (h : Recs w v s) (hg : w.grownBy w' row) (hne : ∀ b, v.ownBlock = some b → row ≠ some b) : Recs w' v s := Sl.kept h hg hne

/-- one segment set anew -/
theorem StI.set {base n c k : Nat} {o : Option Addr} {L : List (List Rc)} {wr wA : World} {u : Value} {s : List Rc} (h : StI base (.slice o n c) L wr) (hk : k < L.length) (hA : Up wr wA) (hu : ORecs wA wr.heap.size u s) :
    ∃ g, o = some ⟨g, 0, none⟩ ∧ base ≤ g ∧ wA.frozen? ⟨g, k, none⟩ = false ∧ (∃ x, wA.cell? ⟨g, k, none⟩ = some x) ∧ StI base (.slice o n c) (L.set k s) (wA.setCell ⟨g, k, none⟩ u) := by
  obtain ⟨C, h1, h2, h3⟩ := h
  have hlen := h2.len
  have hkC : k < C.length := by omega
  rcases own_row h1 with ⟨_, h4, _⟩ | ⟨g, cap, sp, hv, hgb, hrow, hc1, hc2, hc3⟩
  · omega
  simp only [Value.slice.injEq] at hv
  obtain ⟨rfl, rfl, rfl⟩ := hv
  have hrowA := hrow.up hA
  have hgl := hrow.lt
  have hub : ∀ b, u.ownBlock = some b → wr.heap.size ≤ b ∧ b < wA.heap.size := fun b hb => World.ownsRow.lt hu b hb
  have hsz : (wA.setCell ⟨g, k, none⟩ u).heap.size = wA.heap.size := by simp
  refine ⟨g, rfl, hgb, hrowA.frozen k, ⟨_, hrowA.cell (by rw [List.getElem?_append_left hkC, List.getElem?_eq_getElem hkC])⟩, C.set k u, ?_, ⟨by rw [List.length_set, List.length_set]; exact hlen, fun j hj => ?_⟩, fun j hj b hb => ?_⟩
  · have hr := hrowA.set k u
    rw [List.set_append_left _ _ hkC] at hr
    have := own_mk (m := 1) (n := C.length) hgb hr (by rw [Nat.mul_one, List.length_set]) hc1 hc2 hc3
    unfold OSl
    rw [List.length_set]
    exact this
  · have hj2 : j < L.length := by rw [List.length_set] at hj; exact hj
    by_cases e : j = k
    · subst e
      rw [List.getElem_set_self, List.getElem_set_self]
      exact Recs.kept hu.recs (grown_setS wA g j u) fun b hb e => by have h5 := (hub b hb).1; injection e with e; have e2 : g = b := e; omega
    · rw [List.getElem_set_ne (Ne.symm e), List.getElem_set_ne (Ne.symm e)]
      refine Recs.kept ((h2.rd j hj2).up hA) (grown_setS wA g k u) fun b hb e => ?_
      exact (h3 j (by omega) b hb).2 e
  · have hj2 : j < C.length := by rw [List.length_set] at hj; exact hj
    rw [hsz]
    by_cases e : j = k
    · subst e
      rw [List.getElem_set_self] at hb
      have h5 := hub b hb
      exact ⟨h5.2, fun e => by injection e with e; have e2 : g = b := e; omega⟩
    · rw [List.getElem_set_ne (Ne.symm e)] at hb
      have h5 := h3 j hj2 b hb
      exact ⟨Nat.lt_of_lt_of_le h5.1 hA.size, h5.2⟩

/-- one segment more -/
theorem StI.more {base : Nat} {out v' : Value} {L : List (List Rc)} {w8 wF : World} {C : List Value} {u : Value} {s : List Rc} (h2 : SRd w8 C L) (h3 : ∀ j (h : j < C.length) b, C[j].ownBlock = some b → b < w8.heap.size ∧ out.ownBlock ≠ some b)
    (hu : Recs w8 u s) (hub : ∀ b, u.ownBlock = some b → b < w8.heap.size ∧ out.ownBlock ≠ some b) (hown : wF.ownsRow base 31 1 v' (C.length + 1) (C ++ [u])) (hg : w8.grownBy wF out.ownBlock) (hat : v'.ownBlock = out.ownBlock ∨ v'.ownBlock = some w8.heap.size) : StI base v' (L ++ [s]) wF := by
  have hlen := h2.len
  have hne : ∀ b, b < w8.heap.size ∧ out.ownBlock ≠ some b → b < wF.heap.size ∧ v'.ownBlock ≠ some b := fun b hb => by
    refine ⟨Nat.lt_of_lt_of_le hb.1 hg.size, fun e => ?_⟩
    rcases hat with e2 | e2
    · rw [e2] at e; exact hb.2 e
    · rw [e2] at e
      injection e with e
      omega
  refine ⟨C ++ [u], ?_, ⟨by simp [hlen], fun j hj => ?_⟩, fun j hj b hb => ?_⟩
  · unfold OSl
    rw [List.length_append, List.length_singleton]
    exact hown
  · rw [List.length_append, List.length_singleton] at hj
    by_cases e : j < L.length
    · rw [List.getElem_append_left (by omega), List.getElem_append_left e]
      exact Recs.kept (h2.rd j e) hg fun b hb => (h3 j (by omega) b hb).2
    · obtain rfl : j = L.length := by omega
      have e1 : (C ++ [u])[L.length]'(by simp [hlen]) = u := by rw [List.getElem_append_right (by omega)]; simp
      have e2 : (L ++ [s])[L.length]'(by simp) = s := by simp
      rw [e1, e2]
      exact Recs.kept hu hg fun b hb => (hub b hb).2
  · rw [List.length_append, List.length_singleton] at hj
    by_cases e : j < C.length
    · rw [List.getElem_append_left e] at hb
      exact hne b (h3 j e b hb)
    · obtain rfl : j = C.length := by omega
      have e1 : (C ++ [u])[C.length]'(by simp) = u := by rw [List.getElem_append_right (Nat.le_refl _)]; simp
      rw [e1] at hb
      exact hne b (hub b hb)

/-- at the start: a copy of the segments' own row -/
theorem StI.start {base : Nat} {out : Value} {L : List (List Rc)} {w w1 : World} {C : List Value} (h1 : OSl w1 w.heap.size out C) (h2 : SRd w C L) (hn : ∀ s ∈ L, s ≠ []) (hu : Up w w1) (hb : base ≤ w.heap.size) : StI base out L w1 := by
  refine ⟨C, own_baseS h1 hb, h2.up hu, fun j hj b hbb => ?_⟩
  have hlen := h2.len
  have hr := h2.rd j (by omega)
  have hne := hn _ (List.getElem_mem (show j < L.length by omega))
  obtain ⟨o, c, hv, _, _⟩ := hr.slice
  rw [hv] at hr hbb
  obtain ⟨b', off, rfl, hat⟩ := hr.at hne
  obtain ⟨a0, _, _, _⟩ := hat 0 (List.length_pos_iff.2 hne)
  have hlt := World.block_lt_of_cell? w _ a0
  have e : b' = b := by injection hbb
  subst e
  have hlt' : b' < w.heap.size := hlt
  refine ⟨Nat.lt_of_lt_of_le hlt' hu.size, fun e2 => ?_⟩
  have := (World.ownsRow.lt h1 b' e2).1
  omega

def SnRel (L0 : List (List Rc)) (rs : List Rc) (w : World) (out i : Value) (wr : World) : Prop :=
  ∃ k : Nat, k ≤ rs.length ∧ i = .int .i64 (k : Int) ∧ StI w.heap.size out (stand L0 (rs.take k)) wr ∧ Up w wr

def SnPost (w : World) (l : List (List Rc)) (e : Ending) (w' : World) : Prop := ∃ v', e = .returned v' ∧ Sgs w' v' l ∧ Up w w'

theorem stand_step' (l : List (List Rc)) (rs : List Rc) {k : Nat} (h : k < rs.length) : stand l (rs.take (k + 1)) = put1 (stand l (rs.take k)) rs[k] := by
  rw [List.take_succ_eq_append_getElem h, stand_append]
  rfl
theorem stand_le (l : List (List Rc)) (rs : List Rc) : (stand l rs).length ≤ l.length + rs.length := by
  induction rs generalizing l with
  | nil => rw [stand_nil]; simp
  | cons r rs ih =>
    rw [stand_cons]
    have h1 := ih (put1 l r)
    have h2 := (put1_length l r).2
    rw [List.length_cons]
    omega

end Go.Proofs.Ytomfbffaekpnlaa
