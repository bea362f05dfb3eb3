/-
  What stands in memory while find of package seg looks through segments: the live records so far, what stands behind. Conditions: as each says.
-/
import Derived.Test.YtomfbffaekpnlaaSegI
import Derived.Test.YtomfbffaekpnlaaSegJ
namespace Go.Proofs.Ytomfbffaekpnlaa
open Go.RowKit
open Go.Proofs
open WoolBag
open WoolSeg

/-! ytomfbffaekpnlaa# plain -/

/-- what find answers -/
def findV (l : List (List Rc)) (b : List Itm) : List (List Rc) × Int :=
  if WoolSeg.chk l ≠ 0 then ([], WoolSeg.chk l) else if WoolBag.chk FP b ≠ 0 then ([], WoolBag.chk FP b) else (alive b l, 0)

/-- what has been found: the first i segments' live records, pre of the next one's -/
def found (b : List Itm) (l : List (List Rc)) (i : Nat) (pre : List Rc) : List (List Rc) := (alive b l).take i ++ pre :: List.replicate (l.length - i - 1) []

theorem found_length (b : List Itm) (l : List (List Rc)) (i : Nat) (pre : List Rc) (h : i < l.length) : (found b l i pre).length = l.length := by
  unfold found
  rw [List.length_append, List.length_take, alive_length, List.length_cons, List.length_replicate]
  omega
theorem found_get (b : List Itm) (l : List (List Rc)) (i : Nat) (pre : List Rc) (h : i < l.length) : (found b l i pre)[i]'(by rw [found_length _ _ _ _ h]; exact h) = pre := by
  unfold found
  rw [List.getElem_append_right (by rw [List.length_take, alive_length]; omega)]
  have : i - ((alive b l).take i).length = 0 := by rw [List.length_take, alive_length]; omega
  simp only [this, List.getElem_cons_zero]
theorem found_set (b : List Itm) (l : List (List Rc)) (i : Nat) (pre q : List Rc) (h : i < l.length) : (found b l i pre).set i q = found b l i q := by
  unfold found
  have hl : ((alive b l).take i).length = i := by rw [List.length_take, alive_length]; omega
  rw [List.set_append_right _ _ (by omega), hl, Nat.sub_self, List.set_cons_zero]
theorem found_start (b : List Itm) (l : List (List Rc)) (h : 0 < l.length) : found b l 0 [] = List.replicate l.length [] := by
  unfold found
  rw [List.take_zero, List.nil_append, Nat.sub_zero, ← List.replicate_succ]
  congr 1
  omega
theorem found_next (b : List Itm) (l : List (List Rc)) (i : Nat) (h : i + 1 < l.length) : found b l i (aliveS b l[i] (l.drop (i + 1)).flatten) = found b l (i + 1) [] := by
  unfold found
  have e : (alive b l).take (i + 1) = (alive b l).take i ++ [aliveS b l[i] (l.drop (i + 1)).flatten] := by
    rw [List.take_succ_eq_append_getElem (by rw [alive_length]; omega), alive_get (by omega)]
  have e2 : l.length - i - 1 = (l.length - (i + 1) - 1) + 1 := by omega
  rw [e, e2, List.replicate_succ, List.append_assoc]
  rfl
theorem found_end (b : List Itm) (l : List (List Rc)) (i : Nat) (h : i < l.length) (he : i + 1 = l.length) : found b l i (aliveS b l[i] (l.drop (i + 1)).flatten) = alive b l := by
  unfold found
  have e : (alive b l).take (i + 1) = (alive b l).take i ++ [aliveS b l[i] (l.drop (i + 1)).flatten] := by
    rw [List.take_succ_eq_append_getElem (by rw [alive_length]; omega), alive_get h]
  have e2 : l.length - i - 1 = 0 := by omega
  rw [e2, List.replicate_zero, ← e, List.take_of_length_le (by rw [alive_length]; omega)]

theorem aliveS_take {b : List Itm} {r : Rc} {s later : List Rc} : aliveS b (r :: s) later = (if used b r = true ∧ (s ++ later).contains r = false then [r] else []) ++ aliveS b s later := by
  show (if used b r = true ∧ r ∉ s ∧ r ∉ later then r :: aliveS b s later else aliveS b s later) = _
  have h : (used b r = true ∧ (s ++ later).contains r = false) ↔ (used b r = true ∧ r ∉ s ∧ r ∉ later) := by
    rw [Bool.eq_false_iff, Ne, List.contains_iff_mem, List.mem_append, not_or]
  by_cases hc : used b r = true ∧ r ∉ s ∧ r ∉ later
  · rw [if_pos hc, if_pos (h.2 hc)]; rfl
  · rw [if_neg hc, if_neg (fun e => hc (h.1 e))]; rfl

/-! ytomfbffaekpnlaa# memory -/

theorem run_nils (n : Nat) (hn : n ≤ 16) (W : World) : (Instr.makeSlice 22 (.int .i64 (n : Int)) (.int .i64 (n : Int))).run Try.prog W = .ok (.slice (some ⟨W.heap.size, 0, none⟩) n n) (W.alloc (.cells (Array.replicate n (Value.slice none 0 0)) 31)) := by
  obtain ⟨i, hi, hz0, hz1, hz2⟩ := sgInfo'
  have h := run_make (P := Try.prog) W 22 31 i _ Try.underlying22 hi hz0 .i64 .i64 (n : Int) (n : Int) (by omega) (by omega) (by rw [hz2]; omega) (by omega)
  have e : madeCells (Value.slice none 0 0).cells (n * 1) = (Array.replicate n (Value.slice none 0 0)) := by
    apply Array.ext
    · rw [size_madeCells, Array.size_replicate, Nat.mul_one]
    · intro j h1 h2
      rw [size_madeCells] at h1
      have hmd : (madeCells (Value.slice none 0 0).cells (n * 1))[j]? = some ((#[Value.slice none 0 0])[j % 1]!) := by
        unfold madeCells
        rw [Array.getElem?_map, Array.getElem?_range, if_pos h1]
        rfl
      rw [Array.getElem?_eq_getElem (by rw [size_madeCells]; exact h1)] at hmd
      rw [Option.some.inj hmd, Nat.mod_one]
      simp
  rw [hz1, Int.toNat_natCast, e] at h
  exact h

theorem nils_own (n : Nat) (hn : n ≤ 16) (W : World) : OSl (W.alloc (.cells (Array.replicate n (Value.slice none 0 0)) 31)) W.heap.size (.slice (some ⟨W.heap.size, 0, none⟩) n n) (List.replicate n (Value.slice none 0 0)) := by
  have hr : RowC (W.alloc (.cells (Array.replicate n (Value.slice none 0 0)) 31)) W.heap.size 31 (List.replicate n (Value.slice none 0 0)) := by
    unfold RowC
    rw [List.toArray_replicate]
    exact heap_alloc_new W _
  have := own_mk (m := 1) (n := n) (cap := n) (L := List.replicate n (Value.slice none 0 0)) (sp := []) (Nat.le_refl W.heap.size) (by rw [List.append_nil]; exact hr) (by rw [List.length_replicate]; omega) (Nat.le_refl _) (by unfold maxLen; omega) (by simp)
  unfold OSl
  rw [List.length_replicate]
  exact this

theorem nils_rows (w : World) (base n : Nat) : OSr w base (List.replicate n (Value.slice none 0 0)) (List.replicate n []) := by
  refine ⟨by simp, fun k hk => ?_, fun j k hj hk b hne hb => ?_⟩
  · rw [List.getElem_replicate, List.getElem_replicate]
    exact ORecs.nil w base
  · rw [List.getElem_replicate] at hb
    cases hb

/-- the live records so far, and the records behind -/
structure FoS (W0 : World) (B2 g n : Nat) (G : List (List Rc)) (rest : List Rc) (lat : Value) (wr : World) : Prop where
  out : ∃ C, OSl wr W0.heap.size (.slice (some ⟨g, 0, none⟩) n n) C ∧ OSr wr B2 C G
  rd : Recs wr lat rest
  apart : ∀ b, lat.ownBlock = some b → b ≠ g ∧ b < B2
  up : Up W0 wr
  sz : B2 ≤ wr.heap.size

theorem FoS.ups {W0 wr wF : World} {B2 g n : Nat} {G : List (List Rc)} {rest : List Rc} {lat : Value} (h : FoS W0 B2 g n G rest lat wr) (hF : Up wr wF) : FoS W0 B2 g n G rest lat wF := by
  obtain ⟨C, h1, h2⟩ := h.out
  exact ⟨⟨C, own_upS h1 hF, h2.up hF⟩, h.rd.up hF, h.apart, h.up.trans hF, Nat.le_trans h.sz hF.size⟩

/-- one record less behind (at a row's end the address stays) -/
theorem FoS.tail {W0 wr : World} {B2 g n : Nat} {G : List (List Rc)} {r : Rc} {rest : List Rc} {lat : Value} (h : FoS W0 B2 g n G (r :: rest) lat wr) : ∃ b off c, lat = .slice (some ⟨b, off, none⟩) (rest.length + 1) c ∧ rest.length + 1 ≤ c ∧ c ≤ maxLen ∧
    FoS W0 B2 g n G rest (.slice (some ⟨b, off + 4, none⟩) rest.length (c - 1)) wr ∧ (c = 1 → FoS W0 B2 g n G rest (.slice (some ⟨b, off, none⟩) rest.length 0) wr) := by
  obtain ⟨o, c, hl, h1, h2⟩ := h.rd.slice
  rw [List.length_cons] at hl h1
  have hlat := h.rd
  rw [hl] at hlat
  obtain ⟨b, off, e, _⟩ := hlat.at (by simp)
  subst e
  have hap : ∀ b', some b = some b' → b' ≠ g ∧ b' < B2 := fun b' hb => h.apart b' (by rw [hl]; exact hb)
  refine ⟨b, off, c, hl, h1, h2, ⟨h.out, ?_, hap, h.up, h.sz⟩, fun hc => ⟨h.out, ?_, hap, h.up, h.sz⟩⟩
  · have h3 := hlat.back 1 (by simp)
    simp only [List.length_cons, Nat.add_sub_cancel, Nat.one_mul, List.drop_one, List.tail_cons] at h3
    exact h3
  · have hr : rest = [] := List.eq_nil_of_length_eq_zero (by omega)
    subst hr
    exact ⟨rfl, _, 0, rfl, Nat.le_refl _, by unfold maxLen; omega, .inl rfl⟩

/-- a record more in a segment's live ones -/
theorem FoS.more {W0 wr wA : World} {B2 g n i : Nat} {G : List (List Rc)} {rest : List Rc} {lat u : Value} {s : List Rc} (h : FoS W0 B2 g n G rest lat wr) (hi : i < G.length) (hg : W0.heap.size ≤ g) (hB : W0.heap.size ≤ B2)
    {C : List Value} (h1 : OSl wr W0.heap.size (.slice (some ⟨g, 0, none⟩) n n) C) (h2 : OSr wr B2 C G)
    (hown : ORecs wA B2 u s) (hgr : wr.grownBy wA (C[i]'(by have := h2.len; omega)).ownBlock) (hat : u.ownBlock = (C[i]'(by have := h2.len; omega)).ownBlock ∨ ∃ b, u.ownBlock = some b ∧ wr.heap.size ≤ b) :
    wA.frozen? ⟨g, i, none⟩ = false ∧ wA.cell? ⟨g, i, none⟩ = some (C[i]'(by have := h2.len; omega)) ∧ FoS W0 B2 g n (G.set i s) rest lat (wA.setCell ⟨g, i, none⟩ u) := by
  obtain ⟨g', e1, e2, e3, e4, e5, e6⟩ := OSl.grow h1 h2 hi hown hgr hat
  cases e1
  refine ⟨e3, e4, ⟨_, e5, e6⟩, ?_, h.apart, ?_, ?_⟩
  · have hl1 : Recs wA lat rest := Sl.kept h.rd hgr fun b hb e => by
      have h3 := (h.apart b hb).2
      have h4 := (World.ownsRow.lt (h2.own i hi) b e).1
      omega
    exact Sl.kept hl1 (grown_setS wA g i u) fun b hb e => (h.apart b hb).1 (by injection e with e; exact e.symm)
  · have hu1 : Up W0 wA := Below.grown h.up hgr h.up.size fun k hk => Nat.le_trans hB (World.ownsRow.lt (h2.own i hi) k hk).1
    exact Below.setCell (show Below W0.heap.size W0 wA from hu1) (p := ⟨g, i, none⟩) hg _
  · have := hgr.size
    have := h.sz
    show B2 ≤ (wA.setCell ⟨g, i, none⟩ u).heap.size
    simp
    omega

end Go.Proofs.Ytomfbffaekpnlaa
