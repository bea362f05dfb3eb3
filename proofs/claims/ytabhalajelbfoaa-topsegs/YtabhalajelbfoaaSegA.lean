/-
  Slices of records (Recs) and of segments (Sgs): what they read as; the same where the call owns them (ORecs, OSgs). Conditions: as each says.
-/
import Derived.Test.YtabhalajelbfoaaFl
import Derived.Test.YtabhalajelbfoaaItems
import Derived.Test.YtabhalajelbfoaaSegN
namespace Go.Proofs.Ytabhalajelbfoaa
open Go.RowKit
open Go.Proofs
open WoolBag
open WoolSeg

/-- a record's cells -/
def rcC (r : Rc) : List Value := [.bool r.1.1, .int .i64 r.1.2.1, .int .i64 r.1.2.2, .string (bs r.2)]
theorem rcC_len (r : Rc) : (rcC r).length = 4 := rfl
theorem rcC_one (r : Rc) : ∀ u ∈ rcC r, u.oneCell' = true := by
  intro u h; unfold rcC at h; simp at h; rcases h with rfl | rfl | rfl | rfl <;> rfl
/-- a record as a value -/
def rcA (r : Rc) : Value := .agg #[.bool r.1.1, .int .i64 r.1.2.1, .int .i64 r.1.2.2, .string (bs r.2)]

/-- the identifier's numbers fit -/
def WfR (r : Rc) : Prop := (Lit.int .i64 r.1.2.1).wf = true ∧ (Lit.int .i64 r.1.2.2).wf = true
def WfL (l : List (List Rc)) : Prop := ∀ s ∈ l, ∀ r ∈ s, WfR r

/-- a slice that reads as records -/
def Recs (w : World) (v : Value) (s : List Rc) : Prop := Sl w 4 v s.length (fl rcC s)

theorem Recs.up {w w' : World} {v : Value} {s : List Rc} (h : Recs w v s) (hu : Up w w') : Recs w' v s := Sl.up h hu
theorem Recs.slice {w : World} {v : Value} {s : List Rc} (h : Recs w v s) : ∃ o c, v = .slice o s.length c ∧ s.length ≤ c ∧ c ≤ maxLen := Sl.slice h
theorem Recs.nil (w : World) : Recs w (.slice none 0 0) [] := Sl.nil w 4
theorem Recs.one {w : World} {v : Value} {s : List Rc} (h : Recs w v s) : v.oneCell' = true := by
  obtain ⟨o, c, rfl, _, _⟩ := h.slice
  rfl

theorem Recs.at {w : World} {o : Option Addr} {n c : Nat} {s : List Rc} (h : Recs w (.slice o n c) s) (hne : s ≠ []) : ∃ b off, o = some ⟨b, off, none⟩ ∧ ∀ k (hk : k < s.length),
    w.cell? ⟨b, off + k * 4, none⟩ = some (.bool s[k].1.1) ∧ w.cell? ⟨b, off + k * 4 + 1, none⟩ = some (.int .i64 s[k].1.2.1) ∧ w.cell? ⟨b, off + k * 4 + 2, none⟩ = some (.int .i64 s[k].1.2.2) ∧ w.cell? ⟨b, off + k * 4 + 3, none⟩ = some (.string (bs s[k].2)) := by
  obtain ⟨b, off, h1, h2⟩ := Sl.cells h (by intro e; exact hne (List.eq_nil_of_length_eq_zero e))
  refine ⟨b, off, h1, fun k hk => ?_⟩
  have g := fun j hj => fl_get rcC_len s k hk j hj
  exact ⟨h2 _ _ (g 0 (by omega)), by have := h2 _ _ (g 1 (by omega)); rwa [← Nat.add_assoc] at this, by have := h2 _ _ (g 2 (by omega)); rwa [← Nat.add_assoc] at this, by have := h2 _ _ (g 3 (by omega)); rwa [← Nat.add_assoc] at this⟩

/-- the records from a place on -/
theorem Recs.back {w : World} {b off : Nat} {n c : Nat} {s : List Rc} (h : Recs w (.slice (some ⟨b, off, none⟩) n c) s) (k : Nat) (hk : k ≤ s.length) : Recs w (.slice (some ⟨b, off + k * 4, none⟩) (s.length - k) (c - k)) (s.drop k) := by
  obtain ⟨h0, o', c', h1, h2, h3, h4⟩ := h
  simp only [Value.slice.injEq] at h1
  obtain ⟨rfl, rfl, rfl⟩ := h1
  have hlen : (s.drop k).length = s.length - k := List.length_drop
  refine ⟨by rw [fl_length rcC_len], _, c - k, by rw [hlen], by omega, by unfold maxLen at *; omega, ?_⟩
  rcases h4 with h4 | ⟨b', off', h5, h6⟩
  · left; omega
  · right
    simp only [Option.some.injEq, Addr.mk.injEq, and_true] at h5
    obtain ⟨rfl, rfl⟩ := h5
    refine ⟨b, off + k * 4, rfl, fun j u hj => ?_⟩
    rw [fl_drop rcC_len, List.getElem?_drop] at hj
    rw [Nat.add_assoc]
    exact h6 _ u hj

/-- the records ahead of a place -/
theorem Recs.front {w : World} {o : Option Addr} {n c : Nat} {s : List Rc} (h : Recs w (.slice o n c) s) (k : Nat) (hk : k ≤ s.length) : Recs w (.slice o k c) (s.take k) := by
  obtain ⟨h0, o', c', h1, h2, h3, h4⟩ := h
  simp only [Value.slice.injEq] at h1
  obtain ⟨rfl, rfl, rfl⟩ := h1
  have hlen : (s.take k).length = k := by rw [List.length_take]; omega
  refine ⟨by rw [fl_length rcC_len], o, c, by rw [hlen], by omega, h3, ?_⟩
  rcases h4 with h4 | ⟨b, off, h5, h6⟩
  · left; omega
  · right
    refine ⟨b, off, h5, fun j u hj => h6 j u ?_⟩
    rw [fl_take rcC_len, List.getElem?_take] at hj
    split at hj
    · exact hj
    · cases hj

/-! ytabhalajelbfoaa# segments -/

/-- a segment's cell -/
def scC (v : Value) : List Value := [v]
theorem scC_len (v : Value) : (scC v).length = 1 := rfl
theorem scC_fl (C : List Value) : fl scC C = C := by
  induction C with
  | nil => rfl
  | cons a r ih => show [a] ++ fl scC r = _; rw [ih]; rfl

/-- segments as they lie in memory, and what they read as -/
structure SRd (w : World) (C : List Value) (l : List (List Rc)) : Prop where
  len : C.length = l.length
  rd : ∀ k (h : k < l.length), Recs w (C[k]'(by omega)) l[k]

theorem SRd.up {w w' : World} {C : List Value} {l : List (List Rc)} (h : SRd w C l) (hu : Up w w') : SRd w' C l := ⟨h.len, fun k hk => (h.rd k hk).up hu⟩
theorem SRd.one {w : World} {C : List Value} {l : List (List Rc)} (h : SRd w C l) : ∀ u ∈ C, u.oneCell' = true := by
  intro u hu
  obtain ⟨k, hk, rfl⟩ := List.getElem_of_mem hu
  exact (h.rd k (by have := h.len; omega)).one
theorem SRd.nil (w : World) : SRd w [] [] := ⟨rfl, fun k h => absurd h (by simp)⟩

/-- a slice that reads as segments -/
def Sgs (w : World) (v : Value) (l : List (List Rc)) : Prop := ∃ C, Sl w 1 v C.length C ∧ SRd w C l

theorem Sgs.up {w w' : World} {v : Value} {l : List (List Rc)} (h : Sgs w v l) (hu : Up w w') : Sgs w' v l := by
  obtain ⟨C, h1, h2⟩ := h
  exact ⟨C, Sl.up h1 hu, h2.up hu⟩
theorem Sgs.slice {w : World} {v : Value} {l : List (List Rc)} (h : Sgs w v l) : ∃ o c, v = .slice o l.length c ∧ l.length ≤ c ∧ c ≤ maxLen := by
  obtain ⟨C, h1, h2⟩ := h
  have := Sl.slice h1
  rwa [h2.len] at this
theorem Sgs.nil (w : World) : Sgs w (.slice none 0 0) [] := ⟨[], Sl.nil w 1, SRd.nil w⟩

theorem Sgs.at {w : World} {o : Option Addr} {n c : Nat} {l : List (List Rc)} (h : Sgs w (.slice o n c) l) (hne : l ≠ []) : ∃ b off, o = some ⟨b, off, none⟩ ∧ ∀ k (hk : k < l.length), ∃ u, w.cell? ⟨b, off + k, none⟩ = some u ∧ Recs w u l[k] := by
  obtain ⟨C, h1, h2⟩ := h
  have hl := h2.len
  obtain ⟨b, off, e, h3⟩ := Sl.cells h1 (by intro e; exact hne (List.eq_nil_of_length_eq_zero (by omega)))
  refine ⟨b, off, e, fun k hk => ⟨C[k]'(by omega), h3 k _ (List.getElem?_eq_getElem _), h2.rd k hk⟩⟩

/-! ytabhalajelbfoaa# of the call's own -/

/-- a slice of records of the call's own -/
def ORecs (w : World) (base : Nat) (v : Value) (s : List Rc) : Prop := w.ownsRow base 36 4 v s.length (fl rcC s)
theorem ORecs.recs {w : World} {base : Nat} {v : Value} {s : List Rc} (h : ORecs w base v s) : Recs w v s := Sl.of_own h
theorem ORecs.nil (w : World) (base : Nat) : ORecs w base (.slice none 0 0) [] := World.ownsRow_nil w base _ _

theorem own_upS {w w' : World} {base T m n : Nat} {v : Value} {L : List Value} (h : w.ownsRow base T m v n L) (hu : Up w w') : w'.ownsRow base T m v n L := by
  refine ⟨h.1, ?_⟩
  rcases h.2 with h' | ⟨g, cap, cur, rfl, h2, h3, h4⟩
  · exact .inl h'
  · refine .inr ⟨g, cap, cur, rfl, h2, ?_, h4⟩
    rw [← h3]; exact hu.block g (World.ownsRow.lt h g rfl).2

theorem own_baseS {w : World} {base base' T m n : Nat} {v : Value} {L : List Value} (h : w.ownsRow base T m v n L) (hb : base' ≤ base) : w.ownsRow base' T m v n L := by
  refine ⟨h.1, ?_⟩
  rcases h.2 with h | ⟨g, cap, cur, h1, h2, h3⟩
  · exact .inl h
  · exact .inr ⟨g, cap, cur, h1, by omega, h3⟩

theorem ORecs.up {w w' : World} {base : Nat} {v : Value} {s : List Rc} (h : ORecs w base v s) (hu : Up w w') : ORecs w' base v s := own_upS h hu
theorem ORecs.base {w : World} {base base' : Nat} {v : Value} {s : List Rc} (h : ORecs w base v s) (hb : base' ≤ base) : ORecs w base' v s := own_baseS h hb

/-- segments whose records lie in rows of the call's own, each in another -/
structure OSr (w : World) (base : Nat) (C : List Value) (l : List (List Rc)) : Prop where
  len : C.length = l.length
  own : ∀ k (h : k < l.length), ORecs w base (C[k]'(by omega)) l[k]
  apart : ∀ j k (hj : j < l.length) (hk : k < l.length) b, j ≠ k → (C[j]'(by omega)).ownBlock = some b → (C[k]'(by omega)).ownBlock ≠ some b

theorem OSr.rd {w : World} {base : Nat} {C : List Value} {l : List (List Rc)} (h : OSr w base C l) : SRd w C l := ⟨h.len, fun k hk => (h.own k hk).recs⟩
theorem OSr.up {w w' : World} {base : Nat} {C : List Value} {l : List (List Rc)} (h : OSr w base C l) (hu : Up w w') : OSr w' base C l := ⟨h.len, fun k hk => (h.own k hk).up hu, h.apart⟩
theorem OSr.base {w : World} {base base' : Nat} {C : List Value} {l : List (List Rc)} (h : OSr w base C l) (hb : base' ≤ base) : OSr w base' C l := ⟨h.len, fun k hk => (h.own k hk).base hb, h.apart⟩
theorem OSr.nil (w : World) (base : Nat) : OSr w base [] [] := ⟨rfl, fun k h => absurd h (by simp), fun j _ h => absurd h (by simp)⟩

/-- the segments' own row -/
def OSl (w : World) (base : Nat) (v : Value) (C : List Value) : Prop := w.ownsRow base 45 1 v C.length C
theorem OSl.sl {w : World} {base : Nat} {v : Value} {C : List Value} (h : OSl w base v C) : Sl w 1 v C.length C := Sl.of_own h

/-- segments of the call's own -/
def OSgs (w : World) (base : Nat) (v : Value) (l : List (List Rc)) : Prop := ∃ C, OSl w base v C ∧ OSr w base C l

theorem OSgs.sgs {w : World} {base : Nat} {v : Value} {l : List (List Rc)} (h : OSgs w base v l) : Sgs w v l := by
  obtain ⟨C, h1, h2⟩ := h
  exact ⟨C, h1.sl, h2.rd⟩
theorem OSgs.up {w w' : World} {base : Nat} {v : Value} {l : List (List Rc)} (h : OSgs w base v l) (hu : Up w w') : OSgs w' base v l := by
  obtain ⟨C, h1, h2⟩ := h
  exact ⟨C, own_upS h1 hu, h2.up hu⟩
theorem OSgs.base {w : World} {base base' : Nat} {v : Value} {l : List (List Rc)} (h : OSgs w base v l) (hb : base' ≤ base) : OSgs w base' v l := by
  obtain ⟨C, h1, h2⟩ := h
  exact ⟨C, own_baseS h1 hb, h2.base hb⟩
theorem OSgs.nil (w : World) (base : Nat) : OSgs w base (.slice none 0 0) [] := ⟨[], World.ownsRow_nil w base _ _, OSr.nil w base⟩

theorem rcInfo : (Try.prog.info? 36).map (fun i => (i.zero, i.size, i.bytes)) = some (some (.agg #[.bool false, .int .i64 0, .int .i64 0, .string ⟨#[]⟩]), 4, 40) := by kernel_rfl
theorem sgInfo : (Try.prog.info? 45).map (fun i => (i.zero, i.size, i.bytes)) = some (some (.slice none 0 0), 1, 24) := by kernel_rfl

theorem rcInfo' : ∃ i, Try.prog.info? 36 = some i ∧ i.zero = some (.agg #[.bool false, .int .i64 0, .int .i64 0, .string ⟨#[]⟩]) ∧ i.size = 4 ∧ i.bytes = 40 := by
  have h := rcInfo
  cases hq : Try.prog.info? 36 with
  | none => rw [hq] at h; cases h
  | some i =>
    rw [hq] at h
    simp only [Option.map_some, Option.some.injEq, Prod.mk.injEq] at h
    exact ⟨i, rfl, h.1, h.2.1, h.2.2⟩
theorem sgInfo' : ∃ i, Try.prog.info? 45 = some i ∧ i.zero = some (.slice none 0 0) ∧ i.size = 1 ∧ i.bytes = 24 := by
  have h := sgInfo
  cases hq : Try.prog.info? 45 with
  | none => rw [hq] at h; cases h
  | some i =>
    rw [hq] at h
    simp only [Option.map_some, Option.some.injEq, Prod.mk.injEq] at h
    exact ⟨i, rfl, h.1, h.2.1, h.2.2⟩

theorem rec_ne_seg : (36 : Nat) ≠ 45 := by decide

end Go.Proofs.Ytabhalajelbfoaa
