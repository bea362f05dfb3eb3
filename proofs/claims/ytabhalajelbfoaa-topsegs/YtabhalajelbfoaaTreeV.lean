/-
  Slices of texts (Txs), of steps (Stps, OStps), rows of rows of numbers (Lvs): what they read as. Conditions: as each says.
-/
import Derived.Test.YtabhalajelbfoaaFl
import Derived.Test.YtabhalajelbfoaaFacts
import Derived.Test.YtabhalajelbfoaaTreeO
namespace Go.Proofs.Ytabhalajelbfoaa
open Go.RowKit
open Go.Proofs
open WoolTree

/-- a text's cell -/
def txC (t : List UInt8) : List Value := [.string (bs t)]
theorem txC_len (t : List UInt8) : (txC t).length = 1 := rfl
theorem txC_one (t : List UInt8) : ∀ u ∈ txC t, u.oneCell' = true := by
  intro u h; unfold txC at h; simp at h; rw [h]; rfl

/-- a slice that reads as texts -/
def Txs (w : World) (v : Value) (l : List (List UInt8)) : Prop := Sl w 1 v l.length (fl txC l)

theorem Txs.up {w w' : World} {v : Value} {l : List (List UInt8)} (h : Txs w v l) (hu : Up w w') : Txs w' v l := Sl.up h hu
theorem Txs.slice {w : World} {v : Value} {l : List (List UInt8)} (h : Txs w v l) : ∃ o c, v = .slice o l.length c ∧ l.length ≤ c ∧ c ≤ maxLen := Sl.slice h
theorem Txs.nil (w : World) : Txs w (.slice none 0 0) [] := Sl.nil w 1

theorem Txs.at {w : World} {o : Option Addr} {n c : Nat} {l : List (List UInt8)} (h : Txs w (.slice o n c) l) (hne : l ≠ []) : ∃ b off, o = some ⟨b, off, none⟩ ∧ ∀ k (hk : k < l.length), w.cell? ⟨b, off + k, none⟩ = some (.string (bs l[k])) := by
  obtain ⟨b, off, h1, h2⟩ := Sl.cells h (by intro e; exact hne (List.eq_nil_of_length_eq_zero e))
  refine ⟨b, off, h1, fun k hk => ?_⟩
  have g := fl_get txC_len l k hk 0 (by omega)
  have := h2 _ _ g
  rwa [Nat.mul_one, Nat.add_zero] at this

/-- the texts ahead of a place -/
theorem Txs.front {w : World} {o : Option Addr} {n c : Nat} {l : List (List UInt8)} (h : Txs w (.slice o n c) l) (k : Nat) (hk : k ≤ l.length) : Txs w (.slice o k c) (l.take k) := by
  obtain ⟨h0, o', c', h1, h2, h3, h4⟩ := h
  simp only [Value.slice.injEq] at h1
  obtain ⟨rfl, rfl, rfl⟩ := h1
  have hlen : (l.take k).length = k := by rw [List.length_take]; omega
  refine ⟨by rw [fl_length txC_len], o, c, by rw [hlen], by omega, h3, ?_⟩
  rcases h4 with h4 | ⟨b, off, h5, h6⟩
  · left; omega
  · right
    refine ⟨b, off, h5, fun j u hj => h6 j u ?_⟩
    rw [fl_take txC_len, List.getElem?_take] at hj
    split at hj
    · exact hj
    · cases hj

/-- the texts from a place on -/
theorem Txs.back {w : World} {b off : Nat} {n c : Nat} {l : List (List UInt8)} (h : Txs w (.slice (some ⟨b, off, none⟩) n c) l) (k : Nat) (hk : k ≤ l.length) : Txs w (.slice (some ⟨b, off + k, none⟩) (l.length - k) (c - k)) (l.drop k) := by
  obtain ⟨h0, o', c', h1, h2, h3, h4⟩ := h
  simp only [Value.slice.injEq] at h1
  obtain ⟨rfl, rfl, rfl⟩ := h1
  have hlen : (l.drop k).length = l.length - k := List.length_drop
  refine ⟨by rw [fl_length txC_len], _, c - k, by rw [hlen], by omega, by unfold maxLen at *; omega, ?_⟩
  rcases h4 with h4 | ⟨b', off', h5, h6⟩
  · left; omega
  · right
    simp only [Option.some.injEq, Addr.mk.injEq, and_true] at h5
    obtain ⟨rfl, rfl⟩ := h5
    refine ⟨b, off + k, rfl, fun j u hj => ?_⟩
    rw [fl_drop txC_len, List.getElem?_drop, Nat.mul_one] at hj
    rw [Nat.add_assoc]
    exact h6 _ u hj

/-! ytabhalajelbfoaa# steps -/

/-- a step's cells -/
def stC (s : Bool × Int) : List Value := [.bool s.1, .int .i64 s.2]
theorem stC_len (s : Bool × Int) : (stC s).length = 2 := rfl
theorem stC_one (s : Bool × Int) : ∀ u ∈ stC s, u.oneCell' = true := by
  intro u h; unfold stC at h; simp at h; rcases h with rfl | rfl <;> rfl

/-- a slice that reads as steps -/
def Stps (w : World) (v : Value) (l : List (Bool × Int)) : Prop := Sl w 2 v l.length (fl stC l)
theorem Stps.up {w w' : World} {v : Value} {l : List (Bool × Int)} (h : Stps w v l) (hu : Up w w') : Stps w' v l := Sl.up h hu
theorem Stps.slice {w : World} {v : Value} {l : List (Bool × Int)} (h : Stps w v l) : ∃ o c, v = .slice o l.length c ∧ l.length ≤ c ∧ c ≤ maxLen := Sl.slice h
theorem Stps.nil (w : World) : Stps w (.slice none 0 0) [] := Sl.nil w 2

theorem Stps.at {w : World} {o : Option Addr} {n c : Nat} {l : List (Bool × Int)} (h : Stps w (.slice o n c) l) (hne : l ≠ []) : ∃ b off, o = some ⟨b, off, none⟩ ∧ ∀ k (hk : k < l.length),
    w.cell? ⟨b, off + k * 2, none⟩ = some (.bool l[k].1) ∧ w.cell? ⟨b, off + k * 2 + 1, none⟩ = some (.int .i64 l[k].2) := by
  obtain ⟨b, off, h1, h2⟩ := Sl.cells h (by intro e; exact hne (List.eq_nil_of_length_eq_zero e))
  refine ⟨b, off, h1, fun k hk => ?_⟩
  have g := fun j hj => fl_get stC_len l k hk j hj
  exact ⟨h2 _ _ (g 0 (by omega)), by have := h2 _ _ (g 1 (by omega)); rwa [← Nat.add_assoc] at this⟩

/-- the steps behind the first -/
theorem Stps.tail {w : World} {b off : Nat} {n c : Nat} {s : Bool × Int} {l : List (Bool × Int)} (h : Stps w (.slice (some ⟨b, off, none⟩) n c) (s :: l)) : Stps w (.slice (some ⟨b, off + 2, none⟩) l.length (c - 1)) l := by
  obtain ⟨h0, o', c', h1, h2, h3, h4⟩ := h
  simp only [Value.slice.injEq] at h1
  obtain ⟨rfl, rfl, rfl⟩ := h1
  rw [List.length_cons] at h2
  refine ⟨by rw [fl_length stC_len], _, c - 1, rfl, by omega, by unfold maxLen at *; omega, ?_⟩
  rcases h4 with h4 | ⟨b', off', h5, h6⟩
  · simp at h4
  · right
    simp only [Option.some.injEq, Addr.mk.injEq, and_true] at h5
    obtain ⟨rfl, rfl⟩ := h5
    refine ⟨b, off + 2, rfl, fun j u hj => ?_⟩
    rw [Nat.add_assoc]
    refine h6 _ u ?_
    show (stC s ++ fl stC l)[2 + j]? = some u
    rw [List.getElem?_append_right (by rw [stC_len]; omega), stC_len, Nat.add_sub_cancel_left]
    exact hj

theorem own_upT {w w' : World} {base m n : Nat} {T : TypeId} {v : Value} {L : List Value} (h : w.ownsRow base T m v n L) (hu : Up w w') : w'.ownsRow base T m v n L := by
  refine ⟨h.1, ?_⟩
  rcases h.2 with h' | ⟨g, cap, cur, rfl, h2, h3, h4⟩
  · exact .inl h'
  · refine .inr ⟨g, cap, cur, rfl, h2, ?_, h4⟩
    rw [← h3]; exact hu.block g (World.ownsRow.lt h g rfl).2

theorem own_baseT {w : World} {base base' m n : Nat} {T : TypeId} {v : Value} {L : List Value} (h : w.ownsRow base T m v n L) (hb : base' ≤ base) : w.ownsRow base' T m v n L := by
  refine ⟨h.1, ?_⟩
  rcases h.2 with h | ⟨g, cap, cur, h1, h2, h3⟩
  · exact .inl h
  · exact .inr ⟨g, cap, cur, h1, Nat.le_trans hb h2, h3⟩

/-! ytabhalajelbfoaa# rows of rows -/

/-- a row of rows of numbers, all of the call's own -/
def Lvs (w : World) (base : Nat) (v : Value) (ls : List (List Nat)) : Prop :=
  ∃ C : List Value, w.ownsRow base 23 1 v C.length C ∧ C.length = ls.length ∧ ∀ k (h : k < ls.length) (h' : k < C.length), Ints w base C[k] ls[k]

theorem Lvs.up {w w' : World} {base : Nat} {v : Value} {ls : List (List Nat)} (h : Lvs w base v ls) (hu : Up w w') : Lvs w' base v ls := by
  obtain ⟨C, h1, h2, h3⟩ := h
  exact ⟨C, own_upT h1 hu, h2, fun k hk hk' => (h3 k hk hk').up hu⟩

theorem Lvs.slice {w : World} {base : Nat} {v : Value} {ls : List (List Nat)} (h : Lvs w base v ls) : ∃ o c, v = .slice o ls.length c ∧ ls.length ≤ c ∧ c ≤ maxLen := by
  obtain ⟨C, h1, h2, _⟩ := h
  have := Sl.slice (Sl.of_own h1)
  rwa [h2] at this

theorem Lvs.get {w : World} {base n c : Nat} {o : Option Addr} {ls : List (List Nat)} (h : Lvs w base (.slice o n c) ls) (h0 : 0 < ls.length) : ∃ g, o = some ⟨g, 0, none⟩ ∧ ∀ k (hk : k < ls.length), ∃ o' c', w.cell? ⟨g, k, none⟩ = some (.slice o' ls[k].length c') ∧ Ints w base (.slice o' ls[k].length c') ls[k] := by
  obtain ⟨C, h1, h2, h3⟩ := h
  rcases own_row h1 with ⟨_, h4, _⟩ | ⟨g, cap, sp, h4, _, h6, _⟩
  · omega
  · simp only [Value.slice.injEq] at h4
    refine ⟨g, h4.1, fun k hk => ?_⟩
    have hi := h3 k hk (by omega)
    obtain ⟨o', c', he⟩ := hi.shape
    refine ⟨o', c', ?_, by rw [← he]; exact hi⟩
    rw [← he]
    refine h6.cell ?_
    rw [List.getElem?_append_left (by omega), List.getElem?_eq_getElem (by omega)]

theorem lvInfo : (Try.prog.info? 23).map (fun i => (i.zero, i.size, i.bytes)) = some (some (.slice none 0 0), 1, 24) := by kernel_rfl

theorem int_ne_row : (3 : TypeId) ≠ 23 := by decide

end Go.Proofs.Ytabhalajelbfoaa
