/-
  What prime.Factors, slices.Equal and slices.IsSorted (of ints) return: the list of irreducible factors, rising; whether two rows hold the same numbers; whether a row rises. Conditions: as each says.
-/
import Derived.Test.YtabhalajelbfoaaPrime
import Derived.OwnWalk
import Derived.Laws.OwnMore
import Derived.BigRegion
import Derived.BigQuiet
namespace Go.Proofs.Ytabhalajelbfoaa
open Go.RowKit
open Go.Proofs

/-- numbers as cells -/
def intL (l : List Nat) : List Value := l.map fun x : Nat => .int .i64 (x : Int)

theorem intL_length (l : List Nat) : (intL l).length = l.length := by simp [intL]
theorem intL_get (l : List Nat) (j : Nat) (h : j < l.length) : (intL l)[j]? = some (.int .i64 ((l[j] : Nat) : Int)) := by
  simp [intL, h]
theorem intL_snoc (l : List Nat) (x : Nat) : intL (l ++ [x]) = intL l ++ [.int .i64 (x : Int)] := by simp [intL]

theorem intInfo : (Try.prog.info? 3).map (fun i => (i.zero, i.size, i.bytes)) = some (some (.int .i64 0), 1, 8) := by kernel_rfl

/-- a slice of ints that reads as a list of numbers -/
def Ints (w : World) (base : Nat) (v : Value) (l : List Nat) : Prop := w.ownsRow base 3 1 v l.length (intL l)

theorem Ints.up {w w' : World} {base : Nat} {v : Value} {l : List Nat} (h : Ints w base v l) (hu : Up w w') : Ints w' base v l := by
  refine ⟨h.1, ?_⟩
  rcases h.2 with h | ⟨g, cap, cur, h1, h2, h3, h4⟩
  · exact .inl h
  · refine .inr ⟨g, cap, cur, h1, h2, ?_, h4⟩
    have hg : g < w.heap.size := by
      rcases Nat.lt_or_ge g w.heap.size with hlt | hge
      · exact hlt
      · rw [Array.getElem?_eq_none hge] at h3; cases h3
    rw [← h3]; exact hu.block g hg

theorem Ints.weak {w : World} {base b2 : Nat} {v : Value} {l : List Nat} (h : Ints w base v l) (hb : b2 ≤ base) : Ints w b2 v l := by
  refine ⟨h.1, ?_⟩
  rcases h.2 with h | ⟨g, cap, cur, h1, h2, h3⟩
  · exact .inl h
  · exact .inr ⟨g, cap, cur, h1, Nat.le_trans hb h2, h3⟩

theorem Ints.shape {w : World} {base : Nat} {v : Value} {l : List Nat} (h : Ints w base v l) : ∃ o c, v = .slice o l.length c := by
  rcases h.2 with ⟨rfl, h0⟩ | ⟨g, cap, cur, rfl, _⟩
  · exact ⟨_, _, by rw [h0]⟩
  · exact ⟨_, _, rfl⟩

theorem Ints.block {w : World} {base : Nat} {v : Value} {l : List Nat} (h : Ints w base v l) (hn : 0 < l.length) : ∃ g c, v = .slice (some ⟨g, 0, none⟩) l.length c ∧ base ≤ g ∧ g < w.heap.size ∧ l.length ≤ c ∧ c ≤ maxLen := by
  rcases h.2 with ⟨rfl, h0⟩ | ⟨g, cap, cur, rfl, h2, h3, h4, h5, _⟩
  · omega
  · refine ⟨g, cap, rfl, h2, ?_, h4, h5⟩
    rcases Nat.lt_or_ge g w.heap.size with hlt | hge
    · exact hlt
    · rw [Array.getElem?_eq_none hge] at h3; cases h3

theorem Ints.cell {w : World} {base g c : Nat} {l : List Nat} (h : Ints w base (.slice (some ⟨g, 0, none⟩) l.length c) l) (j : Nat) (hj : j < l.length) : w.cell? ⟨g, j, none⟩ = some (.int .i64 ((l[j] : Nat) : Int)) :=
  (World.ownsRow.cellAt h j (by omega)).trans (intL_get l j hj)

theorem Ints.nil (w : World) (base : Nat) : Ints w base (.slice none 0 0) [] := World.ownsRow_nil _ _ _ _

theorem one_mem' (x : Value) (h : x.oneCell' = true) : ∀ u ∈ [x], u.oneCell' = true := by
  intro u hu; rw [List.mem_singleton] at hu; rw [hu]; exact h

theorem grown_up' {w wr w' : World} {v : Value} {n : Nat} {xs : List Value} {e : TypeId} (hu : Up w wr) (hown : wr.ownsRow w.heap.size e 1 v n xs) (hg : wr.grownBy w' v.ownBlock) : Up w w' :=
  Below.grown hu hg hu.size (fun k hk => (hown.lt k hk).1)

/-! ytabhalajelbfoaa# Factors -/

/-- the state of the search: what is left, from where on, what has been found -/
def FacInv (M R F : Nat) (l : List Nat) : Prop :=
  1 ≤ R ∧ R ≤ 2147483647 ∧ 2 ≤ F ∧ F ≤ 2147483647 ∧ WoolMath.mul (WoolMath.prodL l) R = M ∧ (∀ p, p ∈ l → WoolMath.Prime p) ∧ l.Pairwise (· ≤ ·) ∧ (∀ p, p ∈ l → p ≤ F) ∧
    (∀ d, 2 ≤ d → d < F → ¬ WoolMath.dvd d R) ∧ l.length + R.log2 ≤ M.log2

theorem facInv_start (M : Nat) (h1 : 1 ≤ M) (h2 : M ≤ 2147483647) : FacInv M M 2 [] := by
  refine ⟨h1, h2, by omega, by omega, by rw [WoolMath.prodL_nil, WoolMath.one_mul], by simp, List.Pairwise.nil, by simp, fun d d1 d2 => by omega, by simp⟩

theorem facInv_next (M R F f : Nat) (l : List Nat) (hR : 2 ≤ R) (h : FacInv M R F l) (hf : WoolMath.IsLeast f R) :
    F ≤ f ∧ f ≤ R ∧ FacInv M (WoolMath.pdiv R f) f (l ++ [f]) ∧ WoolMath.pdiv R f < R ∧ 1 ≤ WoolMath.pdiv R f := by
  obtain ⟨i1, i2, i3, i4, i5, i6, i7, i8, i9, i10⟩ := h
  have hFf : F ≤ f := by
    apply Nat.le_of_not_lt
    intro hlt
    exact i9 f hf.1 hlt hf.2.1
  have hp := WoolMath.least_is_prime hf
  have f0 : f ≠ 0 := by have := hf.1; omega
  have hr0 : WoolMath.pmod R f = 0 := (WoolMath.dvd_iff _ _ f0).1 hf.2.1
  have e := WoolMath.pdiv_eq R f
  rw [hr0, Nat.xor_zero] at e
  have q0 : WoolMath.pdiv R f ≠ 0 := by intro h; rw [h, WoolMath.zero_mul] at e; omega
  have hfR := WoolMath.dvd_le_num hf.2.1 (by omega)
  have hlog := (WoolMath.mul_log2 _ f q0 f0).2
  rw [← e] at hlog
  have hfl : 1 ≤ f.log2 := (Nat.le_log2 f0).2 hf.1
  have hqR : WoolMath.pdiv R f < R := by
    have a1 := WoolMath.lt_log2 (WoolMath.pdiv R f)
    have a2 := (WoolMath.top_of R (by omega)).1
    have := Nat.pow_le_pow_right (n := 2) (by omega) (show (WoolMath.pdiv R f).log2 + 1 ≤ R.log2 by omega)
    omega
  refine ⟨hFf, hfR, ⟨by omega, by omega, hf.1, by omega, ?_, ?_, ?_, ?_, ?_, ?_⟩, hqR, by omega⟩
  · rw [WoolMath.prodL_append, WoolMath.prodL_cons, WoolMath.prodL_nil, WoolMath.mul_one, WoolMath.mul_assoc, WoolMath.mul_comm f, ← e]
    exact i5
  · intro p hp'
    rw [List.mem_append, List.mem_singleton] at hp'
    rcases hp' with h | rfl
    · exact i6 p h
    · exact hp
  · rw [List.pairwise_append]
    refine ⟨i7, List.pairwise_singleton _ _, fun a ha b hb => ?_⟩
    rw [List.mem_singleton] at hb
    subst hb
    have := i8 a ha
    omega
  · intro p hp'
    rw [List.mem_append, List.mem_singleton] at hp'
    rcases hp' with h | rfl
    · have := i8 p h; omega
    · exact Nat.le_refl _
  · intro d d1 d2 d3
    refine hf.2.2 d d1 d2 (WoolMath.dvd_trans d3 ⟨f, ?_⟩)
    rw [WoolMath.mul_comm]; exact e
  · rw [List.length_append, List.length_singleton]
    omega

theorem facInv_end (M F : Nat) (l : List Nat) (h : FacInv M 1 F l) : WoolMath.IsFactors l M := by
  obtain ⟨_, _, _, _, i5, i6, i7, _⟩ := h
  rw [WoolMath.mul_one] at i5
  exact ⟨i6, i5, i7⟩

theorem log2_le30 (M : Nat) (h0 : M ≠ 0) (h : M ≤ 2147483647) : M.log2 ≤ 30 := by
  have := (Nat.log2_lt h0).2 (show M < 2 ^ 31 by omega)
  omega

def FacRel (M : Nat) (w : World) (m fs f : Value) (wr : World) : Prop :=
  ∃ (R F : Nat) (l : List Nat), FacInv M R F l ∧ m = .int .i64 R ∧ f = .int .i64 F ∧ Ints wr w.heap.size fs l ∧ Up w wr

def FacPost (M : Nat) (w : World) (e : Ending) (w' : World) : Prop :=
  ∃ (v : Value) (l : List Nat), WoolMath.IsFactors l M ∧ l.length ≤ 30 ∧ e = .returned (.tuple #[v, .int .i64 0]) ∧ Ints w' w.heap.size v l ∧ Up w w'

/-! ytabhalajelbfoaa# slices.Equal -/

def EqRel (n : Nat) (w : World) (i : Value) (wr : World) : Prop := ∃ K : Nat, K ≤ n ∧ i = .int .i64 K ∧ Up w wr

end Go.Proofs.Ytabhalajelbfoaa
