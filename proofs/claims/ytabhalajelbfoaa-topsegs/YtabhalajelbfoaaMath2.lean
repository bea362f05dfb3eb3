/-
  Plain mathematics: the least divisor, the next irreducible polynomial, how many there are. Nothing of any program.
-/
import Derived.Test.YtabhalajelbfoaaMath
namespace WoolMath

/-- f is the least number from 2 on that divides m -/
def IsLeast (f m : Nat) : Prop := 2 ≤ f ∧ dvd f m ∧ ∀ d, 2 ≤ d → d < f → ¬ dvd d m

theorem least_unique {f g m : Nat} (h : IsLeast f m) (k : IsLeast g m) : f = g := by
  rcases Nat.lt_trichotomy f g with hlt | rfl | hlt
  · exact absurd h.2.1 (k.2.2 f h.1 hlt)
  · rfl
  · exact absurd k.2.1 (h.2.2 g k.1 hlt)

theorem least_is_prime {f m : Nat} (h : IsLeast f m) : Prime f := least_prime h.1 h.2.1 h.2.2

theorem least_iff {f m : Nat} (h : IsLeast f m) : f = m ↔ Prime m := by
  constructor
  · rintro rfl; exact least_is_prime h
  · intro hp
    rcases hp.2 f h.2.1 with e | e
    · have := h.1; omega
    · exact e

theorem dvd_le_num {d a : Nat} (h : dvd d a) (ha : a ≠ 0) : d ≤ a := by
  by_cases e : d = a
  · omega
  · have hl := dvd_lt h ha e
    have h1 := lt_log2 d
    have h2 := (top_of a ha).1
    have := Nat.pow_le_pow_right (n := 2) (by omega) (show d.log2 + 1 ≤ a.log2 by omega)
    omega

/-- nothing up to half the degree: it is its own least divisor -/
theorem least_self {m : Nat} (hm : 2 ≤ m) (h : ∀ d, 2 ≤ d → d < 2 ^ (m.log2 / 2 + 1) → ¬ dvd d m) : IsLeast m m := by
  have hp := half_enough hm h
  refine ⟨hm, dvd_refl m, fun d h1 h2 hd => ?_⟩
  rcases hp.2 d hd with e | e <;> omega

theorem least_exists {m : Nat} (hm : 2 ≤ m) : ∃ f, IsLeast f m ∧ f ≤ m := by
  have key : ∀ n, 2 ≤ n → dvd n m → ∃ f, IsLeast f m ∧ f ≤ n := by
    intro n
    induction n using Nat.strongRecOn with
    | ind n ih =>
      intro h2 hd
      by_cases hex : ∃ d, 2 ≤ d ∧ d < n ∧ dvd d m
      · obtain ⟨d, d1, d2, d3⟩ := hex
        obtain ⟨f, f1, f2⟩ := ih d d2 d1 d3
        exact ⟨f, f1, by omega⟩
      · exact ⟨n, ⟨h2, hd, fun d d1 d2 d3 => hex ⟨d, d1, d2, d3⟩⟩, Nat.le_refl n⟩
  exact key m hm (dvd_refl m)

/-- p is the least irreducible one from m on -/
def IsNext (p m : Nat) : Prop := Prime p ∧ m ≤ p ∧ ∀ q, m ≤ q → q < p → ¬ Prime q

theorem next_exists {m q : Nat} (hq : Prime q) (h : m ≤ q) : ∃ p, IsNext p m ∧ p ≤ q := by
  have key : ∀ n, m ≤ n → Prime n → ∃ p, IsNext p m ∧ p ≤ n := by
    intro n
    induction n using Nat.strongRecOn with
    | ind n ih =>
      intro h2 hd
      by_cases hex : ∃ d, m ≤ d ∧ d < n ∧ Prime d
      · obtain ⟨d, d1, d2, d3⟩ := hex
        obtain ⟨f, f1, f2⟩ := ih d d2 d1 d3
        exact ⟨f, f1, by omega⟩
      · exact ⟨n, ⟨hd, h2, fun d d1 d2 d3 => hex ⟨d, d1, d2, d3⟩⟩, Nat.le_refl n⟩
  exact key q h hq

theorem next_unique {p q m : Nat} (h : IsNext p m) (k : IsNext q m) : p = q := by
  rcases Nat.lt_trichotomy p q with hlt | rfl | hlt
  · exact absurd h.1 (k.2.2 p h.2.1 hlt)
  · rfl
  · exact absurd k.1 (h.2.2 q k.2.1 hlt)

theorem prime_of (m : Nat) (h : isP m = true) : Prime m := (isP_iff m).1 h

/-- the list of factors -/
def IsFactors (l : List Nat) (m : Nat) : Prop := (∀ p, p ∈ l → Prime p) ∧ prodL l = m ∧ l.Pairwise (· ≤ ·)

theorem factors_unique {l k : List Nat} {m : Nat} (h1 : IsFactors l m) (h2 : IsFactors k m) : l = k :=
  unique_sorted l k h1.1 h2.1 (h1.2.1.trans h2.2.1.symm) h1.2.2 h2.2.2

theorem prime_factors_one {p : Nat} (hp : Prime p) : IsFactors [p] p := by
  refine ⟨fun q hq => ?_, ?_, List.pairwise_singleton _ _⟩
  · rw [List.mem_singleton] at hq; subst hq; exact hp
  · rw [prodL_cons, prodL_nil, mul_one]

end WoolMath
