/-
  The longest match at a place of a text, as plain mathematics: how far two places agree, the best distance, and what sets it apart. Conditions: as each says.
-/
namespace WoolMatch

/-- from a place on: how far the text agrees with itself d bytes before, at most f bytes more -/
def comF (L : List UInt8) (i d : Nat) : Nat → Nat → Nat
  | 0, n => n
  | f + 1, n => if L[i + n]? = L[i + n - d]? then comF L i d f (n + 1) else n

theorem comF_spec (L : List UInt8) (i d : Nat) : ∀ (f n : Nat), n ≤ comF L i d f n ∧ comF L i d f n ≤ n + f ∧
    (∀ j, n ≤ j → j < comF L i d f n → L[i + j]? = L[i + j - d]?) ∧ (comF L i d f n = n + f ∨ L[i + comF L i d f n]? ≠ L[i + comF L i d f n - d]?)
  | 0, n => ⟨Nat.le_refl _, Nat.le_refl _, fun j h1 h2 => by unfold comF at h2; omega, .inl rfl⟩
  | f + 1, n => by
    unfold comF
    by_cases h : L[i + n]? = L[i + n - d]?
    · rw [if_pos h]
      obtain ⟨h1, h2, h3, h4⟩ := comF_spec L i d f (n + 1)
      refine ⟨by omega, by omega, fun j a b => ?_, ?_⟩
      · by_cases e : j = n
        · subst e; exact h
        · exact h3 j (by omega) b
      · rcases h4 with h4 | h4
        · left; omega
        · right; exact h4
    · rw [if_neg h]
      exact ⟨Nat.le_refl _, by omega, fun j a b => by omega, .inr h⟩

/-- how far a match may go -/
def most (L : List UInt8) (i : Nat) : Nat := min (L.length - i) 64

def com (L : List UInt8) (i d : Nat) : Nat := comF L i d (most L i) 0

theorem com_le (L : List UInt8) (i d : Nat) : com L i d ≤ most L i := by
  have := (comF_spec L i d (most L i) 0).2.1
  unfold com; omega

theorem com_same (L : List UInt8) (i d j : Nat) (h : j < com L i d) : L[i + j]? = L[i + j - d]? :=
  (comF_spec L i d (most L i) 0).2.2.1 j (Nat.zero_le _) h

theorem com_end (L : List UInt8) (i d : Nat) : com L i d = most L i ∨ L[i + com L i d]? ≠ L[i + com L i d - d]? := by
  have := (comF_spec L i d (most L i) 0).2.2.2
  rw [Nat.zero_add] at this
  exact this

theorem com_ge (L : List UInt8) (i d n : Nat) (h : n ≤ most L i) (hs : ∀ j, j < n → L[i + j]? = L[i + j - d]?) : n ≤ com L i d := by
  apply Nat.le_of_not_lt
  intro hlt
  rcases com_end L i d with h1 | h1
  · omega
  · exact h1 (hs _ hlt)

/-- a place's value, found from both ends -/
theorem com_eq (L : List UInt8) (i d n : Nat) (h : n ≤ most L i) (hs : ∀ j, j < n → L[i + j]? = L[i + j - d]?) (he : n = most L i ∨ L[i + n]? ≠ L[i + n - d]?) : com L i d = n := by
  have h1 := com_ge L i d n h hs
  apply Nat.le_antisymm _ h1
  apply Nat.le_of_not_lt
  intro hlt
  rcases he with he | he
  · have := com_le L i d; omega
  · exact he (com_same L i d n hlt)

/-- the best of the distances 1 to k -/
def longF (L : List UInt8) (i : Nat) : Nat → Nat × Nat
  | 0 => (0, 0)
  | k + 1 => if (longF L i k).2 < com L i (k + 1) then (k + 1, com L i (k + 1)) else longF L i k

def long (L : List UInt8) (i W : Nat) : Nat × Nat := longF L i (min W i)

theorem longF_spec (L : List UInt8) (i : Nat) : ∀ k, (longF L i k).2 ≤ most L i ∧ (longF L i k).1 ≤ k ∧ ((longF L i k).2 = 0 ↔ (longF L i k).1 = 0) ∧
    (0 < (longF L i k).1 → com L i (longF L i k).1 = (longF L i k).2) ∧
    ∀ d, 1 ≤ d → d ≤ k → com L i d ≤ (longF L i k).2 ∧ (com L i d = (longF L i k).2 → (longF L i k).1 ≤ d)
  | 0 => ⟨Nat.zero_le _, Nat.le_refl _, Iff.rfl, fun h => absurd h (Nat.lt_irrefl _), fun d h1 h2 => by omega⟩
  | k + 1 => by
    obtain ⟨h1, h2, h3, h4, h5⟩ := longF_spec L i k
    unfold longF
    by_cases h : (longF L i k).2 < com L i (k + 1)
    · rw [if_pos h]
      refine ⟨com_le _ _ _, Nat.le_refl _, ⟨fun e => ?_, fun e => ?_⟩, fun _ => rfl, fun d a b => ?_⟩
      · have e' : com L i (k + 1) = 0 := e
        omega
      · have e' : k + 1 = 0 := e
        omega
      · by_cases e : d = k + 1
        · subst e; exact ⟨Nat.le_refl _, fun _ => Nat.le_refl _⟩
        · have := (h5 d a (by omega)).1
          exact ⟨by show com L i d ≤ com L i (k + 1); omega, fun e2 => by have e3 : com L i d = com L i (k + 1) := e2; omega⟩
    · rw [if_neg h]
      refine ⟨h1, by omega, h3, h4, fun d a b => ?_⟩
      by_cases e : d = k + 1
      · subst e; exact ⟨by omega, fun _ => by omega⟩
      · exact h5 d a (by omega)

theorem long_most (L : List UInt8) (i W : Nat) : (long L i W).2 ≤ most L i := (longF_spec L i _).1
theorem long_dist (L : List UInt8) (i W : Nat) : (long L i W).1 ≤ W ∧ (long L i W).1 ≤ i := by
  have := (longF_spec L i (min W i)).2.1
  unfold long; omega
theorem long_zero (L : List UInt8) (i W : Nat) : (long L i W).2 = 0 ↔ (long L i W).1 = 0 := (longF_spec L i _).2.2.1
theorem long_com (L : List UInt8) (i W : Nat) (h : 0 < (long L i W).1) : com L i (long L i W).1 = (long L i W).2 := (longF_spec L i _).2.2.2.1 h
theorem long_best (L : List UInt8) (i W d : Nat) (h1 : 1 ≤ d) (h2 : d ≤ W) (h3 : d ≤ i) : com L i d ≤ (long L i W).2 ∧ (com L i d = (long L i W).2 → (long L i W).1 ≤ d) :=
  (longF_spec L i _).2.2.2.2 d h1 (by omega)

theorem long_64 (L : List UInt8) (i W : Nat) : (long L i W).2 ≤ 64 := by have := long_most L i W; unfold most at this; omega
theorem long_fits (L : List UInt8) (i W : Nat) (h : i ≤ L.length) : i + (long L i W).2 ≤ L.length := by have := long_most L i W; unfold most at this; omega

/-- what is found stands there -/
theorem long_same (L : List UInt8) (i W j : Nat) (h : j < (long L i W).2) : L[i + j]? = L[i + j - (long L i W).1]? := by
  have h0 : 0 < (long L i W).1 := by
    rcases Nat.eq_zero_or_pos (long L i W).1 with e | e
    · have := (long_zero L i W).2 e; omega
    · exact e
  rw [← long_com L i W h0] at h
  exact com_same L i _ j h

/-- two numbers that are found by their marks are those of long -/
theorem long_unique (L : List UInt8) (i W x y : Nat) (h1 : 1 ≤ x) (h2 : x ≤ W) (h3 : x ≤ i) (hy : y ≤ com L i x) (h0 : 0 < y) (hmax : ∀ d, 1 ≤ d → d ≤ W → d ≤ i → com L i d ≤ y) (hnear : ∀ d, 1 ≤ d → d < x → com L i d < y) :
    long L i W = (x, y) := by
  have b := long_best L i W x h1 h2 h3
  have m := hmax x h1 h2 h3
  have hd := long_dist L i W
  have hp : 0 < (long L i W).1 := by
    rcases Nat.eq_zero_or_pos (long L i W).1 with e | e
    · have := (long_zero L i W).2 e; omega
    · exact e
  have c := long_com L i W hp
  have m2 := hmax _ hp hd.1 hd.2
  have e2 : (long L i W).2 = y := by omega
  have e1 : (long L i W).1 = x := by
    have := b.2 (by omega)
    apply Nat.le_antisymm this
    apply Nat.le_of_not_lt
    intro hlt
    have := hnear _ hp hlt
    omega
  exact Prod.ext e1 e2

theorem long_none (L : List UInt8) (i W : Nat) (hmax : ∀ d, 1 ≤ d → d ≤ W → d ≤ i → com L i d = 0) : long L i W = (0, 0) := by
  have hd := long_dist L i W
  have e1 : (long L i W).1 = 0 := by
    rcases Nat.eq_zero_or_pos (long L i W).1 with e | e
    · exact e
    · have c := long_com L i W e
      have := hmax _ e hd.1 hd.2
      rw [this] at c
      exact (long_zero L i W).1 c.symm
  exact Prod.ext e1 ((long_zero L i W).2 e1)

/-- a larger window: no shorter match -/
theorem long_window (L : List UInt8) (i V W : Nat) (h : V ≤ W) : (long L i V).2 ≤ (long L i W).2 := by
  rcases Nat.eq_zero_or_pos (long L i V).1 with e | e
  · have := (long_zero L i V).2 e; omega
  · have c := long_com L i V e
    have hd := long_dist L i V
    have := (long_best L i W _ e (by omega) hd.2).1
    omega

/-- from a place k behind: at most k shorter -/
theorem long_later (L : List UInt8) (i k W : Nat) : (long L i W).2 ≤ (long L (i + k) W).2 + k := by
  rcases Nat.eq_zero_or_pos (long L i W).1 with e | e
  · have := (long_zero L i W).2 e; omega
  · have c := long_com L i W e
    have hd := long_dist L i W
    by_cases hk : (long L i W).2 ≤ k
    · omega
    · have hm := long_most L i W
      have : (long L i W).2 - k ≤ com L (i + k) (long L i W).1 := by
        refine com_ge _ _ _ _ (by unfold most at *; omega) (fun j hj => ?_)
        have := com_same L i (long L i W).1 (k + j) (by omega)
        rw [show i + k + j = i + (k + j) by omega]
        exact this
      have := (long_best L (i + k) W _ e hd.1 (by omega)).1
      omega

end WoolMatch
