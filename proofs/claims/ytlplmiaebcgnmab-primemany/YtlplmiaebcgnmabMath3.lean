/-
  Plain mathematics: polynomials read from the other end; how many irreducible ones lie between two numbers. Nothing of any program.
-/
import Derived.Test.YtlplmiaebcgnmabMath2
namespace WoolMath

/-- the first k bits, from the other end -/
def rv (N : Nat) : Nat → Nat
  | 0 => 0
  | k + 1 => 2 * rv N k + (N.testBit k).toNat

theorem rv_bit (N : Nat) : ∀ (k i : Nat), (rv N k).testBit i = (decide (i < k) && N.testBit (k - 1 - i)) := by
  intro k
  induction k with
  | zero => intro i; simp [rv]
  | succ k ih =>
    intro i
    cases i with
    | zero =>
      rw [rv]
      cases h : N.testBit k with
      | true => simp [Nat.testBit_zero, h]
      | false => simp [Nat.testBit_zero, h]
    | succ i =>
      rw [rv, Nat.testBit_succ]
      have e : (2 * rv N k + (N.testBit k).toNat) / 2 = rv N k := by
        cases N.testBit k <;> simp <;> omega
      rw [e, ih i]
      have e2 : k + 1 - 1 - (i + 1) = k - 1 - i := by omega
      rw [e2]
      by_cases h : i < k
      · simp [h]
      · simp [h]

theorem rv_lt (N k : Nat) : rv N k < 2 ^ k := by
  apply Nat.lt_pow_two_of_testBit
  intro i hi
  rw [rv_bit]
  simp [show ¬ i < k by omega]

theorem rv_xor (A B k : Nat) : rv (A ^^^ B) k = rv A k ^^^ rv B k := by
  apply Nat.eq_of_testBit_eq
  intro i
  rw [Nat.testBit_xor, rv_bit, rv_bit, rv_bit, Nat.testBit_xor]
  cases decide (i < k) <;> simp

theorem rv_zero (k : Nat) : rv 0 k = 0 := by
  apply Nat.eq_of_testBit_eq
  intro i
  rw [rv_bit]; simp

theorem bit_high (A n k : Nat) (h : A < 2 ^ n) (hk : n ≤ k) : A.testBit k = false :=
  Nat.testBit_lt_two_pow (Nat.lt_of_lt_of_le h (Nat.pow_le_pow_right (by omega) hk))

theorem bit_mul_pow (A j i : Nat) : (A * 2 ^ j).testBit i = (decide (j ≤ i) && A.testBit (i - j)) := by
  rw [Nat.mul_comm, Nat.testBit_two_pow_mul]

/-- a power of x moves to the other end -/
theorem rv_mono (A n m j : Nat) (hA : A < 2 ^ n) (hn : 1 ≤ n) (hj : j < m) : rv (A * 2 ^ j) (n + m - 1) = rv A n * 2 ^ (m - 1 - j) := by
  apply Nat.eq_of_testBit_eq
  intro i
  rw [rv_bit, bit_mul_pow, bit_mul_pow, rv_bit]
  by_cases h1 : i < n + m - 1
  · by_cases h2 : j ≤ n + m - 1 - 1 - i
    · by_cases h3 : m - 1 - j ≤ i
      · have h4 : i - (m - 1 - j) < n := by omega
        have e : n + m - 1 - 1 - i - j = n - 1 - (i - (m - 1 - j)) := by omega
        simp [h1, h2, h3, h4, e]
      · have hf : A.testBit (n + m - 1 - 1 - i - j) = false := bit_high A n _ hA (by omega)
        simp [h3, hf]
    · have h4 : ¬ i - (m - 1 - j) < n := by omega
      simp [h2, h4]
  · have h4 : ¬ i - (m - 1 - j) < n := by omega
    simp [h1, h4]

theorem mod_bit (A i : Nat) : A % 2 ^ (i + 1) = (A % 2 ^ i) ^^^ (if A.testBit i = true then 2 ^ i else 0) := by
  apply Nat.eq_of_testBit_eq
  intro j
  rw [Nat.testBit_xor, Nat.testBit_mod_two_pow, Nat.testBit_mod_two_pow]
  by_cases h : A.testBit i = true
  · rw [if_pos h, Nat.testBit_two_pow]
    by_cases e : i = j
    · subst e; simp [h]
    · by_cases l : j < i
      · simp [l, e, show j < i + 1 by omega]
      · simp [l, e, show ¬ j < i + 1 by omega]
  · rw [if_neg h, Nat.zero_testBit, Bool.xor_false]
    by_cases e : j = i
    · subst e
      have : A.testBit j = false := by simpa using h
      simp [this]
    · by_cases l : j < i
      · simp [l, show j < i + 1 by omega]
      · simp [l, show ¬ j < i + 1 by omega]

/-- the other end of a product -/
theorem rv_mul (A B n m : Nat) (hA : A < 2 ^ n) (hB : B < 2 ^ m) (hn : 1 ≤ n) : rv (mul A B) (n + m - 1) = mul (rv A n) (rv B m) := by
  have key : ∀ k, k ≤ m → rv (mul A (B % 2 ^ k)) (n + m - 1) = mul (rv A n) (rv (B % 2 ^ k) m) := by
    intro k
    induction k with
    | zero => intro _; rw [Nat.pow_zero, Nat.mod_one, mul_zero, rv_zero, rv_zero, mul_zero]
    | succ k ih =>
      intro hk
      rw [mod_bit, mul_xor, rv_xor, rv_xor, mul_xor, ih (by omega)]
      congr 1
      split
      · have e1 : rv (2 ^ k) m = 2 ^ (m - 1 - k) := by
          have := rv_mono 1 1 m k (by omega) (by omega) (by omega)
          rw [Nat.one_mul, show 1 + m - 1 = m by omega] at this
          rw [this]
          have : rv 1 1 = 1 := by decide
          rw [this, Nat.one_mul]
        rw [e1, mul_pow, mul_pow, rv_mono A n m k hA hn (by omega)]
      · rw [mul_zero, rv_zero, rv_zero, mul_zero]
  have := key m (Nat.le_refl m)
  rwa [Nat.mod_eq_of_lt hB] at this

/-- a polynomial from its other end -/
def turned (N : Nat) : Nat := rv N (blen N)

theorem odd_ne (A : Nat) (h : A.testBit 0 = true) : A ≠ 0 := by intro e; subst e; simp at h

theorem turned_blen (A : Nat) (h : A.testBit 0 = true) : blen (turned A) = blen A := by
  have h0 := odd_ne A h
  obtain ⟨k, hk⟩ : ∃ k, blen A = k + 1 := ⟨A.log2, blen_pos A h0⟩
  have hlt : turned A < 2 ^ (k + 1) := by unfold turned; rw [hk]; exact rv_lt _ _
  have ht : (turned A).testBit k = true := by
    unfold turned
    rw [hk, rv_bit]
    simp [h]
  have hge : 2 ^ k ≤ turned A := Nat.ge_two_pow_of_testBit ht
  have hne : turned A ≠ 0 := by have := Nat.pow_pos (n := k) (show 0 < 2 by omega); omega
  rw [blen_pos _ hne, log2_of k _ hge hlt, hk]

theorem top_testBit (A : Nat) (h0 : A ≠ 0) : A.testBit (blen A - 1) = true := by
  obtain ⟨t1, t2⟩ := top_of A h0
  rw [blen_pos A h0, Nat.add_sub_cancel]
  exact top_bit _ _ t1 t2

theorem turned_odd (A : Nat) (h0 : A ≠ 0) : (turned A).testBit 0 = true := by
  unfold turned
  rw [rv_bit]
  have : 0 < blen A := by rw [blen_pos A h0]; omega
  simp [this, top_testBit A h0]

theorem turned_turned (A : Nat) (h : A.testBit 0 = true) : turned (turned A) = A := by
  have hb := turned_blen A h
  apply Nat.eq_of_testBit_eq
  intro i
  show (rv (turned A) (blen (turned A))).testBit i = A.testBit i
  rw [hb, rv_bit]
  unfold turned
  rw [rv_bit]
  by_cases hi : i < blen A
  · have h1 : blen A - 1 - i < blen A := by omega
    have h2 : blen A - 1 - (blen A - 1 - i) = i := by omega
    simp [hi, h1, h2]
  · have := bit_high A (blen A) i (lt_blen A) (by omega)
    simp [hi, this]

theorem turned_mul (A B : Nat) (hA : A ≠ 0) (hB : B ≠ 0) : turned (mul A B) = mul (turned A) (turned B) := by
  unfold turned
  obtain ⟨m1, m2⟩ := mul_log2 A B hA hB
  have e : blen (mul A B) = blen A + blen B - 1 := by
    rw [blen_pos _ m1, blen_pos _ hA, blen_pos _ hB, m2]; omega
  rw [e]
  exact rv_mul A B _ _ (lt_blen A) (lt_blen B) (by rw [blen_pos _ hA]; omega)

theorem mul_bit0 (A B : Nat) : (mul A B).testBit 0 = (A.testBit 0 && B.testBit 0) := by
  rw [mul_step, Nat.testBit_xor]
  have e : (2 * mul A (B / 2)).testBit 0 = false := by simp [Nat.testBit_zero]
  rw [e, Bool.xor_false]
  by_cases h : B % 2 = 1
  · rw [if_pos h]
    have : B.testBit 0 = true := by simp [Nat.testBit_zero, h]
    rw [this, Bool.and_true]
  · rw [if_neg h]
    have : B.testBit 0 = false := by simp [Nat.testBit_zero, h]
    rw [this, Bool.and_false, Nat.zero_testBit]

theorem turned_one : turned 1 = 1 := by decide

theorem turned_inj (A B : Nat) (hA : A.testBit 0 = true) (hB : B.testBit 0 = true) (h : turned A = turned B) : A = B := by
  rw [← turned_turned A hA, ← turned_turned B hB, h]

theorem two_le_iff (A : Nat) (h0 : A ≠ 0) : 2 ≤ A ↔ 2 ≤ blen A := by
  rw [blen_pos A h0]
  constructor
  · intro h; have := (Nat.le_log2 h0).2 (show 2 ^ 1 ≤ A by omega); omega
  · intro h
    have := (top_of A h0).1
    have := Nat.pow_le_pow_right (n := 2) (by omega) (show 1 ≤ A.log2 by omega)
    omega

theorem turned_prime1 (A : Nat) (h : A.testBit 0 = true) (hp : Prime (turned A)) : Prime A := by
  have h0 := odd_ne A h
  have ht0 : turned A ≠ 0 := prime_ne hp
  refine ⟨?_, fun d hd => ?_⟩
  · rw [two_le_iff A h0, ← turned_blen A h, ← two_le_iff _ ht0]; exact hp.1
  · obtain ⟨q, hq⟩ := hd
    have hbits := mul_bit0 q d
    rw [← hq, h] at hbits
    have hqd : q.testBit 0 = true ∧ d.testBit 0 = true := by
      have := hbits.symm
      simpa using this
    have e := turned_mul q d (odd_ne q hqd.1) (odd_ne d hqd.2)
    rw [← hq] at e
    rcases hp.2 (turned d) ⟨turned q, e⟩ with h1 | h1
    · left
      have h1' : turned d = turned 1 := by rw [h1, turned_one]
      exact turned_inj d 1 hqd.2 (by decide) h1'
    · right
      exact turned_inj d A hqd.2 h h1

theorem turned_prime (A : Nat) (h : A.testBit 0 = true) : Prime (turned A) ↔ Prime A := by
  constructor
  · exact turned_prime1 A h
  · intro hp
    refine turned_prime1 (turned A) (turned_odd A (odd_ne A h)) ?_
    rw [turned_turned A h]; exact hp

/-- how many lie from a up to (not at) b -/
def pc (a : Nat) : Nat → Nat
  | 0 => 0
  | b + 1 => pc a b + (if decide (a ≤ b) && isP b then 1 else 0)

theorem pc_gap (a P : Nat) : ∀ (j : Nat), (∀ q, P ≤ q → q < P + j → ¬ Prime q) → pc a (P + j) = pc a P := by
  intro j
  induction j with
  | zero => intro _; rfl
  | succ j ih =>
    intro h
    rw [← Nat.add_assoc, pc, ih (fun q q1 q2 => h q q1 (by omega))]
    have hn : isP (P + j) = false := by
      cases hb : isP (P + j) with
      | false => rfl
      | true => exact absurd ((isP_iff _).1 hb) (h _ (by omega) (by omega))
    simp [hn]

theorem pc_next (a P Q : Nat) (ha : a ≤ P) (h : IsNext Q P) : pc a (Q + 1) = pc a P + 1 := by
  obtain ⟨h1, h2, h3⟩ := h
  obtain ⟨j, rfl⟩ : ∃ j, Q = P + j := ⟨Q - P, by omega⟩
  rw [pc, pc_gap a P j h3, (isP_iff _).2 h1]
  simp [show a ≤ P + j by omega]

theorem pc_upto (a P Q B : Nat) (hPB : P ≤ B) (hBQ : B ≤ Q) (h : IsNext Q P) : pc a B = pc a P := by
  obtain ⟨j, rfl⟩ : ∃ j, B = P + j := ⟨B - P, by omega⟩
  exact pc_gap a P j (fun q q1 q2 => h.2.2 q q1 (by omega))

end WoolMath
