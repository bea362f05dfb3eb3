/-
  Plain mathematics of polynomials over two elements, written as natural numbers: products without carries, division, the greatest common divisor, irreducible ones, factors, powers. Nothing of any program.
-/
namespace WoolMath


/-! Polynomials over two elements, as numbers: addition is xor, `mul` the product without carries. -/

theorem two_mul_xor (a b : Nat) : 2 * (a ^^^ b) = (2 * a) ^^^ (2 * b) := by
  have h := Nat.shiftLeft_xor_distrib (a := a) (b := b) (i := 1)
  simp only [Nat.shiftLeft_eq, Nat.pow_one] at h
  rw [Nat.mul_comm 2, Nat.mul_comm 2, Nat.mul_comm 2]; exact h

theorem two_mul_xor_one (a : Nat) : (2 * a) ^^^ 1 = 2 * a + 1 := by
  apply Nat.eq_of_testBit_eq
  intro i
  cases i with
  | zero => simp
  | succ i =>
    rw [Nat.testBit_xor, Nat.testBit_succ, Nat.testBit_succ, Nat.testBit_succ]
    have e1 : (2 * a + 1) / 2 = 2 * a / 2 := by omega
    have e2 : 1 / 2 = 0 := by omega
    rw [e1, e2, Nat.zero_testBit, Bool.xor_false]

theorem xor_cancel_left (a b : Nat) : a ^^^ (a ^^^ b) = b := by
  rw [← Nat.xor_assoc, Nat.xor_self, Nat.zero_xor]

theorem xor_eq_zero (a b : Nat) (h : a ^^^ b = 0) : a = b := by
  have := xor_cancel_left a b
  rw [h, Nat.xor_zero] at this; exact this

theorem xor_left_comm (a b c : Nat) : a ^^^ (b ^^^ c) = b ^^^ (a ^^^ c) := by
  rw [← Nat.xor_assoc, Nat.xor_comm a b, Nat.xor_assoc]

theorem xor_swap (a b c d : Nat) : (a ^^^ b) ^^^ (c ^^^ d) = (a ^^^ c) ^^^ (b ^^^ d) := by
  rw [Nat.xor_assoc, Nat.xor_assoc, xor_left_comm b c d]

theorem xor_top (n x y : Nat) (hx : 2 ^ n ≤ x) (hx' : x < 2 ^ (n + 1)) (hy : y < 2 ^ n) :
    2 ^ n ≤ x ^^^ y ∧ x ^^^ y < 2 ^ (n + 1) := by
  have h2 : 2 ^ (n + 1) = 2 ^ n * 2 := Nat.pow_succ ..
  refine ⟨?_, Nat.xor_lt_two_pow hx' (by omega)⟩
  apply Nat.le_of_not_lt
  intro h
  have := Nat.xor_lt_two_pow h hy
  rw [Nat.xor_assoc, Nat.xor_self, Nat.xor_zero] at this
  omega

/-- the product, by the bits of the second factor, so many of them -/
def mulF : Nat → Nat → Nat → Nat
  | 0, _, _ => 0
  | k + 1, a, b => (if b % 2 = 1 then a else 0) ^^^ (2 * mulF k a (b / 2))

/-- the product of two polynomials -/
def mul (a b : Nat) : Nat := mulF (b.log2 + 1) a b

theorem mulF_zero (k a : Nat) : mulF k a 0 = 0 := by
  induction k with
  | zero => rfl
  | succ k ih => simp [mulF, ih]

theorem mulF_enough (k : Nat) : ∀ (j a b : Nat), b < 2 ^ k → b < 2 ^ j → mulF k a b = mulF j a b := by
  induction k with
  | zero => intro j a b h _; have : b = 0 := by simpa using h
            subst this; rw [mulF_zero, mulF_zero]
  | succ k ih =>
    intro j a b h1 h2
    cases j with
    | zero => have : b = 0 := by simpa using h2
              subst this; rw [mulF_zero, mulF_zero]
    | succ j =>
      simp only [mulF]
      rw [ih j a (b / 2) (by rw [Nat.pow_succ] at h1; omega) (by rw [Nat.pow_succ] at h2; omega)]

theorem lt_log2 (b : Nat) : b < 2 ^ (b.log2 + 1) := Nat.lt_log2_self

theorem mul_eq (k a b : Nat) (h : b < 2 ^ k) : mul a b = mulF k a b :=
  mulF_enough _ _ _ _ (lt_log2 b) h

theorem mul_zero (a : Nat) : mul a 0 = 0 := mulF_zero _ _

theorem mul_step (a b : Nat) : mul a b = (if b % 2 = 1 then a else 0) ^^^ (2 * mul a (b / 2)) := by
  have h : b < 2 ^ ((b.log2 + 1) + 1) := by
    have := lt_log2 b
    rw [Nat.pow_succ]; omega
  rw [mul_eq _ a b h]
  have h2 : b / 2 < 2 ^ (b.log2 + 1) := by
    have := lt_log2 b; omega
  rw [mul_eq _ a (b / 2) h2]; rfl

theorem mul_even (a b : Nat) : mul a (2 * b) = 2 * mul a b := by
  rw [mul_step]
  have h1 : 2 * b % 2 = 0 := by omega
  have h2 : 2 * b / 2 = b := by omega
  simp [h2]

theorem mul_odd (a b : Nat) : mul a (2 * b + 1) = a ^^^ (2 * mul a b) := by
  rw [mul_step]
  have h1 : (2 * b + 1) % 2 = 1 := by omega
  have h2 : (2 * b + 1) / 2 = b := by omega
  simp [h1, h2]

theorem mul_one (a : Nat) : mul a 1 = a := by
  have := mul_odd a 0
  simpa [mul_zero] using this

/-- induction by bits -/
theorem bits_ind {P : Nat → Prop} (h0 : P 0) (he : ∀ b, P b → P (2 * b)) (ho : ∀ b, P b → P (2 * b + 1)) : ∀ b, P b := by
  intro b
  induction b using Nat.strongRecOn with
  | ind b ih =>
    by_cases hb : b = 0
    · subst hb; exact h0
    · have := ih (b / 2) (by omega)
      by_cases hp : b % 2 = 1
      · have e : b = 2 * (b / 2) + 1 := by omega
        rw [e]; exact ho _ this
      · have e : b = 2 * (b / 2) := by omega
        rw [e]; exact he _ this

theorem zero_mul (b : Nat) : mul 0 b = 0 := by
  refine bits_ind (P := fun b => mul 0 b = 0) (mul_zero 0) ?_ ?_ b
  · intro b ih; simp only [mul_even, ih]
  · intro b ih; simp only [mul_odd, ih]; rfl

theorem even_mul (a b : Nat) : mul (2 * a) b = 2 * mul a b := by
  refine bits_ind (P := fun b => mul (2 * a) b = 2 * mul a b) ?_ ?_ ?_ b
  · simp [mul_zero]
  · intro b ih; simp only [mul_even, ih]
  · intro b ih; simp only [mul_odd, ih, two_mul_xor]

theorem xor_mul (a b c : Nat) : mul (a ^^^ b) c = mul a c ^^^ mul b c := by
  refine bits_ind (P := fun c => mul (a ^^^ b) c = mul a c ^^^ mul b c) ?_ ?_ ?_ c
  · simp [mul_zero]
  · intro c ih; simp only [mul_even, ih, two_mul_xor]
  · intro c ih; simp only [mul_odd, ih, two_mul_xor]; exact xor_swap _ _ _ _

theorem one_mul (b : Nat) : mul 1 b = b := by
  refine bits_ind (P := fun b => mul 1 b = b) (mul_zero 1) ?_ ?_ b
  · intro b ih; simp only [mul_even, ih]
  · intro b ih; simp only [mul_odd, ih]; rw [Nat.xor_comm]; exact two_mul_xor_one b

theorem mul_comm (a b : Nat) : mul a b = mul b a := by
  refine bits_ind (P := fun b => mul a b = mul b a) ?_ ?_ ?_ b
  · rw [mul_zero, zero_mul]
  · intro b ih; rw [mul_even, even_mul, ih]
  · intro b ih; rw [mul_odd, ih, ← two_mul_xor_one, xor_mul, even_mul, one_mul, Nat.xor_comm]

theorem mul_xor (a b c : Nat) : mul a (b ^^^ c) = mul a b ^^^ mul a c := by
  rw [mul_comm, xor_mul, mul_comm b, mul_comm c]

theorem mul_assoc (a b c : Nat) : mul (mul a b) c = mul a (mul b c) := by
  refine bits_ind (P := fun c => mul (mul a b) c = mul a (mul b c)) ?_ ?_ ?_ c
  · simp [mul_zero]
  · intro c ih; simp only [mul_even, ih]
  · intro c ih; simp only [mul_odd, mul_xor, mul_even, ih]

theorem mul_left_comm (a b c : Nat) : mul a (mul b c) = mul b (mul a c) := by
  rw [← mul_assoc, mul_comm a b, mul_assoc]

theorem mul_right_comm (a b c : Nat) : mul (mul a b) c = mul (mul a c) b := by
  rw [mul_assoc, mul_comm b c, mul_assoc]

theorem mul_pow (a k : Nat) : mul a (2 ^ k) = a * 2 ^ k := by
  induction k with
  | zero => simp [mul_one]
  | succ k ih => rw [Nat.pow_succ, Nat.mul_comm (2 ^ k) 2, mul_even, ih, Nat.mul_left_comm]

theorem mul_shift (a k : Nat) : a <<< k = mul a (2 ^ k) := by rw [mul_pow, Nat.shiftLeft_eq]

/-- where the leading bit of a product stands -/
theorem mul_top (k : Nat) : ∀ (n a b : Nat), 2 ^ n ≤ a → a < 2 ^ (n + 1) → 2 ^ k ≤ b → b < 2 ^ (k + 1) →
    2 ^ (n + k) ≤ mul a b ∧ mul a b < 2 ^ (n + k + 1) := by
  induction k with
  | zero =>
    intro n a b h1 h2 h3 h4
    have : b = 1 := by simp at h3 h4; omega
    subst this; rw [mul_one]; exact ⟨h1, h2⟩
  | succ k ih =>
    intro n a b h1 h2 h3 h4
    have p1 : 2 ^ (k + 1) = 2 ^ k * 2 := Nat.pow_succ ..
    have p2 : 2 ^ (k + 1 + 1) = 2 ^ (k + 1) * 2 := Nat.pow_succ ..
    have p3 : 2 ^ (n + (k + 1)) = 2 ^ (n + k) * 2 := Nat.pow_succ ..
    have p4 : 2 ^ (n + (k + 1) + 1) = 2 ^ (n + (k + 1)) * 2 := Nat.pow_succ ..
    have p5 : 2 ^ (n + k + 1) = 2 ^ (n + k) * 2 := Nat.pow_succ ..
    obtain ⟨q1, q2⟩ := ih n a (b / 2) h1 h2 (by omega) (by omega)
    have hle : 2 ^ (n + 1) ≤ 2 ^ (n + (k + 1)) := Nat.pow_le_pow_right (by omega) (by omega)
    rw [mul_step, Nat.xor_comm]
    refine xor_top _ _ _ (by omega) (by omega) ?_
    by_cases hb : b % 2 = 1
    · rw [if_pos hb]; omega
    · rw [if_neg hb]; exact Nat.pow_pos (by omega)

theorem top_of (a : Nat) (h : a ≠ 0) : 2 ^ a.log2 ≤ a ∧ a < 2 ^ (a.log2 + 1) := ⟨Nat.log2_self_le h, lt_log2 a⟩

theorem log2_of (n a : Nat) (h1 : 2 ^ n ≤ a) (h2 : a < 2 ^ (n + 1)) : a.log2 = n := by
  have h0 : a ≠ 0 := by have := Nat.pow_pos (n := n) (show 0 < 2 by omega); omega
  have l1 : n ≤ a.log2 := (Nat.le_log2 h0).2 h1
  have l2 : a.log2 < n + 1 := (Nat.log2_lt h0).2 h2
  omega

theorem mul_log2 (a b : Nat) (ha : a ≠ 0) (hb : b ≠ 0) : mul a b ≠ 0 ∧ (mul a b).log2 = a.log2 + b.log2 := by
  obtain ⟨a1, a2⟩ := top_of a ha
  obtain ⟨b1, b2⟩ := top_of b hb
  obtain ⟨c1, c2⟩ := mul_top _ _ _ _ a1 a2 b1 b2
  have := Nat.pow_pos (n := a.log2 + b.log2) (show 0 < 2 by omega)
  exact ⟨by omega, log2_of _ _ c1 c2⟩

theorem mul_ne (a b : Nat) (ha : a ≠ 0) (hb : b ≠ 0) : mul a b ≠ 0 := (mul_log2 a b ha hb).1

theorem mul_eq_zero (a b : Nat) : mul a b = 0 ↔ a = 0 ∨ b = 0 := by
  constructor
  · intro h
    by_cases ha : a = 0
    · exact .inl ha
    · by_cases hb : b = 0
      · exact .inr hb
      · exact absurd h (mul_ne a b ha hb)
  · rintro (rfl | rfl)
    · exact zero_mul _
    · exact mul_zero _

theorem mul_cancel (a b c : Nat) (h : mul a c = mul b c) (hc : c ≠ 0) : a = b := by
  have e : mul (a ^^^ b) c = 0 := by rw [xor_mul, h, Nat.xor_self]
  rcases (mul_eq_zero _ _).1 e with e | e
  · exact xor_eq_zero _ _ e
  · exact absurd e hc

theorem mul_lt (a b n k : Nat) (ha : a < 2 ^ n) (hb : b < 2 ^ (k + 1)) : mul a b < 2 ^ (n + k) := by
  by_cases h1 : a = 0
  · subst h1; rw [zero_mul]; exact Nat.pow_pos (by omega)
  by_cases h2 : b = 0
  · subst h2; rw [mul_zero]; exact Nat.pow_pos (by omega)
  obtain ⟨m1, m2⟩ := mul_log2 a b h1 h2
  have la : a.log2 < n := (Nat.log2_lt h1).2 ha
  have lb : b.log2 < k + 1 := (Nat.log2_lt h2).2 hb
  exact (Nat.log2_lt m1).1 (by omega)

/-! Division -/

/-- what is left, so many turns -/
def modF : Nat → Nat → Nat → Nat
  | 0, a, _ => a
  | k + 1, a, b => if a < 2 ^ b.log2 then a else modF k (a ^^^ (b <<< (a.log2 - b.log2))) b

def pmod (a b : Nat) : Nat := modF (a.log2 + 1) a b

theorem top_bit (n a : Nat) (h1 : 2 ^ n ≤ a) (h2 : a < 2 ^ (n + 1)) : a.testBit n = true := by
  rw [Nat.testBit_eq_decide_div_mod_eq]
  have p := Nat.pow_succ (n := 2) (m := n)
  have e : a / 2 ^ n = 1 := by
    have l : 1 ≤ a / 2 ^ n := (Nat.le_div_iff_mul_le (Nat.pow_pos (by omega))).2 (by omega)
    have u : a / 2 ^ n < 2 := (Nat.div_lt_iff_lt_mul (Nat.pow_pos (by omega))).2 (by omega)
    omega
  rw [e]; rfl

/-- one turn of the division -/
theorem turn (a b : Nat) (hb : b ≠ 0) (h : ¬ a < 2 ^ b.log2) :
    b.log2 ≤ a.log2 ∧ a ^^^ (b <<< (a.log2 - b.log2)) < 2 ^ a.log2 := by
  have ha : a ≠ 0 := by intro e; subst e; exact h (Nat.pow_pos (by omega))
  have hl : b.log2 ≤ a.log2 := (Nat.le_log2 ha).2 (by omega)
  refine ⟨hl, ?_⟩
  obtain ⟨b1, b2⟩ := top_of b hb
  obtain ⟨a1, a2⟩ := top_of a ha
  have e : b <<< (a.log2 - b.log2) = b * 2 ^ (a.log2 - b.log2) := Nat.shiftLeft_eq ..
  have s1 : 2 ^ a.log2 ≤ b <<< (a.log2 - b.log2) := by
    rw [e]; calc 2 ^ a.log2 = 2 ^ b.log2 * 2 ^ (a.log2 - b.log2) := by rw [← Nat.pow_add]; congr 1; omega
      _ ≤ _ := Nat.mul_le_mul_right _ b1
  have s2 : b <<< (a.log2 - b.log2) < 2 ^ (a.log2 + 1) := by
    rw [e]; calc b * 2 ^ (a.log2 - b.log2) < 2 ^ (b.log2 + 1) * 2 ^ (a.log2 - b.log2) := Nat.mul_lt_mul_of_pos_right b2 (Nat.pow_pos (by omega))
      _ = 2 ^ (a.log2 + 1) := by rw [← Nat.pow_add]; congr 1; omega
  generalize b <<< (a.log2 - b.log2) = c at *
  generalize a.log2 = n at *
  apply Nat.lt_pow_two_of_testBit
  intro j hj
  rw [Nat.testBit_xor]
  by_cases hjn : j = n
  · subst hjn
    have t1 : a.testBit j = true := top_bit j a a1 a2
    have t2 : c.testBit j = true := top_bit j c s1 s2
    rw [t1, t2]; rfl
  · have t1 : a.testBit j = false := Nat.testBit_lt_two_pow (Nat.lt_of_lt_of_le a2 (Nat.pow_le_pow_right (by omega) (by omega)))
    have t2 : c.testBit j = false := Nat.testBit_lt_two_pow (Nat.lt_of_lt_of_le s2 (Nat.pow_le_pow_right (by omega) (by omega)))
    rw [t1, t2]; rfl



theorem modF_lt (k : Nat) : ∀ a b : Nat, b ≠ 0 → a < 2 ^ k → modF k a b < 2 ^ b.log2 := by
  induction k with
  | zero => intro a b hb h; simp at h; subst h; simp only [modF]; exact Nat.pow_pos (by omega)
  | succ k ih =>
    intro a b hb h
    simp only [modF]
    split
    · assumption
    · rename_i h1
      obtain ⟨t1, t2⟩ := turn a b hb h1
      refine ih _ _ hb (Nat.lt_of_lt_of_le t2 (Nat.pow_le_pow_right (by omega) ?_))
      have ha : a ≠ 0 := by intro e; subst e; exact h1 (Nat.pow_pos (by omega))
      have := (Nat.log2_lt ha).2 h
      omega

theorem modF_eq (k : Nat) : ∀ a b : Nat, ∃ q, a = mul q b ^^^ modF k a b := by
  induction k with
  | zero => intro a b; exact ⟨0, by simp [modF, zero_mul]⟩
  | succ k ih =>
    intro a b
    simp only [modF]
    split
    · exact ⟨0, by simp [zero_mul]⟩
    · obtain ⟨q, hq⟩ := ih (a ^^^ b <<< (a.log2 - b.log2)) b
      refine ⟨q ^^^ 2 ^ (a.log2 - b.log2), ?_⟩
      rw [xor_mul, Nat.xor_assoc, Nat.xor_comm (mul (2 ^ _) b), ← Nat.xor_assoc, ← hq, mul_comm (2 ^ _) b, ← mul_shift, Nat.xor_assoc, Nat.xor_self, Nat.xor_zero]

/-- how often it goes, so many turns -/
def divF : Nat → Nat → Nat → Nat
  | 0, _, _ => 0
  | k + 1, a, b => if a < 2 ^ b.log2 then 0 else divF k (a ^^^ (b <<< (a.log2 - b.log2))) b ^^^ 2 ^ (a.log2 - b.log2)

def pdiv (a b : Nat) : Nat := divF (a.log2 + 1) a b

theorem divF_eq (k : Nat) : ∀ a b : Nat, a = mul (divF k a b) b ^^^ modF k a b := by
  induction k with
  | zero => intro a b; simp [modF, divF, zero_mul]
  | succ k ih =>
    intro a b
    simp only [modF, divF]
    split
    · simp [zero_mul]
    · have hq := ih (a ^^^ b <<< (a.log2 - b.log2)) b
      rw [xor_mul, Nat.xor_assoc, Nat.xor_comm (mul (2 ^ _) b), ← Nat.xor_assoc, ← hq, mul_comm (2 ^ _) b, ← mul_shift, Nat.xor_assoc, Nat.xor_self, Nat.xor_zero]

theorem pdiv_eq (a b : Nat) : a = mul (pdiv a b) b ^^^ pmod a b := divF_eq _ _ _

theorem pmod_lt (a b : Nat) (hb : b ≠ 0) : pmod a b < 2 ^ b.log2 := modF_lt _ _ _ hb (lt_log2 a)

theorem pmod_eq (a b : Nat) : ∃ q, a = mul q b ^^^ pmod a b := modF_eq _ _ _

/-- b divides a -/
def dvd (b a : Nat) : Prop := ∃ q, a = mul q b

theorem small_zero (q b r : Nat) (h : mul q b = r) (hr : r < 2 ^ b.log2) : r = 0 ∧ (b ≠ 0 → q = 0) := by
  by_cases hb : b = 0
  · subst hb; rw [mul_zero] at h; exact ⟨h.symm, fun h => absurd rfl h⟩
  by_cases hq : q = 0
  · subst hq; rw [zero_mul] at h; exact ⟨h.symm, fun _ => rfl⟩
  obtain ⟨m1, m2⟩ := mul_log2 q b hq hb
  rw [h] at m1 m2
  have := (Nat.log2_lt m1).2 hr
  omega

/-- Euclid: there is one quotient and one remainder -/
theorem div_unique (q1 q2 r1 r2 b : Nat) (hb : b ≠ 0) (h : mul q1 b ^^^ r1 = mul q2 b ^^^ r2) (h1 : r1 < 2 ^ b.log2) (h2 : r2 < 2 ^ b.log2) :
    q1 = q2 ∧ r1 = r2 := by
  have e : mul (q1 ^^^ q2) b = r1 ^^^ r2 := by
    rw [xor_mul]
    have := congrArg (fun t => t ^^^ (r1 ^^^ mul q2 b)) h
    have l : mul q1 b ^^^ r1 ^^^ (r1 ^^^ mul q2 b) = mul q1 b ^^^ mul q2 b := by
      rw [Nat.xor_assoc, xor_cancel_left]
    have r : mul q2 b ^^^ r2 ^^^ (r1 ^^^ mul q2 b) = r1 ^^^ r2 := by
      rw [Nat.xor_comm r1, Nat.xor_assoc, xor_left_comm r2, xor_cancel_left, Nat.xor_comm]
    rw [l, r] at this; exact this
  obtain ⟨z1, z2⟩ := small_zero _ _ _ e (Nat.xor_lt_two_pow h1 h2)
  exact ⟨xor_eq_zero _ _ (z2 hb), xor_eq_zero _ _ z1⟩

theorem pmod_of (a b q r : Nat) (hb : b ≠ 0) (h : a = mul q b ^^^ r) (hr : r < 2 ^ b.log2) : pmod a b = r := by
  obtain ⟨q', h'⟩ := pmod_eq a b
  exact (div_unique q' q _ _ b hb (h'.symm.trans h) (pmod_lt a b hb) hr).2

theorem pdiv_of (a b q r : Nat) (hb : b ≠ 0) (h : a = mul q b ^^^ r) (hr : r < 2 ^ b.log2) : pdiv a b = q :=
  (div_unique _ q _ _ b hb ((pdiv_eq a b).symm.trans h) (pmod_lt a b hb) hr).1

theorem pmod_small (a b : Nat) (hb : b ≠ 0) (h : a < 2 ^ b.log2) : pmod a b = a :=
  pmod_of a b 0 a hb (by rw [zero_mul, Nat.zero_xor]) h

theorem dvd_iff (a b : Nat) (hb : b ≠ 0) : dvd b a ↔ pmod a b = 0 := by
  constructor
  · rintro ⟨q, rfl⟩
    exact pmod_of _ _ q 0 hb (by rw [Nat.xor_zero]) (Nat.pow_pos (by omega))
  · intro h
    obtain ⟨q, hq⟩ := pmod_eq a b
    rw [h, Nat.xor_zero] at hq
    exact ⟨q, hq⟩

theorem dvd_zero (b : Nat) : dvd b 0 := ⟨0, (zero_mul b).symm⟩
theorem dvd_refl (b : Nat) : dvd b b := ⟨1, (one_mul b).symm⟩
theorem one_dvd (b : Nat) : dvd 1 b := ⟨b, (mul_one b).symm⟩
theorem zero_dvd (a : Nat) (h : dvd 0 a) : a = 0 := by obtain ⟨q, rfl⟩ := h; exact mul_zero _
theorem dvd_trans {a b c : Nat} (h1 : dvd a b) (h2 : dvd b c) : dvd a c := by
  obtain ⟨q, rfl⟩ := h1; obtain ⟨s, rfl⟩ := h2; exact ⟨mul s q, (mul_assoc s q a).symm⟩
theorem dvd_xor {a b c : Nat} (h1 : dvd a b) (h2 : dvd a c) : dvd a (b ^^^ c) := by
  obtain ⟨q, rfl⟩ := h1; obtain ⟨s, rfl⟩ := h2; exact ⟨q ^^^ s, (xor_mul q s a).symm⟩
theorem dvd_mul_left {a b : Nat} (c : Nat) (h : dvd a b) : dvd a (mul c b) := by
  obtain ⟨q, rfl⟩ := h; exact ⟨mul c q, (mul_assoc c q a).symm⟩
theorem dvd_mul_right {a b : Nat} (c : Nat) (h : dvd a b) : dvd a (mul b c) := by
  rw [mul_comm]; exact dvd_mul_left c h
theorem dvd_self_mul (a c : Nat) : dvd a (mul c a) := ⟨c, rfl⟩
theorem dvd_mul_self (a c : Nat) : dvd a (mul a c) := ⟨c, mul_comm a c⟩

theorem dvd_le {d a : Nat} (h : dvd d a) (ha : a ≠ 0) : d ≠ 0 ∧ d.log2 ≤ a.log2 := by
  obtain ⟨q, rfl⟩ := h
  have hd : d ≠ 0 := by intro e; subst e; exact ha (mul_zero _)
  have hq : q ≠ 0 := by intro e; subst e; exact ha (zero_mul _)
  exact ⟨hd, by rw [(mul_log2 q d hq hd).2]; omega⟩

theorem one_of_log2 (q : Nat) (hq : q ≠ 0) (h : q.log2 = 0) : q = 1 := by
  obtain ⟨h1, h2⟩ := top_of q hq
  rw [h] at h1 h2; simp at h1 h2; omega

theorem dvd_antisymm {a b : Nat} (h1 : dvd a b) (h2 : dvd b a) : a = b := by
  by_cases ha : a = 0
  · subst ha; exact (zero_dvd b h1).symm
  by_cases hb : b = 0
  · subst hb; exact zero_dvd a h2
  have l1 := (dvd_le h1 hb).2
  have l2 := (dvd_le h2 ha).2
  obtain ⟨q, rfl⟩ := h1
  have hq : q ≠ 0 := by intro e; subst e; exact hb (zero_mul _)
  have := (mul_log2 q a hq ha).2
  have := one_of_log2 q hq (by omega)
  subst this; exact (one_mul a).symm

theorem dvd_lt {d a : Nat} (h : dvd d a) (ha : a ≠ 0) (hne : d ≠ a) : d.log2 < a.log2 := by
  obtain ⟨h1, h2⟩ := dvd_le h ha
  apply Nat.lt_of_le_of_ne h2
  intro e
  obtain ⟨q, rfl⟩ := h
  have hq : q ≠ 0 := by intro e; subst e; exact ha (zero_mul _)
  have m := (mul_log2 q d hq h1).2
  have := one_of_log2 q hq (by omega)
  subst this; exact hne (one_mul d).symm

/-! Remainders -/

theorem pmod_xor (a b m : Nat) (hm : m ≠ 0) : pmod (a ^^^ b) m = pmod a m ^^^ pmod b m := by
  obtain ⟨q, hq⟩ := pmod_eq a m
  obtain ⟨s, hs⟩ := pmod_eq b m
  refine pmod_of _ _ (q ^^^ s) _ hm ?_ (Nat.xor_lt_two_pow (pmod_lt a m hm) (pmod_lt b m hm))
  rw [xor_mul, xor_swap, ← hq, ← hs]

theorem pmod_add_mul (a q m : Nat) (hm : m ≠ 0) : pmod (a ^^^ mul q m) m = pmod a m := by
  have : pmod (mul q m) m = 0 := (dvd_iff _ _ hm).1 ⟨q, rfl⟩
  rw [pmod_xor _ _ _ hm, this, Nat.xor_zero]

theorem pmod_idem (a m : Nat) (hm : m ≠ 0) : pmod (pmod a m) m = pmod a m := pmod_small _ _ hm (pmod_lt a m hm)

theorem pmod_mul_left (a b m : Nat) (hm : m ≠ 0) : pmod (mul (pmod a m) b) m = pmod (mul a b) m := by
  obtain ⟨q, hq⟩ := pmod_eq a m
  have e : mul a b = mul (pmod a m) b ^^^ mul (mul q b) m := by
    rw [mul_right_comm, ← xor_mul, Nat.xor_comm, ← hq]
  rw [e, pmod_add_mul _ _ _ hm]

theorem pmod_mul_right (a b m : Nat) (hm : m ≠ 0) : pmod (mul a (pmod b m)) m = pmod (mul a b) m := by
  rw [mul_comm, pmod_mul_left _ _ _ hm, mul_comm]

theorem pmod_eq_iff (a b m : Nat) (hm : m ≠ 0) : pmod a m = pmod b m ↔ dvd m (a ^^^ b) := by
  rw [dvd_iff _ _ hm, pmod_xor _ _ _ hm]
  constructor
  · intro h; rw [h, Nat.xor_self]
  · exact xor_eq_zero _ _

/-! The greatest common divisor -/

/-- g is the one by which just what divides both goes -/
def IsGcd (g a b : Nat) : Prop := ∀ d, dvd d g ↔ dvd d a ∧ dvd d b

theorem gcd_unique {g h a b : Nat} (h1 : IsGcd g a b) (h2 : IsGcd h a b) : g = h :=
  dvd_antisymm ((h2 g).2 ((h1 g).1 (dvd_refl g))) ((h1 h).2 ((h2 h).1 (dvd_refl h)))

theorem gcd_zero (a : Nat) : IsGcd a a 0 := fun d => ⟨fun h => ⟨h, dvd_zero d⟩, fun h => h.1⟩

theorem gcd_comm {g a b : Nat} (h : IsGcd g a b) : IsGcd g b a := fun d => (h d).trans ⟨fun h => ⟨h.2, h.1⟩, fun h => ⟨h.2, h.1⟩⟩

theorem dvd_mod {d a b : Nat} : (dvd d a ∧ dvd d b) ↔ (dvd d b ∧ dvd d (pmod a b)) := by
  obtain ⟨q, hq⟩ := pmod_eq a b
  constructor
  · rintro ⟨h1, h2⟩
    refine ⟨h2, ?_⟩
    have e : pmod a b = a ^^^ mul q b := by
      have := congrArg (fun t => t ^^^ mul q b) hq
      rw [this, Nat.xor_comm (mul q b), Nat.xor_assoc, Nat.xor_self, Nat.xor_zero]
    rw [e]; exact dvd_xor h1 (dvd_mul_left q h2)
  · rintro ⟨h1, h2⟩
    refine ⟨?_, h1⟩
    rw [hq]; exact dvd_xor (dvd_mul_left q h1) h2

theorem gcd_step {g a b : Nat} : IsGcd g a b ↔ IsGcd g b (pmod a b) :=
  ⟨fun h d => (h d).trans dvd_mod, fun h d => (h d).trans dvd_mod.symm⟩

/-- Bezout -/
theorem bezout (n : Nat) : ∀ a b : Nat, b < 2 ^ n → ∃ g u v, IsGcd g a b ∧ g = mul u a ^^^ mul v b := by
  induction n with
  | zero =>
    intro a b h
    have : b = 0 := by simpa using h
    subst this
    exact ⟨a, 1, 0, gcd_zero a, by rw [one_mul, zero_mul, Nat.xor_zero]⟩
  | succ n ih =>
    intro a b h
    by_cases hb : b = 0
    · subst hb; exact ⟨a, 1, 0, gcd_zero a, by rw [one_mul, zero_mul, Nat.xor_zero]⟩
    · have hl := (Nat.log2_lt hb).2 h
      obtain ⟨g, u, v, h1, h2⟩ := ih b (pmod a b) (Nat.lt_of_lt_of_le (pmod_lt a b hb) (Nat.pow_le_pow_right (by omega) (by omega)))
      obtain ⟨q, hq⟩ := pmod_eq a b
      refine ⟨g, v, u ^^^ mul v q, gcd_step.2 h1, ?_⟩
      have e : pmod a b = a ^^^ mul q b := by
        have := congrArg (fun t => t ^^^ mul q b) hq
        rw [this, Nat.xor_comm (mul q b), Nat.xor_assoc, Nat.xor_self, Nat.xor_zero]
      rw [h2, xor_mul, mul_assoc, xor_left_comm, ← mul_xor, Nat.xor_comm, ← e, Nat.xor_comm]

theorem gcd_exists (a b : Nat) : ∃ g u v, IsGcd g a b ∧ g = mul u a ^^^ mul v b := bezout _ a b (lt_log2 b)

theorem bezout_of {g a b : Nat} (h : IsGcd g a b) : ∃ u v, g = mul u a ^^^ mul v b := by
  obtain ⟨g', u, v, h1, h2⟩ := gcd_exists a b
  obtain rfl := gcd_unique h h1
  exact ⟨u, v, h2⟩

theorem dvd_mul_mul {a b : Nat} (c : Nat) (h : dvd a b) : dvd (mul a c) (mul b c) := by
  obtain ⟨q, rfl⟩ := h
  exact ⟨q, mul_assoc q a c⟩

/-- a common factor comes out -/
theorem gcd_mul {g a b : Nat} (c : Nat) (h : IsGcd g a b) : IsGcd (mul g c) (mul a c) (mul b c) := by
  intro d
  obtain ⟨h1, h2⟩ := (h g).1 (dvd_refl g)
  constructor
  · intro hd
    exact ⟨dvd_trans hd (dvd_mul_mul c h1), dvd_trans hd (dvd_mul_mul c h2)⟩
  · rintro ⟨d1, d2⟩
    obtain ⟨u, v, e⟩ := bezout_of h
    rw [e, xor_mul, mul_assoc, mul_assoc]
    exact dvd_xor (dvd_mul_left u d1) (dvd_mul_left v d2)

/-! Irreducible polynomials -/

def Prime (p : Nat) : Prop := 2 ≤ p ∧ ∀ d, dvd d p → d = 1 ∨ d = p

theorem prime_ne {p : Nat} (h : Prime p) : p ≠ 0 := by have := h.1; omega

theorem prime_gcd {p a : Nat} (hp : Prime p) (ha : ¬ dvd p a) : IsGcd 1 p a := by
  obtain ⟨g, _, _, hg, _⟩ := gcd_exists p a
  obtain ⟨g1, g2⟩ := (hg g).1 (dvd_refl g)
  rcases hp.2 g g1 with rfl | rfl
  · exact hg
  · exact absurd g2 ha

/-- Euclid: what divides a product divides a factor -/
theorem prime_dvd_mul {p a b : Nat} (hp : Prime p) (h : dvd p (mul a b)) : dvd p a ∨ dvd p b := by
  by_cases ha : dvd p a
  · exact .inl ha
  · right
    obtain ⟨u, v, e⟩ := bezout_of (prime_gcd hp ha)
    have : b = mul u (mul p b) ^^^ mul v (mul a b) := by
      rw [← mul_assoc, ← mul_assoc, ← xor_mul, ← e, one_mul]
    rw [this]
    exact dvd_xor (dvd_mul_left u (dvd_mul_self p b)) (dvd_mul_left v h)

theorem not_dvd_one {p : Nat} (hp : 2 ≤ p) : ¬ dvd p 1 := by
  intro h
  obtain ⟨h1, h2⟩ := dvd_le h (by omega)
  have e1 : Nat.log2 1 = 0 := by decide
  rw [e1] at h2
  have := one_of_log2 p h1 (by omega)
  omega

/-- the least divisor from 2 on is irreducible -/
theorem least_prime {f m : Nat} (hf : 2 ≤ f) (h : dvd f m) (hl : ∀ d, 2 ≤ d → d < f → ¬ dvd d m) : Prime f := by
  refine ⟨hf, fun d hd => ?_⟩
  have f0 : f ≠ 0 := by omega
  obtain ⟨d0, _⟩ := dvd_le hd f0
  by_cases h1 : d = 1
  · exact .inl h1
  · right
    apply Classical.byContradiction
    intro hne
    have hlt := dvd_lt hd f0 hne
    obtain ⟨f1, f2⟩ := top_of f f0
    obtain ⟨d1, d2⟩ := top_of d d0
    have : 2 ^ (d.log2 + 1) ≤ 2 ^ f.log2 := Nat.pow_le_pow_right (by omega) (by omega)
    exact hl d (by omega) (by omega) (dvd_trans hd h)

/-- if nothing up to half the degree divides, nothing does -/
theorem half_enough {m : Nat} (hm : 2 ≤ m) (h : ∀ d, 2 ≤ d → d < 2 ^ (m.log2 / 2 + 1) → ¬ dvd d m) : Prime m := by
  have m0 : m ≠ 0 := by omega
  refine ⟨hm, fun d hd => ?_⟩
  obtain ⟨d0, dl⟩ := dvd_le hd m0
  obtain ⟨q, hq⟩ := hd
  have q0 : q ≠ 0 := by intro e; subst e; rw [zero_mul] at hq; exact m0 hq
  have hlog := (mul_log2 q d q0 d0).2
  rw [← hq] at hlog
  by_cases h1 : d = 1
  · exact .inl h1
  by_cases h2 : q = 1
  · right; subst h2; rw [one_mul] at hq; exact hq.symm
  exfalso
  by_cases hh : d.log2 ≤ m.log2 / 2
  · exact h d (by omega) (Nat.lt_of_lt_of_le (lt_log2 d) (Nat.pow_le_pow_right (by omega) (by omega))) ⟨q, hq⟩
  · exact h q (by omega) (Nat.lt_of_lt_of_le (lt_log2 q) (Nat.pow_le_pow_right (by omega) (by omega))) ⟨d, by rw [hq, mul_comm]⟩

/-- irreducible: by trial, as a test -/
def isP (m : Nat) : Bool := decide (2 ≤ m) && (List.range (2 ^ (m.log2 / 2 + 1))).all fun d => decide (d < 2) || (pmod m d != 0)

theorem isP_iff (m : Nat) : isP m = true ↔ Prime m := by
  unfold isP
  simp only [Bool.and_eq_true, decide_eq_true_eq, List.all_eq_true, List.mem_range, Bool.or_eq_true, bne_iff_ne]
  constructor
  · rintro ⟨h1, h2⟩
    refine half_enough h1 fun d hd hlt hdv => ?_
    rcases h2 d hlt with h | h
    · omega
    · exact h ((dvd_iff _ _ (by omega)).1 hdv)
  · intro hp
    refine ⟨hp.1, fun d hlt => ?_⟩
    by_cases hd : d < 2
    · exact .inl hd
    · right
      intro h
      rcases hp.2 d ((dvd_iff _ _ (by omega)).2 h) with e | e
      · omega
      · subst e
        have d0 : d ≠ 0 := by omega
        obtain ⟨t1, t2⟩ := top_of d d0
        by_cases hl : d.log2 / 2 + 1 ≤ d.log2
        · have : 2 ^ (d.log2 / 2 + 1) ≤ 2 ^ d.log2 := Nat.pow_le_pow_right (by omega) hl
          omega
        · have hl1 : d.log2 = 1 ∨ d.log2 = 0 := by omega
          rcases hl1 with hl1 | hl1 <;> rw [hl1] at hlt t2 t1 <;> simp at hlt t2 t1 <;> omega



/-! Powers -/

def pw (a : Nat) : Nat → Nat
  | 0 => 1
  | n + 1 => mul (pw a n) a

theorem pw_zero (a : Nat) : pw a 0 = 1 := rfl
theorem pw_succ (a n : Nat) : pw a (n + 1) = mul (pw a n) a := rfl
theorem pw_one (a : Nat) : pw a 1 = a := one_mul a
theorem pw_two (a : Nat) : pw a 2 = mul a a := by rw [pw_succ, pw_one]

theorem pw_add (a m n : Nat) : pw a (m + n) = mul (pw a m) (pw a n) := by
  induction n with
  | zero => rw [Nat.add_zero, pw_zero, mul_one]
  | succ n ih => rw [← Nat.add_assoc, pw_succ, ih, pw_succ, mul_assoc]

theorem pw_double (a n : Nat) : pw a (2 * n) = pw (mul a a) n := by
  induction n with
  | zero => rfl
  | succ n ih =>
    have e : 2 * (n + 1) = 2 * n + 2 := by omega
    rw [e, pw_add, ih, pw_two, pw_succ (mul a a)]

theorem pw_twice (a n : Nat) : pw a (2 * n) = mul (pw a n) (pw a n) := by
  rw [Nat.two_mul, pw_add]

theorem pmod_pw (a n m : Nat) (hm : m ≠ 0) : pmod (pw (pmod a m) n) m = pmod (pw a n) m := by
  induction n with
  | zero => rfl
  | succ n ih =>
    rw [pw_succ, pw_succ, pmod_mul_right _ _ _ hm, ← pmod_mul_left _ _ _ hm, ih, pmod_mul_left _ _ _ hm]

theorem sq_xor (a b : Nat) : mul (a ^^^ b) (a ^^^ b) = mul a a ^^^ mul b b := by
  rw [xor_mul, mul_xor, mul_xor, mul_comm b a, Nat.xor_assoc, xor_cancel_left]

/-- Frobenius -/
theorem frobenius (a b m : Nat) (hm : m ≠ 0) : pmod (pw (a ^^^ b) 2) m = pmod (pw a 2) m ^^^ pmod (pw b 2) m := by
  rw [pw_two, pw_two, pw_two, sq_xor, pmod_xor _ _ _ hm]

/-- modulo an irreducible one, squares part -/
theorem roots (p a b : Nat) (hp : Prime p) : pmod (pw a 2) p = pmod (pw b 2) p ↔ pmod a p = pmod b p := by
  have p0 := prime_ne hp
  rw [pmod_eq_iff _ _ _ p0, pmod_eq_iff _ _ _ p0, pw_two, pw_two, ← sq_xor]
  exact ⟨fun h => (prime_dvd_mul hp h).elim id id, fun h => dvd_mul_left _ h⟩

/-! Products of lists -/

def prodL (l : List Nat) : Nat := l.foldr mul 1

theorem prodL_nil : prodL [] = 1 := rfl
theorem prodL_cons (a : Nat) (l : List Nat) : prodL (a :: l) = mul a (prodL l) := rfl

theorem prodL_perm {l k : List Nat} (h : l.Perm k) : prodL l = prodL k := by
  induction h with
  | nil => rfl
  | cons x _ ih => rw [prodL_cons, prodL_cons, ih]
  | swap x y l => rw [prodL_cons, prodL_cons, prodL_cons, prodL_cons, mul_left_comm]
  | trans _ _ h1 h2 => exact h1.trans h2

theorem prodL_append (l k : List Nat) : prodL (l ++ k) = mul (prodL l) (prodL k) := by
  induction l with
  | nil => rw [List.nil_append, prodL_nil, one_mul]
  | cons a l ih => rw [List.cons_append, prodL_cons, ih, prodL_cons, mul_assoc]

theorem prime_dvd_prod {p : Nat} (hp : Prime p) : ∀ l : List Nat, dvd p (prodL l) → ∃ q, q ∈ l ∧ dvd p q := by
  intro l
  induction l with
  | nil => intro h; exact absurd h (not_dvd_one hp.1)
  | cons a l ih =>
    intro h
    rcases prime_dvd_mul hp h with h | h
    · exact ⟨a, List.mem_cons_self, h⟩
    · obtain ⟨q, h1, h2⟩ := ih h
      exact ⟨q, List.mem_cons_of_mem _ h1, h2⟩

/-- Gauss: there is one way -/
theorem unique_perm : ∀ (l k : List Nat), (∀ p, p ∈ l → Prime p) → (∀ p, p ∈ k → Prime p) → prodL l = prodL k → l.Perm k := by
  intro l
  induction l with
  | nil =>
    intro k _ hk h
    cases k with
    | nil => exact .refl _
    | cons q k =>
      have hq := hk q List.mem_cons_self
      exact absurd ⟨prodL k, by rw [prodL_nil] at h; rw [h, prodL_cons, mul_comm]⟩ (not_dvd_one hq.1)
  | cons p l ih =>
    intro k hl hk h
    have hp := hl p List.mem_cons_self
    obtain ⟨q, hq, hd⟩ := prime_dvd_prod hp k ⟨prodL l, by rw [← h, prodL_cons, mul_comm]⟩
    have e : p = q := by
      rcases (hk q hq).2 p hd with e | e
      · have := hp.1; omega
      · exact e
    subst e
    have hperm := List.perm_cons_erase hq
    have hpr := prodL_perm hperm
    rw [← h, prodL_cons, prodL_cons, mul_comm p, mul_comm p] at hpr
    have e2 := mul_cancel _ _ _ hpr (prime_ne hp)
    exact (List.Perm.cons p (ih (k.erase p) (fun x hx => hl x (List.mem_cons_of_mem _ hx)) (fun x hx => hk x (List.mem_of_mem_erase hx)) e2)).trans hperm.symm

theorem unique_sorted (l k : List Nat) (hl : ∀ p, p ∈ l → Prime p) (hk : ∀ p, p ∈ k → Prime p) (h : prodL l = prodL k)
    (sl : l.Pairwise (· ≤ ·)) (sk : k.Pairwise (· ≤ ·)) : l = k :=
  List.Perm.eq_of_pairwise (le := (· ≤ ·)) (fun _ _ _ _ h1 h2 => Nat.le_antisymm h1 h2) sl sk (unique_perm l k hl hk h)

/-! Fermat -/

theorem sub_perm : ∀ (l k : List Nat), l.Nodup → (∀ x, x ∈ l → x ∈ k) → k.length ≤ l.length → l.Perm k := by
  intro l
  induction l with
  | nil =>
    intro k _ _ h
    have e : k = [] := List.eq_nil_of_length_eq_zero (by simpa using h)
    rw [e]
  | cons x t ih =>
    intro k hn hs hl
    have hx := hs x List.mem_cons_self
    rw [List.nodup_cons] at hn
    have h1 := List.length_erase_of_mem hx
    have := ih (k.erase x) hn.2 (fun y hy => (List.mem_erase_of_ne (by intro e; subst e; exact hn.1 hy)).2 (hs y (List.mem_cons_of_mem _ hy)))
      (by rw [h1]; simp at hl; omega)
    exact (List.Perm.cons x this).trans (List.perm_cons_erase hx).symm

theorem prod_map (r p : Nat) (hp : p ≠ 0) (l : List Nat) : pmod (prodL (l.map fun x => pmod (mul r x) p)) p = pmod (mul (pw r l.length) (prodL l)) p := by
  induction l with
  | nil => rw [List.map_nil, prodL_nil, List.length_nil, pw_zero, mul_one]
  | cons x l ih =>
    rw [List.map_cons, prodL_cons, prodL_cons, List.length_cons, pw_succ, pmod_mul_left _ _ _ hp, ← pmod_mul_right _ _ _ hp, ih, pmod_mul_right _ _ _ hp]
    congr 1
    rw [mul_assoc, mul_assoc, mul_left_comm x (pw r l.length), mul_left_comm r (pw r l.length)]

theorem not_dvd_small {p x : Nat} (h0 : x ≠ 0) (h : x < 2 ^ p.log2) : ¬ dvd p x := by
  intro hd
  have := (dvd_le hd h0).2
  have := (Nat.log2_lt h0).2 h
  omega

/-- Fermat, Galois -/
theorem fermat (p a : Nat) (hp : Prime p) (ha : pmod a p ≠ 0) : pmod (pw a (2 ^ p.log2 - 1)) p = 1 := by
  have p0 := prime_ne hp
  have hpos : 0 < 2 ^ p.log2 := Nat.pow_pos (by omega)
  rw [← pmod_pw _ _ _ p0]
  have hr : pmod a p < 2 ^ p.log2 := pmod_lt a p p0
  generalize pmod a p = r at *
  have hnr : ¬ dvd p r := not_dvd_small ha hr
  have hlen : ((List.range (2 ^ p.log2 - 1)).map (· + 1)).length = 2 ^ p.log2 - 1 := by rw [List.length_map, List.length_range]
  have hmem : ∀ x, x ∈ (List.range (2 ^ p.log2 - 1)).map (· + 1) ↔ x ≠ 0 ∧ x < 2 ^ p.log2 := by
    intro x
    rw [List.mem_map]
    constructor
    · rintro ⟨y, hy, rfl⟩; rw [List.mem_range] at hy; omega
    · rintro ⟨h1, h2⟩; exact ⟨x - 1, List.mem_range.2 (by omega), by omega⟩
  have hnd : ((List.range (2 ^ p.log2 - 1)).map (· + 1)).Nodup := by
    unfold List.Nodup
    rw [List.pairwise_map]
    exact List.Pairwise.imp (fun h => by omega) (List.nodup_range)
  generalize hL : (List.range (2 ^ p.log2 - 1)).map (· + 1) = L at *
  have hperm : (L.map fun x => pmod (mul r x) p).Perm L := by
    refine sub_perm _ _ ?_ ?_ (by rw [List.length_map]; exact Nat.le_refl _)
    · unfold List.Nodup
      rw [List.pairwise_map]
      refine List.Pairwise.imp_of_mem (R := (· ≠ ·)) ?_ hnd
      intro x y hx hy hne e
      have hx' := (hmem x).1 hx
      have hy' := (hmem y).1 hy
      rw [pmod_eq_iff _ _ _ p0, ← mul_xor] at e
      rcases prime_dvd_mul hp e with e | e
      · exact hnr e
      · have hz : x ^^^ y ≠ 0 := fun e => hne (xor_eq_zero _ _ e)
        exact not_dvd_small hz (Nat.xor_lt_two_pow hx'.2 hy'.2) e
    · intro z hz
      rw [List.mem_map] at hz
      obtain ⟨x, hx, rfl⟩ := hz
      have hx' := (hmem x).1 hx
      refine (hmem _).2 ⟨?_, pmod_lt _ _ p0⟩
      intro e
      rcases prime_dvd_mul hp ((dvd_iff _ _ p0).2 e) with e | e
      · exact hnr e
      · exact not_dvd_small hx'.1 hx'.2 e
  have e := prod_map r p p0 L
  rw [prodL_perm hperm, hlen] at e
  have e1 : pmod (mul 1 (prodL L)) p = pmod (mul (pw r (2 ^ p.log2 - 1)) (prodL L)) p := by rw [one_mul]; exact e
  rw [pmod_eq_iff _ _ _ p0, ← xor_mul] at e1
  rcases prime_dvd_mul hp e1 with e1 | e1
  · rw [Nat.xor_comm, ← pmod_eq_iff _ _ _ p0] at e1
    rw [e1]
    refine pmod_small _ _ p0 ?_
    have : 1 ≤ p.log2 := (Nat.le_log2 p0).2 hp.1
    exact Nat.lt_of_lt_of_le (by omega) (Nat.pow_le_pow_right (n := 2) (by omega) this)
  · obtain ⟨q, hq, hd⟩ := prime_dvd_prod hp L e1
    have hq' := (hmem q).1 hq
    exact absurd hd (not_dvd_small hq'.1 hq'.2)

theorem fermat_all (p a : Nat) (hp : Prime p) : pmod (pw a (2 ^ p.log2)) p = pmod a p := by
  have p0 := prime_ne hp
  have hpos : 0 < 2 ^ p.log2 := Nat.pow_pos (by omega)
  have e : pw a (2 ^ p.log2) = mul (pw a (2 ^ p.log2 - 1)) a := by
    rw [← pw_succ]; congr 1; omega
  by_cases ha : pmod a p = 0
  · rw [e, ha, ← dvd_iff _ _ p0]
    exact dvd_mul_left _ ((dvd_iff _ _ p0).2 ha)
  · rw [e, ← pmod_mul_left _ _ _ p0, fermat p a hp ha, one_mul]

theorem fermat_zero (p a n : Nat) (hp : Prime p) (ha : pmod a p = 0) (hn : n ≠ 0) : pmod (pw a n) p = 0 := by
  have p0 := prime_ne hp
  obtain ⟨k, rfl⟩ : ∃ k, n = k + 1 := ⟨n - 1, by omega⟩
  rw [pw_succ, ← dvd_iff _ _ p0]
  exact dvd_mul_left _ ((dvd_iff _ _ p0).2 ha)


theorem or_bit (q s : Nat) (h : q.testBit s = false) : q ||| 2 ^ s = q ^^^ 2 ^ s := by
  apply Nat.eq_of_testBit_eq
  intro i
  rw [Nat.testBit_or, Nat.testBit_xor, Nat.testBit_two_pow]
  by_cases e : s = i
  · subst e; rw [h]; simp
  · simp [e]

/-! How many bits a number has -/

def blen (x : Nat) : Nat := if x = 0 then 0 else x.log2 + 1

theorem blen_zero : blen 0 = 0 := rfl
theorem blen_pos (x : Nat) (h : x ≠ 0) : blen x = x.log2 + 1 := by rw [blen, if_neg h]
theorem lt_blen (x : Nat) : x < 2 ^ blen x := by
  unfold blen; split
  · subst x; decide
  · exact lt_log2 x
theorem blen_le (x k : Nat) (h : x < 2 ^ k) : blen x ≤ k := by
  unfold blen; split
  · omega
  · rename_i h0; exact (Nat.log2_lt h0).2 h
theorem blen_half (x : Nat) (h : x ≠ 0) : blen x = 1 + blen (x / 2) := by
  rw [blen_pos x h]
  by_cases h1 : x / 2 = 0
  · have : x = 1 := by omega
    subst this; decide
  · rw [blen_pos _ h1]
    obtain ⟨t1, t2⟩ := top_of _ h1
    have : x.log2 = (x / 2).log2 + 1 := log2_of _ _ (by rw [Nat.pow_succ]; omega) (by rw [Nat.pow_succ]; omega)
    omega

theorem blen_pos_iff (x : Nat) : blen x = 0 ↔ x = 0 := by
  unfold blen; split
  · simp [*]
  · rename_i h; simp [h]

/-- one turn of the division, by the numbers of bits -/
theorem turn_blen (a b : Nat) (hb : b ≠ 0) (h : blen b ≤ blen a) :
    blen (a ^^^ (b <<< (blen a - blen b))) < blen a ∧ a ^^^ (b <<< (blen a - blen b)) < 2 ^ (blen a) := by
  have ha : a ≠ 0 := by
    intro e; subst e
    rw [blen_zero, blen_pos b hb] at h; omega
  rw [blen_pos a ha, blen_pos b hb] at h ⊢
  have e : a.log2 + 1 - (b.log2 + 1) = a.log2 - b.log2 := by omega
  rw [e]
  have hn : ¬ a < 2 ^ b.log2 := by
    have := Nat.pow_le_pow_right (n := 2) (by omega) (show b.log2 ≤ a.log2 by omega)
    have := (top_of a ha).1
    omega
  have t := (turn a b hb hn).2
  have := blen_le _ _ t
  have p := Nat.pow_succ (n := 2) (m := a.log2)
  omega

theorem lt_of_blen (a b : Nat) (hb : b ≠ 0) (h : blen a < blen b) : a < 2 ^ b.log2 := by
  rw [blen_pos b hb] at h
  exact Nat.lt_of_lt_of_le (lt_blen a) (Nat.pow_le_pow_right (by omega) (by omega))

end WoolMath
