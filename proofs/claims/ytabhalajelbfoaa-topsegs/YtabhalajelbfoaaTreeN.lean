/-
  Trees of prints, plainly: all levels (lvs), the first pair that differs (pci), the comparison of two lists (cm), what is found. Conditions: as each says.
-/
import Derived.Test.YtabhalajelbfoaaTreeM
namespace WoolTree

section
variable (H : List UInt8 → Nat)

/-- all levels, at most k above the first -/
def lvs : Nat → List Nat → List (List Nat)
  | 0, l => [l]
  | k + 1, l => l :: (if l.length ≤ 1 then [] else lvs k (ab H l))

theorem lvs_pos : ∀ (k : Nat) (l : List Nat), 0 < (lvs H k l).length
  | 0, _ => by simp [lvs]
  | k + 1, _ => by simp [lvs]

theorem lvs_len : ∀ (k : Nat) (l : List Nat), (lvs H k l).length ≤ k + 1
  | 0, _ => by simp [lvs]
  | k + 1, l => by
    rw [lvs, List.length_cons]
    by_cases h : l.length ≤ 1
    · rw [if_pos h]; simp
    · rw [if_neg h]; have := lvs_len k (ab H l); omega

theorem lvs_get : ∀ (k : Nat) (l : List Nat) (j : Nat) (h : j < (lvs H k l).length), (lvs H k l)[j] = it H j l
  | 0, l, j, h => by
    have : j = 0 := by simpa [lvs] using h
    subst this
    rfl
  | k + 1, l, 0, h => rfl
  | k + 1, l, j + 1, h => by
    by_cases hl : l.length ≤ 1
    · simp [lvs, hl] at h
    · have h' : j < (lvs H k (ab H l)).length := by simpa [lvs, hl] using h
      have := lvs_get k (ab H l) j h'
      simp only [lvs, if_neg hl, List.getElem_cons_succ]
      rw [this]
      rfl

theorem lvs_last : ∀ (k : Nat) (l : List Nat) (_ : 0 < l.length) (_ : l.length ≤ 2 ^ k) (h : (lvs H k l).length - 1 < (lvs H k l).length), (lvs H k l)[(lvs H k l).length - 1] = [rt H k l]
  | 0, l, h0, h1, h => by
    have e : l.length = 1 := by simp at h1; omega
    match l, e with
    | [x], _ => rfl
  | k + 1, l, h0, h1, h => by
    by_cases hl : l.length ≤ 1
    · have e : l.length = 1 := by omega
      match l, e with
      | [x], _ => simp [lvs, rt_one]
    · have la := ab_length H l
      have hp := lvs_pos H k (ab H l)
      rw [Nat.pow_succ] at h1
      have ih := lvs_last k (ab H l) (by omega) (by omega) (by omega)
      have e : lvs H (k + 1) l = l :: lvs H k (ab H l) := by rw [lvs, if_neg hl]
      simp only [e, List.length_cons, Nat.add_sub_cancel]
      rw [List.getElem_cons]
      rw [dif_neg (by omega)]
      rw [ih]
      rfl

/-- a proof off all levels -/
def pfl : List (List Nat) → Nat → List (Bool × Nat)
  | [], _ => []
  | lv :: r, i => (if bes i < lv.length then [(i % 2 == 1, lv.getD (bes i) 0)] else []) ++ pfl r (i / 2)

theorem pfl_lvs : ∀ (k : Nat) (l : List Nat) (i : Nat), i < l.length → l.length ≤ 2 ^ k → pfl (lvs H k l) i = pf H k l i
  | 0, l, i, h0, h1 => by
    simp at h1
    have : ¬ bes i < l.length := by unfold bes; split <;> omega
    simp only [lvs, pfl, if_neg this, List.nil_append, pf]
  | k + 1, l, i, h0, h1 => by
    have la := ab_length H l
    rw [Nat.pow_succ] at h1
    rw [lvs, pfl, pf]
    by_cases hl : l.length ≤ 1
    · rw [if_pos hl]
      have e : l.length = 1 := by omega
      match l, e, h0 with
      | [x], _, h0 =>
        have hi : i = 0 := by simpa using h0
        subst hi
        rw [show ab H [x] = [x] from rfl, pf_one]
        rfl
    · rw [if_neg hl, pfl_lvs k (ab H l) (i / 2) (by omega) (by omega)]

/-- the first pair that differs, of one level -/
def pc : List Nat → List Nat → Option (List UInt8 × List UInt8)
  | x :: y :: r, x' :: y' :: r' => if pr x y = pr x' y' then pc r r' else some (pr x y, pr x' y')
  | _, _ => none

/-- the first pair that differs, from level k - 1 down -/
def pci (A B : List Nat) : Nat → Option (List UInt8 × List UInt8)
  | 0 => none
  | k + 1 => match pc (it H k A) (it H k B) with
    | some r => some r
    | none => pci A B k

theorem pc_one (x : Nat) (l : List Nat) : pc [x] l = none := by cases l <;> rfl
theorem pc_short (X Y : List Nat) (h : X.length ≤ 1) : pc X Y = none := by
  match X, h with
  | [], _ => rfl
  | [x], _ => exact pc_one x Y

theorem pci_more (A B : List Nat) (k j : Nat) (hk : (it H k A).length ≤ 1) : pci H A B (k + j) = pci H A B k := by
  induction j with
  | zero => rfl
  | succ j ih =>
    rw [← ih]
    have : ∀ j, (it H (k + j) A).length ≤ 1 := by
      intro j
      induction j with
      | zero => exact hk
      | succ j ih => rw [← Nat.add_assoc, it_succ, ab_length]; omega
    show (match pc (it H (k + j) A) (it H (k + j) B) with | some r => some r | none => pci H A B (k + j)) = _
    rw [pc_short _ _ (this j)]

/-- the level above tells the pairs -/
theorem pc_same (hb : ∀ s, H s < 4294967296) : ∀ X Y : List Nat, (∀ x ∈ X, x < 4294967296) → (∀ x ∈ Y, x < 4294967296) → X.length = Y.length → ab H X = ab H Y → pc X Y = none → X = Y
  | [], Y, _, _, hl, _, _ => (List.eq_nil_of_length_eq_zero hl.symm).symm
  | [x], [y], _, _, _, ha, _ => ha
  | [x], y :: y' :: r, _, _, hl, _, _ => by simp at hl
  | x :: x' :: r, [], _, _, hl, _, _ => by simp at hl
  | x :: x' :: r, [y], _, _, hl, _, _ => by simp at hl
  | x :: x' :: r, y :: y' :: q, hx, hy, hl, ha, hp => by
    rw [pc] at hp
    by_cases he : pr x x' = pr y y'
    · rw [if_pos he] at hp
      rw [ab_two, ab_two, List.cons.injEq] at ha
      obtain ⟨e1, e2⟩ := pr_inj (hx x (by simp)) (hx x' (by simp)) (hy y (by simp)) (hy y' (by simp)) he
      rw [e1, e2, pc_same hb r q (fun z hz => hx z (by simp [hz])) (fun z hz => hy z (by simp [hz])) (by simpa using hl) ha.2 hp]
    · rw [if_neg he] at hp; cases hp

/-- a pair that differs is a clash -/
theorem pc_clash : ∀ X Y : List Nat, ab H X = ab H Y → ∀ p q, pc X Y = some (p, q) → p ≠ q ∧ H p = H q ∧ p.length = 9 ∧ q.length = 9
  | x :: x' :: r, y :: y' :: s, ha, p, q, h => by
    rw [pc] at h
    rw [ab_two, ab_two, List.cons.injEq] at ha
    by_cases he : pr x x' = pr y y'
    · rw [if_pos he] at h; exact pc_clash r s ha.2 p q h
    · rw [if_neg he] at h
      cases h
      exact ⟨he, ha.1, rfl, rfl⟩
  | [], _, _, _, _, h => by simp [pc] at h
  | [_], [], _, _, _, h => by simp [pc] at h
  | [_], _ :: _, _, _, _, h => by simp [pc] at h
  | _ :: _ :: _, [], _, _, _, h => by simp [pc] at h
  | _ :: _ :: _, [_], _, _, _, h => by simp [pc] at h

theorem it_bound (B : Nat) (hH : ∀ s, H s < B) : ∀ (k : Nat) (l : List Nat), (∀ x ∈ l, x < B) → ∀ x ∈ it H k l, x < B
  | 0, _, h => h
  | k + 1, l, h => it_bound B hH k (ab H l) (ab_bound H B hH l h)

theorem it_length_eq : ∀ (k : Nat) (A B : List Nat), A.length = B.length → (it H k A).length = (it H k B).length
  | 0, _, _, h => h
  | k + 1, A, B, h => it_length_eq k _ _ (by rw [ab_length, ab_length, h])

theorem pci_some (hb : ∀ s, H s < 4294967296) (A B : List Nat) (hA : ∀ x ∈ A, x < 4294967296) (hB : ∀ x ∈ B, x < 4294967296) (hl : A.length = B.length) :
    ∀ k, it H k A = it H k B → (∀ p q, pci H A B k = some (p, q) → p ≠ q ∧ H p = H q ∧ p.length = 9 ∧ q.length = 9) ∧ (pci H A B k = none → A = B)
  | 0, h => ⟨fun p q h => by simp [pci] at h, fun _ => h⟩
  | k + 1, h => by
    rw [it_succ, it_succ] at h
    rw [pci]
    cases hp : pc (it H k A) (it H k B) with
    | some r =>
      refine ⟨fun p q h' => ?_, fun h' => by simp at h'⟩
      simp only [Option.some.injEq] at h'
      subst h'
      exact pc_clash H _ _ h p q hp
    | none =>
      have e := pc_same H hb _ _ (it_bound H _ hb k A hA) (it_bound H _ hb k B hB) (it_length_eq H k A B hl) h hp
      exact pci_some hb A B hA hB hl k e

/-! ytabhalajelbfoaa# texts -/

/-- the leaves' hashes -/
def lh (l : List (List UInt8)) : List Nat := l.map fun t => H (lf t)
theorem lh_length (l : List (List UInt8)) : (lh H l).length = l.length := List.length_map _
/-- the root of a list of texts -/
def rtx (l : List (List UInt8)) : Nat := root H (lh H l)

theorem lh_take (l : List (List UInt8)) (k : Nat) : lh H (l.take k) = (lh H l).take k := List.map_take
theorem lh_drop (l : List (List UInt8)) (k : Nat) : lh H (l.drop k) = (lh H l).drop k := List.map_drop
theorem lh_bound (B : Nat) (hH : ∀ s, H s < B) (l : List (List UInt8)) : ∀ x ∈ lh H l, x < B := by
  intro x hx
  obtain ⟨t, _, rfl⟩ := List.mem_map.1 hx
  exact hH _

theorem rtx_one (t : List UInt8) : rtx H [t] = H (lf t) := root_one H _

theorem rtx_halves (l : List (List UInt8)) (h0 : 2 ≤ l.length) (h1 : l.length ≤ 32) : rtx H l = hp H (rtx H (l.take (spn l.length))) (rtx H (l.drop (spn l.length))) := by
  unfold rtx
  rw [root_halves H (lh H l) (by rw [lh_length]; exact h0) (by rw [lh_length]; exact h1), lh_length, lh_take, lh_drop]

/-- the first place in which two lists differ -/
def fd : List (List UInt8) → List (List UInt8) → Option (List UInt8 × List UInt8)
  | x :: r, y :: s => if x = y then fd r s else some (lf x, lf y)
  | _, _ => none

theorem fd_none : ∀ a b : List (List UInt8), a.length = b.length → fd a b = none → a = b
  | [], b, h, _ => (List.eq_nil_of_length_eq_zero h.symm).symm
  | x :: r, [], h, _ => by simp at h
  | x :: r, y :: s, h, hf => by
    rw [fd] at hf
    by_cases e : x = y
    · rw [if_pos e] at hf
      rw [e, fd_none r s (by simpa using h) hf]
    · rw [if_neg e] at hf; cases hf

theorem fd_clash : ∀ a b : List (List UInt8), lh H a = lh H b → ∀ p q, fd a b = some (p, q) → p ≠ q ∧ H p = H q ∧ (∃ t ∈ a, p = lf t) ∧ ∃ t ∈ b, q = lf t
  | [], b, _, p, q, h => by simp [fd] at h
  | x :: r, [], _, p, q, h => by simp [fd] at h
  | x :: r, y :: s, hl, p, q, h => by
    unfold lh at hl
    rw [List.map_cons, List.map_cons, List.cons.injEq] at hl
    rw [fd] at h
    by_cases e : x = y
    · rw [if_pos e] at h
      obtain ⟨h1, h2, ⟨t, ht, h3⟩, ⟨u, hu, h4⟩⟩ := fd_clash r s hl.2 p q h
      exact ⟨h1, h2, ⟨t, by simp [ht], h3⟩, ⟨u, by simp [hu], h4⟩⟩
    · rw [if_neg e] at h
      cases h
      exact ⟨fun he => e (lf_inj he), hl.1, ⟨x, by simp, rfl⟩, ⟨y, by simp, rfl⟩⟩

/-- a clash of two lists with one root -/
def clash (a b : List (List UInt8)) : List UInt8 × List UInt8 :=
  match pci H (lh H a) (lh H b) 5 with
  | some r => r
  | none => match fd a b with
    | some r => r
    | none => ([], [])

theorem clash_ok (hb : ∀ s, H s < 4294967296) (a b : List (List UInt8)) (hl : a.length = b.length) (h0 : 0 < a.length) (h1 : a.length ≤ 32) (hr : rtx H a = rtx H b) (hne : a ≠ b) (hs : ∀ t ∈ a, t.length ≤ 64) (hs' : ∀ t ∈ b, t.length ≤ 64) :
    (clash H a b).1 ≠ (clash H a b).2 ∧ H (clash H a b).1 = H (clash H a b).2 ∧ (clash H a b).1.length ≤ 65 ∧ (clash H a b).2.length ≤ 65 := by
  have hla := lh_length H a
  have hlb := lh_length H b
  have e5 : it H 5 (lh H a) = it H 5 (lh H b) := by
    rw [it_root H 5 _ (by omega) (by rw [hla]; exact h1), it_root H 5 (lh H b) (by omega) (by rw [hlb, ← hl]; exact h1)]
    exact congrArg (fun x => [x]) hr
  obtain ⟨p1, p2⟩ := pci_some H hb (lh H a) (lh H b) (lh_bound H _ hb a) (lh_bound H _ hb b) (by omega) 5 e5
  unfold clash
  cases hp : pci H (lh H a) (lh H b) 5 with
  | some r =>
    obtain ⟨p, q⟩ := r
    obtain ⟨c1, c2, c3, c4⟩ := p1 p q hp
    exact ⟨c1, c2, by simp only; omega, by simp only; omega⟩
  | none =>
    have e := p2 hp
    cases hf : fd a b with
    | some r =>
      obtain ⟨p, q⟩ := r
      obtain ⟨c1, c2, ⟨t, ht, rfl⟩, ⟨u, hu, rfl⟩⟩ := fd_clash H a b e p q hf
      refine ⟨c1, c2, ?_, ?_⟩
      · have := hs t ht; simp only [lf, List.length_cons]; omega
      · have := hs' u hu; simp only [lf, List.length_cons]; omega
    | none => exact absurd (fd_none a b hl hf) hne

/-! ytabhalajelbfoaa# the comparison -/

/-- where two lists are told to differ, and by how many looks -/
def cm : Nat → List (List UInt8) → List (List UInt8) → Nat → List Nat × Nat
  | 0, _, _, _ => ([], 0)
  | n + 1, a, b, f => if rtx H a = rtx H b then ([], 1) else if a.length ≤ 1 then ([f], 1) else
      ((cm n (a.take (spn a.length)) (b.take (spn a.length)) f).1 ++ (cm n (a.drop (spn a.length)) (b.drop (spn a.length)) (f + spn a.length)).1,
        1 + (cm n (a.take (spn a.length)) (b.take (spn a.length)) f).2 + (cm n (a.drop (spn a.length)) (b.drop (spn a.length)) (f + spn a.length)).2)

theorem cm_same (n : Nat) (a b : List (List UInt8)) (f : Nat) (h : rtx H a = rtx H b) : cm H (n + 1) a b f = ([], 1) := by rw [cm, if_pos h]
theorem cm_leaf (n : Nat) (a b : List (List UInt8)) (f : Nat) (h : rtx H a ≠ rtx H b) (hl : a.length ≤ 1) : cm H (n + 1) a b f = ([f], 1) := by rw [cm, if_neg h, if_pos hl]
theorem cm_pair (n : Nat) (a b : List (List UInt8)) (f : Nat) (h : rtx H a ≠ rtx H b) (hl : 2 ≤ a.length) : cm H (n + 1) a b f =
    ((cm H n (a.take (spn a.length)) (b.take (spn a.length)) f).1 ++ (cm H n (a.drop (spn a.length)) (b.drop (spn a.length)) (f + spn a.length)).1,
        1 + (cm H n (a.take (spn a.length)) (b.take (spn a.length)) f).2 + (cm H n (a.drop (spn a.length)) (b.drop (spn a.length)) (f + spn a.length)).2) := by
  rw [cm, if_neg h, if_neg (by omega)]

theorem cm_shift : ∀ (n : Nat) (a b : List (List UInt8)) (f g : Nat), cm H n a b (g + f) = ((cm H n a b g).1.map (· + f), (cm H n a b g).2)
  | 0, _, _, _, _ => rfl
  | n + 1, a, b, f, g => by
    by_cases h : rtx H a = rtx H b
    · rw [cm_same H n a b _ h, cm_same H n a b _ h]; rfl
    · by_cases hl : a.length ≤ 1
      · rw [cm_leaf H n a b _ h hl, cm_leaf H n a b _ h hl]; rfl
      · rw [cm_pair H n a b _ h (by omega), cm_pair H n a b _ h (by omega), cm_shift n _ _ f g, show g + f + spn a.length = (g + spn a.length) + f by omega, cm_shift n _ _ f (g + spn a.length)]
        simp only [List.map_append]

theorem cm_fuel : ∀ (n m : Nat) (a b : List (List UInt8)) (f : Nat), 0 < a.length → a.length ≤ n → a.length ≤ m → cm H n a b f = cm H m a b f
  | 0, _, _, _, _, h0, hn, _ => by omega
  | n + 1, 0, _, _, _, h0, _, hm => by omega
  | n + 1, m + 1, a, b, f, h0, hn, hm => by
    by_cases h : rtx H a = rtx H b
    · rw [cm_same H n a b _ h, cm_same H m a b _ h]
    · by_cases hl : a.length ≤ 1
      · rw [cm_leaf H n a b _ h hl, cm_leaf H m a b _ h hl]
      · have s1 := spn_lt a.length (by omega)
        have s0 := spn_pos a.length
        have l1 : (a.take (spn a.length)).length = spn a.length := by rw [List.length_take]; omega
        have l2 : (a.drop (spn a.length)).length = a.length - spn a.length := List.length_drop
        rw [cm_pair H n a b _ h (by omega), cm_pair H m a b _ h (by omega), cm_fuel n m _ _ f (by omega) (by omega) (by omega), cm_fuel n m _ _ (f + spn a.length) (by omega) (by omega) (by omega)]

theorem cm_sym : ∀ (n : Nat) (a b : List (List UInt8)) (f : Nat), a.length = b.length → cm H n a b f = cm H n b a f
  | 0, _, _, _, _ => rfl
  | n + 1, a, b, f, he => by
    by_cases h : rtx H a = rtx H b
    · rw [cm_same H n a b _ h, cm_same H n b a _ h.symm]
    · by_cases hl : a.length ≤ 1
      · rw [cm_leaf H n a b _ h hl, cm_leaf H n b a _ (Ne.symm h) (by omega)]
      · rw [cm_pair H n a b _ h (by omega), cm_pair H n b a _ (Ne.symm h) (by omega), ← he, cm_sym n _ _ f (by rw [List.length_take, List.length_take, he]), cm_sym n _ _ (f + spn a.length) (by rw [List.length_drop, List.length_drop, he])]

theorem cm_many : ∀ (n : Nat) (a b : List (List UInt8)) (f : Nat), 0 < a.length → a.length ≤ n → 1 ≤ (cm H n a b f).2 ∧ (cm H n a b f).2 + 1 ≤ 2 * a.length
  | 0, _, _, _, h0, hn => by omega
  | n + 1, a, b, f, h0, hn => by
    by_cases h : rtx H a = rtx H b
    · rw [cm_same H n a b _ h]; simp only; omega
    · by_cases hl : a.length ≤ 1
      · rw [cm_leaf H n a b _ h hl]; simp only; omega
      · have s1 := spn_lt a.length (by omega)
        have s0 := spn_pos a.length
        have l1 : (a.take (spn a.length)).length = spn a.length := by rw [List.length_take]; omega
        have l2 : (a.drop (spn a.length)).length = a.length - spn a.length := List.length_drop
        have i1 := cm_many n (a.take (spn a.length)) (b.take (spn a.length)) f (by omega) (by omega)
        have i2 := cm_many n (a.drop (spn a.length)) (b.drop (spn a.length)) (f + spn a.length) (by omega) (by omega)
        rw [cm_pair H n a b _ h (by omega)]
        simp only
        omega

theorem cm_rise : ∀ (n : Nat) (a b : List (List UInt8)) (f : Nat), 0 < a.length → (cm H n a b f).1.Pairwise (· < ·) ∧ ∀ i ∈ (cm H n a b f).1, f ≤ i ∧ i < f + a.length
  | 0, _, _, _, _ => ⟨List.Pairwise.nil, fun i h => by simp [cm] at h⟩
  | n + 1, a, b, f, h0 => by
    by_cases h : rtx H a = rtx H b
    · rw [cm_same H n a b _ h]; exact ⟨List.Pairwise.nil, fun i h => by simp at h⟩
    · by_cases hl : a.length ≤ 1
      · rw [cm_leaf H n a b _ h hl]
        exact ⟨List.pairwise_singleton _ _, fun i h => by simp at h; omega⟩
      · have s1 := spn_lt a.length (by omega)
        have s0 := spn_pos a.length
        have l1 : (a.take (spn a.length)).length = spn a.length := by rw [List.length_take]; omega
        have l2 : (a.drop (spn a.length)).length = a.length - spn a.length := List.length_drop
        obtain ⟨p1, r1⟩ := cm_rise n (a.take (spn a.length)) (b.take (spn a.length)) f (by omega)
        obtain ⟨p2, r2⟩ := cm_rise n (a.drop (spn a.length)) (b.drop (spn a.length)) (f + spn a.length) (by omega)
        rw [cm_pair H n a b _ h (by omega)]
        refine ⟨List.pairwise_append.2 ⟨p1, p2, fun x hx y hy => ?_⟩, fun i hi => ?_⟩
        · have := r1 x hx; have := r2 y hy; omega
        · rcases List.mem_append.1 hi with hi | hi
          · have := r1 i hi; omega
          · have := r2 i hi; omega

theorem cm_differ : ∀ (n : Nat) (a b : List (List UInt8)) (f : Nat), 0 < a.length → a.length ≤ 32 → a.length = b.length → ∀ i ∈ (cm H n a b f).1, a[i - f]? ≠ b[i - f]?
  | 0, _, _, _, _, _, _, i, h => by simp [cm] at h
  | n + 1, a, b, f, h0, h32, he, i, hi => by
    by_cases h : rtx H a = rtx H b
    · rw [cm_same H n a b _ h] at hi; simp at hi
    · by_cases hl : a.length ≤ 1
      · rw [cm_leaf H n a b _ h hl] at hi
        have : i = f := by simpa using hi
        subst this
        rw [Nat.sub_self]
        obtain ⟨x, rfl⟩ := List.length_eq_one_iff.1 (show a.length = 1 by omega)
        obtain ⟨y, rfl⟩ := List.length_eq_one_iff.1 (show b.length = 1 by simpa using he.symm)
        intro e
        simp at e
        exact h (by rw [e])
      · have s1 := spn_lt a.length (by omega)
        have s0 := spn_pos a.length
        have l1 : (a.take (spn a.length)).length = spn a.length := by rw [List.length_take]; omega
        have l2 : (a.drop (spn a.length)).length = a.length - spn a.length := List.length_drop
        obtain ⟨_, r1⟩ := cm_rise H n (a.take (spn a.length)) (b.take (spn a.length)) f (by omega)
        obtain ⟨_, r2⟩ := cm_rise H n (a.drop (spn a.length)) (b.drop (spn a.length)) (f + spn a.length) (by omega)
        rw [cm_pair H n a b _ h (by omega)] at hi
        rcases List.mem_append.1 hi with hi | hi
        · have q := cm_differ n _ _ f (by omega) (by omega) (by rw [List.length_take, List.length_take, he]) i hi
          have := r1 i hi
          rw [List.getElem?_take_of_lt (by omega), List.getElem?_take_of_lt (by omega)] at q
          exact q
        · have q := cm_differ n _ _ (f + spn a.length) (by omega) (by omega) (by rw [List.length_drop, List.length_drop, he]) i hi
          have := r2 i hi
          rw [List.getElem?_drop, List.getElem?_drop, show spn a.length + (i - (f + spn a.length)) = i - f by omega] at q
          exact q

/-- how many places differ -/
def dif : List (List UInt8) → List (List UInt8) → Nat
  | x :: r, y :: s => (if x = y then 0 else 1) + dif r s
  | _, _ => 0

theorem dif_append : ∀ (a b c d : List (List UInt8)), a.length = b.length → dif (a ++ c) (b ++ d) = dif a b + dif c d
  | [], [], c, d, _ => by simp [dif]
  | x :: r, [], _, _, h => by simp at h
  | [], y :: s, _, _, h => by simp at h
  | x :: r, y :: s, c, d, h => by
    rw [List.cons_append, List.cons_append, dif, dif, dif_append r s c d (by simpa using h)]
    omega

theorem dif_zero : ∀ (a b : List (List UInt8)), a.length = b.length → dif a b = 0 → a = b
  | [], b, h, _ => (List.eq_nil_of_length_eq_zero h.symm).symm
  | x :: r, [], h, _ => by simp at h
  | x :: r, y :: s, h, h0 => by
    rw [dif] at h0
    by_cases e : x = y
    · rw [if_pos e] at h0
      rw [e, dif_zero r s (by simpa using h) (by omega)]
    · rw [if_neg e] at h0; omega

theorem dif_self : ∀ a : List (List UInt8), dif a a = 0
  | [] => rfl
  | x :: r => by rw [dif, if_pos rfl, dif_self r]

theorem dif_set : ∀ (a b : List (List UInt8)) (i : Nat) (y : List UInt8), dif a (b.set i y) ≤ dif a b + 1
  | [], b, i, y => by simp [dif]
  | x :: r, [], i, y => by simp [dif]
  | x :: r, z :: s, 0, y => by
    rw [List.set_cons_zero, dif, dif]
    split <;> split <;> omega
  | x :: r, z :: s, i + 1, y => by
    rw [List.set_cons_succ, dif, dif]
    have := dif_set r s i y
    omega

theorem cm_few : ∀ (h n : Nat) (a b : List (List UInt8)) (f : Nat), 0 < a.length → a.length ≤ 2 ^ h → a.length = b.length → (cm H n a b f).2 ≤ 1 + 2 * h * dif a b
  | h, 0, _, _, _, _, _, _ => by simp [cm]
  | h, n + 1, a, b, f, h0, hh, he => by
    by_cases hr : rtx H a = rtx H b
    · rw [cm_same H n a b _ hr]; simp only; omega
    · by_cases hl : a.length ≤ 1
      · rw [cm_leaf H n a b _ hr hl]; simp only; omega
      · have s1 := spn_lt a.length (by omega)
        have s0 := spn_pos a.length
        have s2 := spn_two a.length (by omega)
        have l1 : (a.take (spn a.length)).length = spn a.length := by rw [List.length_take]; omega
        have l2 : (a.drop (spn a.length)).length = a.length - spn a.length := List.length_drop
        match h, hh with
        | 0, hh => simp at hh; omega
        | h + 1, hh =>
          have hk : spn a.length ≤ 2 ^ h := by
            unfold spn at s1 ⊢
            have : 2 ^ (a.length - 1).log2 < 2 ^ (h + 1) := by omega
            exact Nat.pow_le_pow_right (by omega) (by have := (Nat.pow_lt_pow_iff_right (a := 2) (by omega)).1 this; omega)
          have i1 := cm_few h n (a.take (spn a.length)) (b.take (spn a.length)) f (by omega) (by omega) (by rw [List.length_take, List.length_take, he])
          have i2 := cm_few h n (a.drop (spn a.length)) (b.drop (spn a.length)) (f + spn a.length) (by omega) (by omega) (by rw [List.length_drop, List.length_drop, he])
          have hd := dif_append (a.take (spn a.length)) (b.take (spn a.length)) (a.drop (spn a.length)) (b.drop (spn a.length)) (by rw [List.length_take, List.length_take, he])
          rw [List.take_append_drop, List.take_append_drop] at hd
          have h1 : 1 ≤ dif a b := by
            apply Nat.pos_of_ne_zero
            intro h0
            exact hr (by rw [dif_zero a b he h0])
          rw [cm_pair H n a b _ hr (by omega)]
          simp only
          generalize dif (a.take (spn a.length)) (b.take (spn a.length)) = d1 at *
          generalize dif (a.drop (spn a.length)) (b.drop (spn a.length)) = d2 at *
          rw [hd] at h1 ⊢
          have e1 : 2 * (h + 1) * (d1 + d2) = 2 * h * d1 + 2 * h * d2 + 2 * (d1 + d2) := by
            rw [Nat.mul_add 2 h 1, Nat.add_mul, Nat.mul_add (2 * h)]
          omega

/-- a list in which some places are another's -/
def mix (a b : List (List UInt8)) (f : Nat) (L : List Nat) : List (List UInt8) := a.mapIdx fun i x => if i + f ∈ L then b.getD i [] else x

theorem mix_length (a b : List (List UInt8)) (f : Nat) (L : List Nat) : (mix a b f L).length = a.length := List.length_mapIdx

theorem mix_get (a b : List (List UInt8)) (f : Nat) (L : List Nat) (i : Nat) (h : i < a.length) : (mix a b f L)[i]'(by rw [mix_length]; exact h) = if i + f ∈ L then b.getD i [] else a[i] := List.getElem_mapIdx ..

theorem mix_split (a b : List (List UInt8)) (f k : Nat) (L M : List Nat) (hk : k ≤ a.length) (hl : a.length = b.length) (hL : ∀ i ∈ L, i < f + k) (hM : ∀ i ∈ M, f + k ≤ i) :
    mix a b f (L ++ M) = mix (a.take k) (b.take k) f L ++ mix (a.drop k) (b.drop k) (f + k) M := by
  have l1 : (a.take k).length = k := by rw [List.length_take]; omega
  apply List.ext_getElem
  · rw [List.length_append, mix_length, mix_length, mix_length, ← List.length_append, List.take_append_drop]
  · intro i h1 h2
    rw [mix_length] at h1
    rw [mix_get a b f _ i h1, List.getElem_append]
    by_cases h : i < k
    · rw [dif_pos (by rw [mix_length, l1]; exact h), mix_get _ _ _ _ _ (by omega), List.getElem_take]
      have hm : i + f ∉ M := fun h' => by have := hM _ h'; omega
      have hg : (b.take k).getD i [] = b.getD i [] := by rw [List.getD_eq_getElem?_getD, List.getD_eq_getElem?_getD, List.getElem?_take_of_lt h]
      rw [hg]
      by_cases hi : i + f ∈ L
      · rw [if_pos (by simp [hi]), if_pos hi]
      · rw [if_neg (by simp [hi, hm]), if_neg hi]
    · rw [dif_neg (by rw [mix_length, l1]; exact h)]
      have e : i - (mix (a.take k) (b.take k) f L).length = i - k := by rw [mix_length, l1]
      simp only [e]
      rw [mix_get _ _ _ _ _ (by rw [List.length_drop]; omega), List.getElem_drop]
      have hm : i + f ∉ L := fun h' => by have := hL _ h'; omega
      have hg : (b.drop k).getD (i - k) [] = b.getD i [] := by rw [List.getD_eq_getElem?_getD, List.getD_eq_getElem?_getD, List.getElem?_drop, show k + (i - k) = i by omega]
      have e2 : i - k + (f + k) = i + f := by omega
      have e3 : k + (i - k) = i := by omega
      simp only [hg, e2, e3]
      by_cases hi : i + f ∈ M
      · rw [if_pos (by simp [hi]), if_pos hi]
      · rw [if_neg (by simp [hi, hm]), if_neg hi]

theorem mix_nil (a b : List (List UInt8)) (f : Nat) : mix a b f [] = a := by
  apply List.ext_getElem
  · exact mix_length _ _ _ _
  · intro i h1 h2
    rw [mix_get a b f [] i h2, if_neg (by simp)]

theorem cm_found : ∀ (n : Nat) (a b : List (List UInt8)) (f : Nat), 0 < a.length → a.length ≤ n → a.length ≤ 32 → a.length = b.length → rtx H (mix a b f (cm H n a b f).1) = rtx H b
  | 0, _, _, _, h0, hn, _, _ => by omega
  | n + 1, a, b, f, h0, hn, h32, he => by
    by_cases h : rtx H a = rtx H b
    · rw [cm_same H n a b _ h, mix_nil]; exact h
    · by_cases hl : a.length ≤ 1
      · rw [cm_leaf H n a b _ h hl]
        obtain ⟨x, rfl⟩ := List.length_eq_one_iff.1 (show a.length = 1 by omega)
        obtain ⟨y, rfl⟩ := List.length_eq_one_iff.1 (show b.length = 1 by simpa using he.symm)
        simp [mix]
      · have s1 := spn_lt a.length (by omega)
        have s0 := spn_pos a.length
        have l1 : (a.take (spn a.length)).length = spn a.length := by rw [List.length_take]; omega
        have l2 : (a.drop (spn a.length)).length = a.length - spn a.length := List.length_drop
        obtain ⟨_, r1⟩ := cm_rise H n (a.take (spn a.length)) (b.take (spn a.length)) f (by omega)
        obtain ⟨_, r2⟩ := cm_rise H n (a.drop (spn a.length)) (b.drop (spn a.length)) (f + spn a.length) (by omega)
        have i1 := cm_found n (a.take (spn a.length)) (b.take (spn a.length)) f (by omega) (by omega) (by omega) (by rw [List.length_take, List.length_take, he])
        have i2 := cm_found n (a.drop (spn a.length)) (b.drop (spn a.length)) (f + spn a.length) (by omega) (by omega) (by omega) (by rw [List.length_drop, List.length_drop, he])
        rw [cm_pair H n a b _ h (by omega)]
        simp only
        rw [mix_split a b f (spn a.length) _ _ (by omega) he (fun i hi => by have := (r1 i hi).2; omega) (fun i hi => (r2 i hi).1)]
        generalize hP : mix (a.take (spn a.length)) (b.take (spn a.length)) f (cm H n (a.take (spn a.length)) (b.take (spn a.length)) f).1 = P at *
        generalize hQ : mix (a.drop (spn a.length)) (b.drop (spn a.length)) (f + spn a.length) (cm H n (a.drop (spn a.length)) (b.drop (spn a.length)) (f + spn a.length)).1 = Q at *
        have lP : P.length = spn a.length := by rw [← hP, mix_length, l1]
        have lQ : Q.length = a.length - spn a.length := by rw [← hQ, mix_length, l2]
        have lPQ : (P ++ Q).length = a.length := by rw [List.length_append]; omega
        rw [rtx_halves H (P ++ Q) (by omega) (by omega), rtx_halves H b (by omega) (by omega), lPQ, ← he, List.take_left' lP, List.drop_left' lP, i1, i2]

end
end WoolTree
