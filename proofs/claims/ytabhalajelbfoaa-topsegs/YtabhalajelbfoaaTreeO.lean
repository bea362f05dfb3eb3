/-
  Trees of prints, plainly: hashes of a level as roots of parts; all that is said on the way up (ch); steps and levels. Conditions: as each says.
-/
import Derived.Test.YtabhalajelbfoaaTreeN
namespace WoolTree

section
variable (H : List UInt8 → Nat)

theorem lt_it : ∀ (k : Nat) (l : List Nat) (j : Nat), j < (it H k l).length ↔ j * 2 ^ k < l.length
  | 0, l, j => by rw [it]; omega
  | k + 1, l, j => by
    rw [it, lt_it k (ab H l) j, ab_length, Nat.pow_succ, ← Nat.mul_assoc]
    omega

theorem it_nil : ∀ k, it H k [] = []
  | 0 => rfl
  | k + 1 => it_nil k

/-- a hash of a level is the root of a part -/
theorem it_part (k : Nat) (A : List Nat) (j : Nat) (h : j * 2 ^ k < A.length) : (it H k A)[j]'((lt_it H k A j).2 h) = rt H k ((A.drop (j * 2 ^ k)).take (2 ^ k)) := by
  have hp : 0 < 2 ^ k := Nat.pow_pos (by omega)
  have l1 : (A.take (j * 2 ^ k)).length = j * 2 ^ k := by rw [List.length_take]; omega
  have l2 : (A.drop (j * 2 ^ k)).length = A.length - j * 2 ^ k := List.length_drop
  have e1 : it H k A = it H k (A.take (j * 2 ^ k)) ++ it H k (A.drop (j * 2 ^ k)) := by
    rw [← it_append H k _ _ (by rw [l1]; exact Nat.mul_mod_left _ _), List.take_append_drop]
  have l3 : (it H k (A.take (j * 2 ^ k))).length = j := by
    apply Nat.le_antisymm
    · apply Nat.le_of_not_lt
      intro h'
      have := (lt_it H k _ _).1 h'
      rw [l1] at this
      omega
    · apply Nat.le_of_not_lt
      intro h'
      have h2 := mt (lt_it H k (A.take (j * 2 ^ k)) (it H k (A.take (j * 2 ^ k))).length).2 (by omega)
      rw [l1] at h2
      have := Nat.mul_le_mul_right (2 ^ k) (show (it H k (A.take (j * 2 ^ k))).length + 1 ≤ j by omega)
      rw [Nat.add_mul] at this
      omega
  have e2 : it H k (A.drop (j * 2 ^ k)) = rt H k ((A.drop (j * 2 ^ k)).take (2 ^ k)) :: it H k ((A.drop (j * 2 ^ k)).drop (2 ^ k)) := by
    by_cases hd : (A.drop (j * 2 ^ k)).length ≤ 2 ^ k
    · rw [List.take_of_length_le hd, List.drop_of_length_le hd, it_nil, it_root H k _ (by omega) hd]
    · have l4 : ((A.drop (j * 2 ^ k)).take (2 ^ k)).length = 2 ^ k := by rw [List.length_take]; omega
      have e3 := it_append H k ((A.drop (j * 2 ^ k)).take (2 ^ k)) ((A.drop (j * 2 ^ k)).drop (2 ^ k)) (by rw [l4]; exact Nat.mod_self _)
      rw [List.take_append_drop, it_root H k ((A.drop (j * 2 ^ k)).take (2 ^ k)) (by omega) (by omega)] at e3
      exact e3
  have g : (it H k A)[j]? = some (rt H k ((A.drop (j * 2 ^ k)).take (2 ^ k))) := by
    rw [e1, List.getElem?_append_right (by omega), l3, Nat.sub_self, e2]
    rfl
  exact (List.getElem?_eq_some_iff.1 g).2

theorem rtx_part (k : Nat) (a : List (List UInt8)) (j : Nat) (hk : k ≤ 5) (h : j * 2 ^ k < a.length) : (it H k (lh H a))[j]'((lt_it H k _ j).2 (by rw [lh_length]; exact h)) = rtx H ((a.drop (j * 2 ^ k)).take (2 ^ k)) := by
  have hp : 0 < 2 ^ k := Nat.pow_pos (by omega)
  have h5 : 2 ^ k ≤ 32 := Nat.pow_le_pow_right (n := 2) (by omega) hk
  have hl : ((a.drop (j * 2 ^ k)).take (2 ^ k)).length ≤ 2 ^ k := by rw [List.length_take]; omega
  have h0 : 0 < ((a.drop (j * 2 ^ k)).take (2 ^ k)).length := by rw [List.length_take, List.length_drop]; omega
  rw [it_part H k (lh H a) j (by rw [lh_length]; exact h), ← lh_drop, ← lh_take]
  exact root_of H k _ (by rw [lh_length]; exact h0) (by rw [lh_length]; omega) (by rw [lh_length]; exact hl)

/-- pairs are gone through two by two -/
theorem pc_step (X Y : List Nat) (i : Nat) (h : i + 1 < X.length) (h' : i + 1 < Y.length) : pc (X.drop i) (Y.drop i) = if pr X[i] X[i + 1] = pr Y[i] Y[i + 1] then pc (X.drop (i + 2)) (Y.drop (i + 2)) else some (pr X[i] X[i + 1], pr Y[i] Y[i + 1]) := by
  rw [List.drop_eq_getElem_cons (by omega : i < X.length), List.drop_eq_getElem_cons h, List.drop_eq_getElem_cons (by omega : i < Y.length), List.drop_eq_getElem_cons h', pc]

theorem pc_end (X Y : List Nat) (i : Nat) (h : ¬ i + 1 < X.length) : pc (X.drop i) (Y.drop i) = none := pc_short _ _ (by rw [List.length_drop]; omega)

theorem pci_lvs (A B : List Nat) (h0 : 0 < A.length) (h : A.length ≤ 32) : pci H A B (lvs H 5 A).length = pci H A B 5 := by
  have hp := lvs_pos H 5 A
  have hl := lvs_len H 5 A
  have hlast := lvs_last H 5 A h0 (by omega) (by omega)
  rw [lvs_get] at hlast
  have h1 : (it H ((lvs H 5 A).length - 1) A).length ≤ 1 := by rw [hlast]; simp
  have e1 := pci_more H A B _ 1 h1
  have e2 := pci_more H A B _ (5 - ((lvs H 5 A).length - 1)) h1
  rw [show (lvs H 5 A).length - 1 + 1 = (lvs H 5 A).length by omega] at e1
  rw [show (lvs H 5 A).length - 1 + (5 - ((lvs H 5 A).length - 1)) = 5 by omega] at e2
  rw [e1, e2]

/-! ytabhalajelbfoaa# what is said on the way up -/

/-- what is said of the pair with a step's hash -/
def nx (h : Nat) (s : Bool × Int) : List UInt8 := if s.1 then pr s.2.toNat h else pr h s.2.toNat
theorem clm_nx (x : Nat) (s : Bool × Int) : clm H x s = H (nx x s) := by
  unfold clm nx hp
  split <;> rfl

def ch (p : List UInt8) : List (Bool × Int) → List (List UInt8)
  | [] => [p]
  | s :: q => p :: ch (nx (H p) s) q

theorem ch_length : ∀ (l : List (Bool × Int)) (p : List UInt8), (ch H p l).length = l.length + 1
  | [], _ => rfl
  | s :: q, p => by rw [ch, List.length_cons, ch_length q, List.length_cons]

theorem nx_length (h : Nat) (s : Bool × Int) : (nx h s).length = 9 := by unfold nx; split <;> rfl

theorem ch_size : ∀ (l : List (Bool × Int)) (p : List UInt8) (N : Nat), 9 ≤ N → p.length ≤ N → ∀ t ∈ ch H p l, t.length ≤ N
  | [], p, N, _, hp, t, ht => by rw [ch, List.mem_singleton] at ht; subst ht; exact hp
  | s :: q, p, N, h9, hp, t, ht => by
    rw [ch, List.mem_cons] at ht
    rcases ht with rfl | ht
    · exact hp
    · exact ch_size q _ N h9 (by rw [nx_length]; exact h9) t ht

theorem nx_inj {h h' : Nat} {s s' : Bool × Int} (hs : s.1 = s'.1) (hb : h < 4294967296) (hb' : h' < 4294967296) (h2 : s.2 ≤ 2147483647) (h2' : s'.2 ≤ 2147483647) (e : nx h s = nx h' s') : h = h' := by
  unfold nx at e
  rw [← hs] at e
  by_cases hl : s.1 = true
  · rw [if_pos hl, if_pos hl] at e
    exact (pr_inj (by omega) hb (by omega) hb' e).2
  · rw [if_neg hl, if_neg hl] at e
    exact (pr_inj hb (by omega) hb' (by omega) e).1

theorem vs_binds (hb : ∀ s, H s < 4294967296) : ∀ (t : List Bool) (p q : List UInt8) (l m : List (Bool × Int)) (r : Int), vs H t (H p) l r = true → vs H t (H q) m r = true → p ≠ q →
    ∃ (k : Nat) (x y : List UInt8), (ch H p l)[k]? = some x ∧ (ch H q m)[k]? = some y ∧ H x = H y ∧ x ≠ y
  | [], p, q, [], [], r, h1, h2, hne => by
    rw [vs, beq_iff_eq] at h1 h2
    exact ⟨0, p, q, rfl, rfl, by omega, hne⟩
  | [], p, q, _ :: _, m, r, h1, h2, hne => by simp [vs] at h1
  | [], p, q, [], _ :: _, r, h1, h2, hne => by simp [vs] at h2
  | b :: t, p, q, [], m, r, h1, h2, hne => by simp [vs] at h1
  | b :: t, p, q, _ :: _, [], r, h1, h2, hne => by simp [vs] at h2
  | b :: t, p, q, s :: l, s' :: m, r, h1, h2, hne => by
    rw [vs, Bool.and_eq_true, Bool.and_eq_true, Bool.and_eq_true, beq_iff_eq, decide_eq_true_eq, decide_eq_true_eq, clm_nx] at h1 h2
    by_cases e : H p = H q
    · exact ⟨0, p, q, rfl, rfl, e, hne⟩
    · obtain ⟨k, x, y, a1, a2, a3⟩ := vs_binds hb t (nx (H p) s) (nx (H q) s') l m r h1.2 h2.2 (fun e2 => e (nx_inj (h1.1.1.trans h2.1.1.symm) (hb _) (hb _) h1.1.2.2 h2.1.2.2 e2))
      exact ⟨k + 1, x, y, a1, a2, a3⟩

/-! ytabhalajelbfoaa# how many steps -/

theorem pf_length : ∀ (k : Nat) (l : List Nat) (i : Nat), (pf H k l i).length ≤ k
  | 0, _, _ => by simp [pf]
  | k + 1, l, i => by
    have := pf_length k (ab H l) (i / 2)
    rw [pf, List.length_append]
    split
    · simp only [List.length_singleton]; omega
    · simp only [List.length_nil]; omega

theorem prf_length (k : Nat) (l : List Nat) (i : Nat) (h0 : i < l.length) (h : l.length ≤ 32) (hk : l.length ≤ 2 ^ k) : (prf H l i).length ≤ k := by
  unfold prf
  rw [pf_eq H 5 k l i h0 (by omega) hk]
  exact pf_length H k l i

theorem prf_last (l : List Nat) (h0 : 0 < l.length) (h : l.length ≤ 32) : 0 < (prf H l (l.length - 1)).length ↔ 1 < l.length := by
  by_cases h1 : l.length = 1
  · obtain ⟨x, rfl⟩ := List.length_eq_one_iff.1 h1
    rw [show prf H [x] ([x].length - 1) = [] from pf_one H 5 x]
    simp
  · have s1 := spn_lt l.length (by omega)
    rw [prf_halves H l (l.length - 1) (by omega) h (by omega)]
    split
    · rw [List.length_append]; simp; omega
    · rw [List.length_append]; simp; omega

theorem prf_one (x : Nat) : prf H [x] 0 = [] := pf_one H 5 x

theorem prf_bound (B : Nat) (hB : 0 < B) (hH : ∀ s, H s < B) : ∀ (k : Nat) (l : List Nat) (i : Nat), (∀ x ∈ l, x < B) → ∀ s ∈ pf H k l i, s.2 < B
  | 0, _, _, _, s, hs => by simp [pf] at hs
  | k + 1, l, i, h, s, hs => by
    rw [pf, List.mem_append] at hs
    rcases hs with hs | hs
    · split at hs
      · rw [List.mem_singleton] at hs
        subst hs
        exact getD_lt l B _ hB h
      · simp at hs
    · exact prf_bound B hB hH k _ _ (ab_bound H B hH l h) s hs

end

/-- the hash of trees -/
theorem sd_one : sd 5 1 0 = [] := rfl

end WoolTree
