/-
  Plain mathematics of fingerprints: of two texts behind one another, of a window that moves on, of three texts added, of a text with some bits turned. No condition but those that each says.
-/
import Derived.Test.YtbeigaanlhaolaaDoorPrint2
namespace Go.Proofs.YtbeigaanlhaolaaDoor
open Go.RowKit
open Go.Proofs

theorem snoc_ind {α : Type} {P : List α → Prop} (h0 : P []) (hs : ∀ l a, P l → P (l ++ [a])) : ∀ l, P l := by
  intro l
  have : ∀ k : List α, P k.reverse := by
    intro k
    induction k with
    | nil => exact h0
    | cons a k ih => rw [List.reverse_cons]; exact hs _ _ ih
  have := this l.reverse
  rwa [List.reverse_reverse] at this

theorem sp_append (l k : List UInt8) : sp (l ++ k) = WoolMath.mul (sp l) (WoolMath.pw 256 k.length) ^^^ (sp k ^^^ WoolMath.pw 256 k.length) := by
  revert k
  refine snoc_ind ?_ ?_
  · rw [List.append_nil, sp_nil, List.length_nil, WoolMath.pw_zero, WoolMath.mul_one, Nat.xor_self, Nat.xor_zero]
  · intro k c ih
    rw [← List.append_assoc, sp_snoc, ih, sp_snoc, List.length_append, List.length_singleton, WoolMath.pw_succ, WoolMath.xor_mul, WoolMath.xor_mul, WoolMath.mul_assoc]
    generalize WoolMath.mul (sp l) (WoolMath.mul (WoolMath.pw 256 k.length) 256) = X
    generalize WoolMath.mul (WoolMath.pw 256 k.length) 256 = Y
    generalize WoolMath.mul (sp k) 256 = Z
    rw [Nat.xor_assoc, Nat.xor_assoc, Nat.xor_assoc, Nat.xor_comm Y]

theorem fp_join (M : Nat) (h : 2 ≤ M) (l k : List UInt8) : fp M (l ++ k) = joinV M (fp M l) (fp M k) k.length := by
  unfold joinV fp
  have hm : M ≠ 0 := by omega
  rw [sp_append, WoolMath.pmod_xor _ _ _ hm, WoolMath.pmod_xor _ _ _ hm, WoolMath.pmod_mul_right _ _ _ hm, WoolMath.pmod_mul_left _ _ _ hm, Nat.xor_assoc]

theorem sp_one (c : UInt8) : sp [c] = 256 ^^^ c.toNat := by
  show WoolMath.mul 1 256 ^^^ c.toNat = _
  rw [WoolMath.one_mul]

theorem fp_roll (M : Nat) (h : 2 ≤ M) (c d : UInt8) (l : List UInt8) : fp M (l ++ [d]) = rollV M (fp M (c :: l)) c.toNat d.toNat (l.length + 1) := by
  have hm : M ≠ 0 := by omega
  have e1 : sp (c :: l) = WoolMath.mul (256 ^^^ c.toNat) (WoolMath.pw 256 l.length) ^^^ (sp l ^^^ WoolMath.pw 256 l.length) := by
    have := sp_append [c] l
    rwa [sp_one] at this
  have e2 : restV M (fp M (c :: l)) c.toNat (l.length + 1) = WoolMath.pmod (sp l ^^^ WoolMath.pw 256 l.length) M := by
    unfold restV fp
    rw [Nat.add_sub_cancel, WoolMath.pmod_mul_right _ _ _ hm, e1, ← WoolMath.pmod_xor _ _ _ hm, ← WoolMath.pmod_xor _ _ _ hm, WoolMath.pw_succ, WoolMath.xor_mul, WoolMath.mul_comm 256]
    congr 1
    generalize WoolMath.mul (WoolMath.pw 256 l.length) 256 = X
    generalize WoolMath.mul c.toNat (WoolMath.pw 256 l.length) = Y
    generalize sp l ^^^ WoolMath.pw 256 l.length = Z
    apply Nat.eq_of_testBit_eq
    intro i
    simp only [Nat.testBit_xor]
    cases X.testBit i <;> cases Y.testBit i <;> cases Z.testBit i <;> rfl
  unfold rollV
  rw [e2, WoolMath.pmod_mul_left _ _ _ hm, ← WoolMath.pmod_xor _ _ _ hm, ← WoolMath.pmod_xor _ _ _ hm, WoolMath.pw_succ, WoolMath.xor_mul]
  unfold fp
  rw [sp_snoc]
  congr 1
  generalize WoolMath.mul (WoolMath.pw 256 l.length) 256 = X
  generalize WoolMath.mul (sp l) 256 = Y
  generalize d.toNat = Z
  apply Nat.eq_of_testBit_eq
  intro i
  simp only [Nat.testBit_xor]
  cases X.testBit i <;> cases Y.testBit i <;> cases Z.testBit i <;> rfl

/-- three texts, added -/
def xor3 : List UInt8 → List UInt8 → List UInt8 → List UInt8
  | a :: l, b :: k, c :: j => (a ^^^ b ^^^ c) :: xor3 l k j
  | _, _, _ => []

theorem xor3_length : ∀ (l k j : List UInt8), k.length = l.length → j.length = l.length → (xor3 l k j).length = l.length
  | [], [], [], _, _ => rfl
  | a :: l, b :: k, c :: j, h1, h2 => by
    simp only [List.length_cons, Nat.add_right_cancel_iff] at h1 h2
    simp only [xor3, List.length_cons, xor3_length l k j h1 h2]
  | [], _ :: _, _, h, _ => by simp at h
  | _ :: _, [], _, h, _ => by simp at h
  | [], [], _ :: _, _, h => by simp at h
  | _ :: _, _ :: _, [], _, h => by simp at h

theorem xor3_snoc : ∀ (l k j : List UInt8) (a b c : UInt8), k.length = l.length → j.length = l.length → xor3 (l ++ [a]) (k ++ [b]) (j ++ [c]) = xor3 l k j ++ [a ^^^ b ^^^ c]
  | [], [], [], _, _, _, _, _ => rfl
  | x :: l, y :: k, z :: j, a, b, c, h1, h2 => by
    simp only [List.length_cons, Nat.add_right_cancel_iff] at h1 h2
    simp only [List.cons_append, xor3, xor3_snoc l k j a b c h1 h2]
  | [], _ :: _, _, _, _, _, h, _ => by simp at h
  | _ :: _, [], _, _, _, _, h, _ => by simp at h
  | [], [], _ :: _, _, _, _, _, h => by simp at h
  | _ :: _, _ :: _, [], _, _, _, _, h => by simp at h

theorem sp_cons (a : UInt8) (l : List UInt8) : sp (a :: l) = WoolMath.mul (256 ^^^ a.toNat) (WoolMath.pw 256 l.length) ^^^ (sp l ^^^ WoolMath.pw 256 l.length) := by
  have := sp_append [a] l
  rwa [sp_one] at this

theorem sp_linear : ∀ (l k j : List UInt8), k.length = l.length → j.length = l.length → sp (xor3 l k j) = sp l ^^^ sp k ^^^ sp j
  | [], [], [], _, _ => by decide
  | a :: l, b :: k, c :: j, h1, h2 => by
    simp only [List.length_cons, Nat.add_right_cancel_iff] at h1 h2
    have ih := sp_linear l k j h1 h2
    have hl := xor3_length l k j h1 h2
    rw [show xor3 (a :: l) (b :: k) (c :: j) = (a ^^^ b ^^^ c) :: xor3 l k j from rfl, sp_cons, sp_cons, sp_cons, sp_cons, hl, ih, h1, h2, UInt8.toNat_xor, UInt8.toNat_xor]
    simp only [WoolMath.xor_mul]
    generalize WoolMath.mul 256 (WoolMath.pw 256 l.length) = X
    generalize WoolMath.mul a.toNat (WoolMath.pw 256 l.length) = A
    generalize WoolMath.mul b.toNat (WoolMath.pw 256 l.length) = B
    generalize WoolMath.mul c.toNat (WoolMath.pw 256 l.length) = C
    generalize WoolMath.pw 256 l.length = T
    generalize sp l = U
    generalize sp k = V
    generalize sp j = W
    apply Nat.eq_of_testBit_eq
    intro i
    simp only [Nat.testBit_xor]
    generalize X.testBit i = x
    generalize A.testBit i = a
    generalize B.testBit i = b
    generalize C.testBit i = c
    generalize T.testBit i = t
    generalize U.testBit i = u
    generalize V.testBit i = v
    generalize W.testBit i = w
    revert x a b c t u v w
    decide
  | [], _ :: _, _, h, _ => by simp at h
  | _ :: _, [], _, h, _ => by simp at h
  | [], [], _ :: _, _, h => by simp at h
  | _ :: _, _ :: _, [], _, h => by simp at h

theorem fp_linear (M : Nat) (h : 2 ≤ M) (l k j : List UInt8) (h1 : k.length = l.length) (h2 : j.length = l.length) : fp M (xor3 l k j) = fp M l ^^^ fp M k ^^^ fp M j := by
  unfold fp
  rw [sp_linear l k j h1 h2, WoolMath.pmod_xor _ _ _ (by omega), WoolMath.pmod_xor _ _ _ (by omega)]

theorem fp_parts (A B : Nat) (hA : A ≠ 0) (hB : B ≠ 0) (l : List UInt8) : WoolMath.pmod (fp (WoolMath.mul A B) l) A = fp A l := by
  unfold fp
  have hm : WoolMath.mul A B ≠ 0 := WoolMath.mul_ne A B hA hB
  obtain ⟨q, hq⟩ := WoolMath.pmod_eq (sp l) (WoolMath.mul A B)
  have e : sp l ^^^ WoolMath.pmod (sp l) (WoolMath.mul A B) = WoolMath.mul q (WoolMath.mul A B) := by
    generalize WoolMath.pmod (sp l) (WoolMath.mul A B) = r at *
    rw [hq, Nat.xor_assoc, Nat.xor_self, Nat.xor_zero]
  symm
  rw [WoolMath.pmod_eq_iff _ _ _ hA, e]
  exact WoolMath.dvd_mul_left _ (WoolMath.dvd_mul_self A B)

/-! ytbeigaanlhaolaadoor# bursts -/

theorem mul_mod2 (a b : Nat) : WoolMath.mul a b % 2 = a % 2 * (b % 2) := by
  rw [WoolMath.mul_step]
  have hx : ∀ x y : Nat, (x ^^^ (2 * y)) % 2 = x % 2 := by
    intro x y
    have := Nat.xor_mod_two_pow (a := x) (b := 2 * y) (n := 1)
    rw [Nat.pow_one] at this
    rw [this, show 2 * y % 2 = 0 by omega, Nat.xor_zero]
  rw [hx]
  by_cases h : b % 2 = 1
  · rw [if_pos h, h]; omega
  · have : b % 2 = 0 := by omega
    rw [if_neg h, this]; omega

theorem odd_cancel (M : Nat) (hM : M % 2 = 1) (k : Nat) : ∀ a : Nat, WoolMath.dvd M (a * 2 ^ k) → WoolMath.dvd M a := by
  induction k with
  | zero => intro a h; simpa using h
  | succ k ih =>
    intro a h
    rw [Nat.pow_succ, ← Nat.mul_assoc] at h
    apply ih
    obtain ⟨q, hq⟩ := h
    have h2 := mul_mod2 q M
    rw [← hq, hM] at h2
    have hq2 : q % 2 = 0 := by omega
    have e : q = 2 * (q / 2) := by omega
    rw [e, WoolMath.even_mul] at hq
    exact ⟨q / 2, by omega⟩

theorem burst_differ (M : Nat) (hM : M % 2 = 1) (h16 : 65536 ≤ M) (X T k : Nat) (hT0 : T ≠ 0) (hT : T < 65536) : WoolMath.pmod (X ^^^ (T * 2 ^ k)) M ≠ WoolMath.pmod X M := by
  intro h
  rw [WoolMath.pmod_eq_iff _ _ _ (by omega)] at h
  have e : X ^^^ T * 2 ^ k ^^^ X = T * 2 ^ k := by
    rw [Nat.xor_comm X, Nat.xor_assoc, Nat.xor_self, Nat.xor_zero]
  rw [e] at h
  have hd := odd_cancel M hM k T h
  have hlog : 16 ≤ M.log2 := (Nat.le_log2 (by omega)).2 (by omega)
  have : T < 2 ^ M.log2 := Nat.lt_of_lt_of_le (show T < 2 ^ 16 by omega) (Nat.pow_le_pow_right (by omega) hlog)
  exact WoolMath.not_dvd_small hT0 this hd

end Go.Proofs.YtbeigaanlhaolaaDoor
