/-
  The texts Print2, PrintM, RefW, RefPrint, RefBag1, RefBag2, one behind the other; each says below what it holds and on what conditions.
-/
import Derived.Test.YtomfbffaekpnlaaPrint
import Derived.Test.YtomfbffaekpnlaaUp
import Derived.Test.YtomfbffaekpnlaaBag3
import Derived.Test.YtomfbffaekpnlaaBag4

/-
  What Join and Roll of package print return at wrong arguments, and what Roll returns at right ones. Conditions: the arguments are ints.
-/
namespace Go.Proofs.Ytomfbffaekpnlaa
open Go.RowKit
open Go.Proofs

/-- what Roll answers -/
def restV (M P X N : Nat) : Nat := P ^^^ WoolMath.pmod (WoolMath.pw 256 N) M ^^^ WoolMath.pmod (WoolMath.mul X (WoolMath.pmod (WoolMath.pw 256 (N - 1)) M)) M
def rollV (M P X Y N : Nat) : Nat := WoolMath.pmod (WoolMath.mul (restV M P X N) 256) M ^^^ WoolMath.pmod Y M ^^^ WoolMath.pmod (WoolMath.pw 256 N) M

theorem xor30 (a b : Nat) (ha : a < 1073741824) (hb : b < 1073741824) : a ^^^ b < 1073741824 := Nat.xor_lt_two_pow (n := 30) ha hb

end Go.Proofs.Ytomfbffaekpnlaa

/-
  Plain mathematics of fingerprints: of two texts behind one another, of a window that moves on, of three texts added, of a text with some bits turned. No condition but those that each says.
-/
namespace Go.Proofs.Ytomfbffaekpnlaa
open Go.RowKit
open Go.Proofs

theorem snoc_ind {α : Type} {P : List α → Prop} (h0 : P []) (hs : ∀ l a, P l → P (l ++ [a])) : ∀ l, P l := by
  intro l
  have : ∀ k : List α, P k.reverse := by
    intro k
    induction k with
    | nil => exact h0
    | cons a k ih => rw [List.reverse_cons]; exact hs _ _ ih
  have := this l.reverse
  rwa [List.reverse_reverse] at this

theorem sp_append (l k : List UInt8) : sp (l ++ k) = WoolMath.mul (sp l) (WoolMath.pw 256 k.length) ^^^ (sp k ^^^ WoolMath.pw 256 k.length) := by
  revert k
  refine snoc_ind ?_ ?_
  · rw [List.append_nil, sp_nil, List.length_nil, WoolMath.pw_zero, WoolMath.mul_one, Nat.xor_self, Nat.xor_zero]
  · intro k c ih
    rw [← List.append_assoc, sp_snoc, ih, sp_snoc, List.length_append, List.length_singleton, WoolMath.pw_succ, WoolMath.xor_mul, WoolMath.xor_mul, WoolMath.mul_assoc]
    generalize WoolMath.mul (sp l) (WoolMath.mul (WoolMath.pw 256 k.length) 256) = X
    generalize WoolMath.mul (WoolMath.pw 256 k.length) 256 = Y
    generalize WoolMath.mul (sp k) 256 = Z
    rw [Nat.xor_assoc, Nat.xor_assoc, Nat.xor_assoc, Nat.xor_comm Y]

theorem fp_join (M : Nat) (h : 2 ≤ M) (l k : List UInt8) : fp M (l ++ k) = joinV M (fp M l) (fp M k) k.length := by
  unfold joinV fp
  have hm : M ≠ 0 := by omega
  rw [sp_append, WoolMath.pmod_xor _ _ _ hm, WoolMath.pmod_xor _ _ _ hm, WoolMath.pmod_mul_right _ _ _ hm, WoolMath.pmod_mul_left _ _ _ hm, Nat.xor_assoc]

theorem sp_one (c : UInt8) : sp [c] = 256 ^^^ c.toNat := by
  show WoolMath.mul 1 256 ^^^ c.toNat = _
  rw [WoolMath.one_mul]

theorem fp_roll (M : Nat) (h : 2 ≤ M) (c d : UInt8) (l : List UInt8) : fp M (l ++ [d]) = rollV M (fp M (c :: l)) c.toNat d.toNat (l.length + 1) := by
  have hm : M ≠ 0 := by omega
  have e1 : sp (c :: l) = WoolMath.mul (256 ^^^ c.toNat) (WoolMath.pw 256 l.length) ^^^ (sp l ^^^ WoolMath.pw 256 l.length) := by
    have := sp_append [c] l
    rwa [sp_one] at this
  have e2 : restV M (fp M (c :: l)) c.toNat (l.length + 1) = WoolMath.pmod (sp l ^^^ WoolMath.pw 256 l.length) M := by
    unfold restV fp
    rw [Nat.add_sub_cancel, WoolMath.pmod_mul_right _ _ _ hm, e1, ← WoolMath.pmod_xor _ _ _ hm, ← WoolMath.pmod_xor _ _ _ hm, WoolMath.pw_succ, WoolMath.xor_mul, WoolMath.mul_comm 256]
    congr 1
    generalize WoolMath.mul (WoolMath.pw 256 l.length) 256 = X
    generalize WoolMath.mul c.toNat (WoolMath.pw 256 l.length) = Y
    generalize sp l ^^^ WoolMath.pw 256 l.length = Z
    apply Nat.eq_of_testBit_eq
    intro i
    simp only [Nat.testBit_xor]
    cases X.testBit i <;> cases Y.testBit i <;> cases Z.testBit i <;> rfl
  unfold rollV
  rw [e2, WoolMath.pmod_mul_left _ _ _ hm, ← WoolMath.pmod_xor _ _ _ hm, ← WoolMath.pmod_xor _ _ _ hm, WoolMath.pw_succ, WoolMath.xor_mul]
  unfold fp
  rw [sp_snoc]
  congr 1
  generalize WoolMath.mul (WoolMath.pw 256 l.length) 256 = X
  generalize WoolMath.mul (sp l) 256 = Y
  generalize d.toNat = Z
  apply Nat.eq_of_testBit_eq
  intro i
  simp only [Nat.testBit_xor]
  cases X.testBit i <;> cases Y.testBit i <;> cases Z.testBit i <;> rfl

/-- three texts, added -/
def xor3 : List UInt8 → List UInt8 → List UInt8 → List UInt8
  | a :: l, b :: k, c :: j => (a ^^^ b ^^^ c) :: xor3 l k j
  | _, _, _ => []

theorem xor3_length : ∀ (l k j : List UInt8), k.length = l.length → j.length = l.length → (xor3 l k j).length = l.length
  | [], [], [], _, _ => rfl
  | a :: l, b :: k, c :: j, h1, h2 => by
    simp only [List.length_cons, Nat.add_right_cancel_iff] at h1 h2
    simp only [xor3, List.length_cons, xor3_length l k j h1 h2]
  | [], _ :: _, _, h, _ => by simp at h
  | _ :: _, [], _, h, _ => by simp at h
  | [], [], _ :: _, _, h => by simp at h
  | _ :: _, _ :: _, [], _, h => by simp at h

theorem xor3_snoc : ∀ (l k j : List UInt8) (a b c : UInt8), k.length = l.length → j.length = l.length → xor3 (l ++ [a]) (k ++ [b]) (j ++ [c]) = xor3 l k j ++ [a ^^^ b ^^^ c]
  | [], [], [], _, _, _, _, _ => rfl
  | x :: l, y :: k, z :: j, a, b, c, h1, h2 => by
    simp only [List.length_cons, Nat.add_right_cancel_iff] at h1 h2
    simp only [List.cons_append, xor3, xor3_snoc l k j a b c h1 h2]
  | [], _ :: _, _, _, _, _, h, _ => by simp at h
  | _ :: _, [], _, _, _, _, h, _ => by simp at h
  | [], [], _ :: _, _, _, _, _, h => by simp at h
  | _ :: _, _ :: _, [], _, _, _, _, h => by simp at h

theorem sp_cons (a : UInt8) (l : List UInt8) : sp (a :: l) = WoolMath.mul (256 ^^^ a.toNat) (WoolMath.pw 256 l.length) ^^^ (sp l ^^^ WoolMath.pw 256 l.length) := by
  have := sp_append [a] l
  rwa [sp_one] at this

theorem sp_linear : ∀ (l k j : List UInt8), k.length = l.length → j.length = l.length → sp (xor3 l k j) = sp l ^^^ sp k ^^^ sp j
  | [], [], [], _, _ => by decide
  | a :: l, b :: k, c :: j, h1, h2 => by
    simp only [List.length_cons, Nat.add_right_cancel_iff] at h1 h2
    have ih := sp_linear l k j h1 h2
    have hl := xor3_length l k j h1 h2
    rw [show xor3 (a :: l) (b :: k) (c :: j) = (a ^^^ b ^^^ c) :: xor3 l k j from rfl, sp_cons, sp_cons, sp_cons, sp_cons, hl, ih, h1, h2, UInt8.toNat_xor, UInt8.toNat_xor]
    simp only [WoolMath.xor_mul]
    generalize WoolMath.mul 256 (WoolMath.pw 256 l.length) = X
    generalize WoolMath.mul a.toNat (WoolMath.pw 256 l.length) = A
    generalize WoolMath.mul b.toNat (WoolMath.pw 256 l.length) = B
    generalize WoolMath.mul c.toNat (WoolMath.pw 256 l.length) = C
    generalize WoolMath.pw 256 l.length = T
    generalize sp l = U
    generalize sp k = V
    generalize sp j = W
    apply Nat.eq_of_testBit_eq
    intro i
    simp only [Nat.testBit_xor]
    generalize X.testBit i = x
    generalize A.testBit i = a
    generalize B.testBit i = b
    generalize C.testBit i = c
    generalize T.testBit i = t
    generalize U.testBit i = u
    generalize V.testBit i = v
    generalize W.testBit i = w
    revert x a b c t u v w
    decide
  | [], _ :: _, _, h, _ => by simp at h
  | _ :: _, [], _, h, _ => by simp at h
  | [], [], _ :: _, _, h => by simp at h
  | _ :: _, _ :: _, [], _, h => by simp at h

theorem fp_linear (M : Nat) (h : 2 ≤ M) (l k j : List UInt8) (h1 : k.length = l.length) (h2 : j.length = l.length) : fp M (xor3 l k j) = fp M l ^^^ fp M k ^^^ fp M j := by
  unfold fp
  rw [sp_linear l k j h1 h2, WoolMath.pmod_xor _ _ _ (by omega), WoolMath.pmod_xor _ _ _ (by omega)]

theorem fp_parts (A B : Nat) (hA : A ≠ 0) (hB : B ≠ 0) (l : List UInt8) : WoolMath.pmod (fp (WoolMath.mul A B) l) A = fp A l := by
  unfold fp
  have hm : WoolMath.mul A B ≠ 0 := WoolMath.mul_ne A B hA hB
  obtain ⟨q, hq⟩ := WoolMath.pmod_eq (sp l) (WoolMath.mul A B)
  have e : sp l ^^^ WoolMath.pmod (sp l) (WoolMath.mul A B) = WoolMath.mul q (WoolMath.mul A B) := by
    generalize WoolMath.pmod (sp l) (WoolMath.mul A B) = r at *
    rw [hq, Nat.xor_assoc, Nat.xor_self, Nat.xor_zero]
  symm
  rw [WoolMath.pmod_eq_iff _ _ _ hA, e]
  exact WoolMath.dvd_mul_left _ (WoolMath.dvd_mul_self A B)

/-! ytomfbffaekpnlaa# bursts -/

theorem mul_mod2 (a b : Nat) : WoolMath.mul a b % 2 = a % 2 * (b % 2) := by
  rw [WoolMath.mul_step]
  have hx : ∀ x y : Nat, (x ^^^ (2 * y)) % 2 = x % 2 := by
    intro x y
    have := Nat.xor_mod_two_pow (a := x) (b := 2 * y) (n := 1)
    rw [Nat.pow_one] at this
    rw [this, show 2 * y % 2 = 0 by omega, Nat.xor_zero]
  rw [hx]
  by_cases h : b % 2 = 1
  · rw [if_pos h, h]; omega
  · have : b % 2 = 0 := by omega
    rw [if_neg h, this]; omega

theorem odd_cancel (M : Nat) (hM : M % 2 = 1) (k : Nat) : ∀ a : Nat, WoolMath.dvd M (a * 2 ^ k) → WoolMath.dvd M a := by
  induction k with
  | zero => intro a h; simpa using h
  | succ k ih =>
    intro a h
    rw [Nat.pow_succ, ← Nat.mul_assoc] at h
    apply ih
    obtain ⟨q, hq⟩ := h
    have h2 := mul_mod2 q M
    rw [← hq, hM] at h2
    have hq2 : q % 2 = 0 := by omega
    have e : q = 2 * (q / 2) := by omega
    rw [e, WoolMath.even_mul] at hq
    exact ⟨q / 2, by omega⟩

theorem burst_differ (M : Nat) (hM : M % 2 = 1) (h16 : 65536 ≤ M) (X T k : Nat) (hT0 : T ≠ 0) (hT : T < 65536) : WoolMath.pmod (X ^^^ (T * 2 ^ k)) M ≠ WoolMath.pmod X M := by
  intro h
  rw [WoolMath.pmod_eq_iff _ _ _ (by omega)] at h
  have e : X ^^^ T * 2 ^ k ^^^ X = T * 2 ^ k := by
    rw [Nat.xor_comm X, Nat.xor_assoc, Nat.xor_self, Nat.xor_zero]
  rw [e] at h
  have hd := odd_cancel M hM k T h
  have hlog : 16 ≤ M.log2 := (Nat.le_log2 (by omega)).2 (by omega)
  have : T < 2 ^ M.log2 := Nat.lt_of_lt_of_le (show T < 2 ^ 16 by omega) (Nat.pow_le_pow_right (by omega) hlog)
  exact WoolMath.not_dvd_small hT0 this hd

end Go.Proofs.Ytomfbffaekpnlaa

/-
  What the reference's within returns, for every three ints. No condition.
-/
namespace Go.Proofs.Ytomfbffaekpnlaa
open Go.RowKit
open Go.Proofs

theorem refWithin_yes (x a b : Int) (w : World) (h1 : a ≤ x) (h2 : x ≤ b) :
    Calls Try.prog 32 #[.int .i64 x, .int .i64 a, .int .i64 b] w fun e w' => e = .returned (.bool true) ∧ w = w' := by
  have d1 : decide (a ≤ x) = true := by rw [decide_eq_true_iff]; omega
  have d2 : decide (x ≤ b) = true := by rw [decide_eq_true_iff]; omega
  go_enter Try.func32, Try.ntmps32
  go_wp2
  go_ret
  exact ⟨rfl, rfl⟩

theorem refWithin_no (x a b : Int) (w : World) (h : x < a ∨ b < x) :
    Calls Try.prog 32 #[.int .i64 x, .int .i64 a, .int .i64 b] w fun e w' => e = .returned (.bool false) ∧ w = w' := by
  by_cases h1 : a ≤ x
  · have d1 : decide (a ≤ x) = true := by rw [decide_eq_true_iff]; omega
    have d2 : decide (x ≤ b) = false := by rw [decide_eq_false_iff_not]; omega
    clear h
    go_enter Try.func32, Try.ntmps32
    go_wp2
    go_ret
    exact ⟨rfl, rfl⟩
  · have d1 : decide (a ≤ x) = false := by rw [decide_eq_false_iff_not]; omega
    clear h
    go_enter Try.func32, Try.ntmps32
    go_wp2
    go_ret
    exact ⟨rfl, rfl⟩

end Go.Proofs.Ytomfbffaekpnlaa

/-
  What the reference's Modulus, Rest and Print return: Print, bit by bit, is the remainder of the text's polynomial. Conditions: a modulus from 2 to 2147483647, a text of at most 1000 bytes.
-/
namespace Go.Proofs.Ytomfbffaekpnlaa
open Go.RowKit
open Go.Proofs

/-- a cell of the call's own -/
def Holds (w : World) (b : Nat) (n : Nat) : Prop := w.cell? ⟨b, 0, none⟩ = some (.int .i64 (n : Int)) ∧ w.frozen? ⟨b, 0, none⟩ = false

/-- the block b alone has turned -/
def Only (b : Nat) (w w' : World) : Prop := Below b w w' ∧ w'.heap.size = w.heap.size ∧ ∀ k, k ≠ b → w'.heap[k]? = w.heap[k]?

theorem Only.refl (b : Nat) (w : World) : Only b w w := ⟨Below.refl _ _, rfl, fun _ _ => rfl⟩

theorem Only.set {b : Nat} {w w' : World} (h : Only b w w') (v : Value) : Only b w (w'.setCell ⟨b, 0, none⟩ v) :=
  ⟨Below.setCell h.1 (Nat.le_refl _) v, by rw [← h.2.1]; simp [World.setCell], fun k hk => (Below.heap_setCell _ _ _ _ hk).trans (h.2.2 k hk)⟩

theorem Only.holds {b c n : Nat} {w w' : World} (h : Only b w w') (hc : Holds w c n) (hne : c ≠ b) : Holds w' c n :=
  ⟨(World.cell?_of_block (h.2.2 c hne)).trans hc.1, (World.frozen?_of_block (h.2.2 c hne)).trans hc.2⟩

theorem Holds.set {b n : Nat} {w : World} (h : Holds w b n) (k : Nat) : Holds (w.setCell ⟨b, 0, none⟩ (.int .i64 (k : Int))) b k :=
  ⟨World.cell?_setCell_same _ _ _ h.1, by rw [World.frozen?_setCell]; exact h.2⟩

theorem top_and (D X : Nat) (h : X < 2 ^ (D + 1)) : (0 < X &&& 2 ^ D) ↔ 2 ^ D ≤ X := by
  constructor
  · intro h1
    apply Nat.le_of_not_lt
    intro h2
    have : X &&& 2 ^ D = 0 := by
      apply Nat.eq_of_testBit_eq
      intro i
      rw [Nat.testBit_and, Nat.zero_testBit, Nat.testBit_two_pow]
      by_cases e : D = i
      · subst e; rw [Nat.testBit_lt_two_pow h2]; rfl
      · simp [e]
    omega
  · intro h1
    apply Nat.pos_of_ne_zero
    intro h2
    have h3 : (X &&& 2 ^ D).testBit D = true := by
      rw [Nat.testBit_and, WoolMath.top_bit D X h1 h, Nat.testBit_two_pow_self]; rfl
    rw [h2, Nat.zero_testBit] at h3
    cases h3

/-- one bit more -/
def stp (M P b : Nat) : Nat := if 2 ^ M.log2 ≤ 2 * P + b then (2 * P + b) ^^^ M else 2 * P + b

theorem stp_eq (M P b : Nat) (hM : 2 ≤ M) (hP : P < 2 ^ M.log2) (hb : b ≤ 1) : stp M P b = WoolMath.pmod (2 * P + b) M := by
  have hM0 : M ≠ 0 := by omega
  have hpow : 2 ^ (M.log2 + 1) = 2 * 2 ^ M.log2 := by rw [Nat.pow_succ]; omega
  have hlt : 2 * P + b < 2 ^ (M.log2 + 1) := by omega
  unfold stp
  split
  · rename_i h
    symm
    obtain ⟨t1, t2⟩ := WoolMath.top_of M hM0
    refine WoolMath.pmod_of _ _ 1 _ hM0 ?_ ?_
    · rw [WoolMath.one_mul, Nat.xor_comm (2 * P + b), ← Nat.xor_assoc, Nat.xor_self, Nat.zero_xor]
    · generalize 2 * P + b = X at *
      apply Nat.lt_pow_two_of_testBit
      intro i hi
      rw [Nat.testBit_xor]
      by_cases e : i = M.log2
      · subst e; rw [WoolMath.top_bit _ X h hlt, WoolMath.top_bit _ M t1 t2]; rfl
      · rw [Nat.testBit_lt_two_pow (Nat.lt_of_lt_of_le hlt (Nat.pow_le_pow_right (by omega) (by omega))), Nat.testBit_lt_two_pow (Nat.lt_of_lt_of_le t2 (Nat.pow_le_pow_right (by omega) (by omega)))]
        rfl
  · rename_i h
    exact (WoolMath.pmod_small _ _ hM0 (by omega)).symm

theorem two_add (Y b : Nat) (hb : b ≤ 1) : 2 * Y + b = WoolMath.mul Y 2 ^^^ b := by
  have e : WoolMath.mul Y 2 = 2 * Y := by have := WoolMath.mul_pow Y 1; rw [Nat.pow_one] at this; omega
  rw [e]
  rcases Nat.lt_or_ge b 1 with h | h
  · have : b = 0 := by omega
    subst this; rw [Nat.xor_zero]; rfl
  · have : b = 1 := by omega
    subst this; exact (WoolMath.two_mul_xor_one Y).symm

theorem stp_mod (M Y b : Nat) (hM : 2 ≤ M) (hb : b ≤ 1) : stp M (WoolMath.pmod Y M) b = WoolMath.pmod (2 * Y + b) M := by
  rw [stp_eq M _ b hM (WoolMath.pmod_lt _ _ (by omega)) hb, two_add _ b hb, two_add Y b hb, WoolMath.pmod_xor _ _ _ (by omega), WoolMath.pmod_xor _ _ _ (by omega), WoolMath.pmod_mul_left _ _ _ (by omega)]

/-- a text's polynomial with the first j bits of a byte more -/
def part8 (X c j : Nat) : Nat := X * 2 ^ j + c / 2 ^ (8 - j)

theorem part8_zero (X c : Nat) (hc : c < 256) : part8 X c 0 = X := by
  unfold part8; rw [Nat.div_eq_of_lt (by omega)]; omega

theorem part8_next (X c j : Nat) (hj : j < 8) : part8 X c (j + 1) = 2 * part8 X c j + c / 2 ^ (7 - j) % 2 := by
  unfold part8
  have e1 : 8 - (j + 1) = 7 - j := by omega
  have e2 : 8 - j = 7 - j + 1 := by omega
  rw [e1, e2, Nat.pow_succ, Nat.pow_succ, ← Nat.div_div_eq_div_mul, ← Nat.mul_assoc]
  generalize c / 2 ^ (7 - j) = q
  omega

theorem part8_all (X : Nat) (c : UInt8) : part8 X c.toNat 8 = WoolMath.mul X 256 ^^^ c.toNat := by
  have hc : c.toNat < 256 := UInt8.toNat_lt _
  unfold part8
  rw [Nat.sub_self, Nat.pow_zero, Nat.div_one, show (256 : Nat) = 2 ^ 8 from rfl, WoolMath.mul_pow]
  generalize c.toNat = n at *
  have d := Nat.xor_div_two_pow (a := X * 2 ^ 8) (b := n) (n := 8)
  have m := Nat.xor_mod_two_pow (a := X * 2 ^ 8) (b := n) (n := 8)
  rw [show X * 2 ^ 8 / 2 ^ 8 = X from by omega, show n / 2 ^ 8 = 0 from by omega, Nat.xor_zero] at d
  rw [show X * 2 ^ 8 % 2 ^ 8 = 0 from by omega, show n % 2 ^ 8 = n from by omega, Nat.zero_xor] at m
  omega

set_option maxRecDepth 100000 in
theorem addP_any' (b P M bp bt bm : Nat) (w : World) (hb : b ≤ 1) (hM : 2 ≤ M) (hM1 : M ≤ 2147483647) (hP : P < 2 ^ M.log2) (h1 : bp ≠ bt) (h2 : bp ≠ bm) (cp : Holds w bp P) (ct : Holds w bt (2 ^ M.log2)) (cm : Holds w bm M) :
    Calls Try.prog 41 #[.int .i64 (b : Int), .pointer (some ⟨bp, 0, none⟩), .pointer (some ⟨bt, 0, none⟩), .pointer (some ⟨bm, 0, none⟩)] w fun e w' => e = .returned (.tuple #[]) ∧ Holds w' bp (stp M P b) ∧ Only bp w w' := by
  have hpl := pow_log2_le M (by omega) hM1
  have hX : 2 * P + b < 2 ^ (M.log2 + 1) := by rw [Nat.pow_succ]; omega
  have hta := top_and M.log2 (2 * P + b) hX
  have hand := i64_and_nat (2 * P + b) (2 ^ M.log2) (by omega) (by omega)
  have hxor := i64_xor_nat (2 * P + b) M (by omega) (by omega)
  have hstp : stp M P b = if 2 ^ M.log2 ≤ 2 * P + b then (2 * P + b) ^^^ M else 2 * P + b := rfl
  generalize 2 ^ M.log2 = T at *
  have HA := Lib.hid hand
  have HX := Lib.hid hxor
  have HS := Lib.hid hstp
  have HTA := Lib.hid hta
  obtain ⟨cp1, cp2⟩ := cp
  obtain ⟨ct1, ct2⟩ := ct
  obtain ⟨cm1, cm2⟩ := cm
  clear hand hxor hstp hta hX
  rw [show ((2 * P + b : Nat) : Int) = 2 * (P : Int) + (b : Int) by omega] at HA HX
  by_cases hT : T ≤ 2 * P + b
  · have hd : decide (0 < bits .and .i64 (2 * (P : Int) + (b : Int)) (T : Int)) = true := by
      rw [decide_eq_true_iff, HA.out]
      have := HTA.out.2 hT
      omega
    have hs := HS.out
    rw [if_pos hT] at hs
    rw [hs]
    have HXX := Lib.hid HX.out
    clear hs
    generalize (2 * P + b) ^^^ M = Z at *
    go_enter Try.func41, Try.ntmps41
    go_wp2_with fail
    go_end0
    refine ⟨rfl, ?_⟩
    rw [HXX.out, show 2 * (P : Int) + (b : Int) = ((2 * P + b : Nat) : Int) by omega]
    exact ⟨((Holds.set ⟨cp1, cp2⟩ _).set Z), ((Only.refl _ _).set _).set _⟩
  · have hd : decide (0 < bits .and .i64 (2 * (P : Int) + (b : Int)) (T : Int)) = false := by
      rw [decide_eq_false_iff_not, HA.out]
      intro h
      exact hT (HTA.out.1 (by omega))
    have hs := HS.out
    rw [if_neg hT] at hs
    rw [hs]
    clear hs
    go_enter Try.func41, Try.ntmps41
    go_wp2_with fail
    go_end0
    refine ⟨rfl, ?_⟩
    rw [show 2 * (P : Int) + (b : Int) = ((2 * P + b : Nat) : Int) by omega]
    exact ⟨Holds.set ⟨cp1, cp2⟩ _, (Only.refl _ _).set _⟩

/-! ytomfbffaekpnlaa# Print -/

theorem Holds.up {w w' : World} {b n : Nat} (h : Holds w b n) (hu : Up w w') (hb : b < w.heap.size) : Holds w' b n :=
  ⟨(Below.cell hu (p := ⟨b, 0, none⟩) hb).trans h.1, (Below.frozen hu (p := ⟨b, 0, none⟩) hb).trans h.2⟩

theorem Holds.lt {w : World} {b n : Nat} (h : Holds w b n) : b < w.heap.size := World.block_lt_of_cell? w _ h.1

theorem Holds.new (w : World) (n : Nat) (t : TypeId) : Holds (w.alloc (.cells #[.int .i64 (n : Int)] t)) w.heap.size n := by
  constructor
  · go_simp
  · go_simp

theorem Only.up {w wr w' : World} {b : Nat} (h : Only b wr w') (hu : Up w wr) (hb : w.heap.size ≤ b) : Up w w' := Below.trans hu (Below.mono h.1 hb)

def TopRel (M : Nat) (w : World) (wr : World) : Prop := ∃ j : Nat, 2 ^ j ≤ M ∧ Holds wr w.heap.size M ∧ Holds wr (w.heap.size + 1) (2 ^ j) ∧ Up w wr

def cellOf (b : Nat) (w : World) : Nat := match w.cell? ⟨b, 0, none⟩ with | some v => (intOf v).toNat | none => 0

theorem Holds.cellOf {w : World} {b n : Nat} (h : Holds w b n) : cellOf b w = n := by
  unfold Go.Proofs.Ytomfbffaekpnlaa.cellOf
  rw [h.1]
  simp [intOf]

/-- the three cells -/
def Three (M b B P : Nat) (w wr : World) : Prop := Holds wr b M ∧ Holds wr (b + 1) (2 ^ M.log2) ∧ Holds wr B P ∧ Up w wr

theorem Three.step {M b B P Q : Nat} {w wr w' : World} (h : Three M b B P w wr) (ho : Only B wr w') (hq : Holds w' B Q) (h1 : b + 1 < B) (h2 : w.heap.size ≤ B) : Three M b B Q w w' :=
  ⟨ho.holds h.1 (by omega), ho.holds h.2.1 (by omega), hq, ho.up h.2.2.2 h2⟩

def POutRel (M B : Nat) (s : ByteArray) (w : World) (i : Value) (wr : World) : Prop :=
  ∃ k : Nat, k ≤ s.size ∧ i = .int .i64 k ∧ Three M w.heap.size B (fp M (s.data.toList.take k)) w wr

def PInRel (M B X c : Nat) (w : World) (b : Value) (wr : World) : Prop :=
  ∃ j : Nat, j ≤ 8 ∧ b = .int .i64 ((128 / 2 ^ j : Nat) : Int) ∧ Three M w.heap.size B (WoolMath.pmod (part8 X c j) M) w wr

theorem half_pow (j : Nat) (h : j < 8) : 128 / 2 ^ j = 2 ^ (7 - j) := by
  have : ∀ j, j < 8 → 128 / 2 ^ j = 2 ^ (7 - j) := by decide
  exact this j h

theorem half_next (j : Nat) : 128 / 2 ^ (j + 1) = 128 / 2 ^ j / 2 := by rw [Nat.pow_succ, Nat.div_div_eq_div_mul]

theorem bit_cast (c V : Nat) (hc : c < 256) : (wrap64 ((c : Int) / (V : Int))).tmod 2 = ((c / V % 2 : Nat) : Int) := by
  have h : c / V ≤ c := Nat.div_le_self _ _
  rw [show (c : Int) / (V : Int) = ((c / V : Nat) : Int) from by simp]
  generalize c / V = q at *
  rw [show wrap64 (q : Int) = (q : Int) from by unfold wrap64; omega, Int.tmod_eq_emod_of_nonneg (by omega)]
  omega

set_option maxRecDepth 100000 in
set_option maxHeartbeats 400000 in
theorem refPrint_any (M : Nat) (s : ByteArray) (w : World) (h0 : 2 ≤ M) (h1 : M ≤ 2147483647) (hs : s.size ≤ 1000) :
    Calls Try.prog 31 #[.int .i64 (M : Int), .string s] w fun e w' => e = .returned (.int .i64 (fp M s.data.toList : Nat)) ∧ Up w w' := by
  have hmf : ∀ (fn : Fn) (first cap : Array Value) (w : World), (Instr.makeFunc fn first cap).run Try.prog w = .ok (.func fn first cap) w := fun _ _ _ _ => rfl
  generalize hF : fp M s.data.toList = F
  have HF := Lib.hid hF
  clear hF
  go_enter Try.func31, Try.ntmps31
  go_wp2_with fail
  go_loopw [10] (fun _ wr => TopRel M w wr) (fun _ wr => M - cellOf (w.heap.size + 1) wr)
  case atStart =>
    refine ⟨0, by rw [Nat.pow_zero]; omega, ?_, ?_, (Up.alloc _ _).trans (Up.alloc _ _)⟩
    · exact (Holds.new w M 3).up (Up.alloc _ _) (by simp)
    · have := Holds.new (w.alloc (.cells #[.int .i64 (M : Int)] 3)) 1 3
      simpa using this
  case round =>
    obtain ⟨j, hj, hm, ht, hu⟩ := hrel
    have hme := ht.cellOf
    have HME := Lib.hid hme
    have HM := Lib.hid hm
    have HT := Lib.hid ht
    have HU := Lib.hid hu
    have hpos : 0 < 2 ^ j := Nat.pow_pos (by omega)
    have hnx : 2 ^ (j + 1) = 2 * 2 ^ j := by rw [Nat.pow_succ]; omega
    have HNX := Lib.hid hnx
    have hlog : M < 2 * 2 ^ j → 2 ^ j = 2 ^ M.log2 := by
      intro h
      rw [WoolMath.log2_of j M hj (by rw [hnx]; exact h)]
    have HLOG := Lib.hid hlog
    obtain ⟨hm1, hm2⟩ := hm
    obtain ⟨ht1, ht2⟩ := ht
    clear hme hu hnx hlog
    generalize hV : 2 ^ j = V at *
    have HV := Lib.hid hV
    clear hV
    by_cases hle : V * 2 ≤ M
    · go_wp2_with fail
      go_roundw
      case rel =>
        refine ⟨j + 1, by rw [HNX.out]; omega, ?_, ?_, Below.setCell HU.out (by simp) _⟩
        · exact ((Only.refl (w.heap.size + 1) wr).set _).holds HM.out (by omega)
        · rw [HNX.out, show (V : Int) * 2 = ((2 * V : Nat) : Int) by omega]
          exact HT.out.set _
      case measure =>
        rw [HME.out, show (V : Int) * 2 = ((2 * V : Nat) : Int) by omega, (HT.out.set (2 * V)).cellOf]
        omega
    · have hV2 := HLOG.out (by omega)
      have HT2 := HT.out
      rw [hV2] at HT2
      have HT3 := Lib.hid HT2
      have hlt := HT2.lt
      have HM3 := Lib.hid (HM.out.up (Up.alloc wr (.cells #[.int .i64 1] 3)) (by omega))
      have HT4 := Lib.hid (HT3.out.up (Up.alloc wr (.cells #[.int .i64 1] 3)) hlt)
      have HP4 := Lib.hid (Holds.new wr 1 3)
      have HU4 := Lib.hid (HU.out.trans (Up.alloc wr (.cells #[.int .i64 1] 3)))
      have hsz := HU.out.size
      clear HT2 hV2
      go_wp2_with fail
      clear hm1 hm2 ht1 ht2 hle hj
      generalize hB : wr.heap.size = B at *
      have HB := Lib.hid hB
      clear hB
      go_loopw [19] (fun i wx => POutRel M B s w i wx) (fun i _ => s.size - (intOf i).toNat)
      case atStart => exact ⟨0, by omega, rfl, HM3.out, HT4.out, by rw [List.take_zero, fp_nil M h0]; exact HP4.out, HU4.out⟩
      case round =>
        clear HM3 HT4 HP4 HU4
        obtain ⟨k, hk, rfl, h3⟩ := hrel
        have H3 := Lib.hid h3
        clear h3
        by_cases hks : k < s.size
        · have hc : s[k].toNat < 256 := UInt8.toNat_lt _
          have hstart : WoolMath.pmod (part8 (sp (s.data.toList.take k)) s[k].toNat 0) M = fp M (s.data.toList.take k) := by rw [part8_zero _ _ hc]; rfl
          have hend : WoolMath.pmod (part8 (sp (s.data.toList.take k)) s[k].toNat 8) M = fp M (s.data.toList.take (k + 1)) := by rw [part8_all, ← sp_snoc, ← take_snoc s k hks]; rfl
          have HST := Lib.hid hstart
          have HEND := Lib.hid hend
          clear hstart hend
          generalize sp (s.data.toList.take k) = X at *
          go_wp2_with fail
          go_loopw [9] (fun b wy => PInRel M B X s[k].toNat w b wy) (fun b _ => (intOf b).toNat)
          case atStart => exact ⟨0, by omega, rfl, by rw [HST.out]; exact H3.out⟩
          case round =>
            obtain ⟨j, hj, rfl, hi3⟩ := hrel
            have HI3 := Lib.hid hi3
            clear hi3
            by_cases hj8 : j < 8
            · have hhp := half_pow j hj8
              have hnx := half_next j
              have hlt8 := part8_next X s[k].toNat j hj8
              rw [← hhp] at hlt8
              have hst := stp_mod M (part8 X s[k].toNat j) (s[k].toNat / (128 / 2 ^ j) % 2) h0 (by omega)
              rw [← hlt8] at hst
              have hpl := WoolMath.pmod_lt (part8 X s[k].toNat j) M (by omega)
              have hVp : 0 < 128 / 2 ^ j := by rw [hhp]; exact Nat.pow_pos (by omega)
              have hVm : 128 / 2 ^ j ≤ 128 := Nat.div_le_self _ _
              generalize 128 / 2 ^ j = V' at *
              have HNX' := Lib.hid hnx
              have HSTP := Lib.hid hst
              have HPL := Lib.hid hpl
              clear hhp hnx hlt8 hst hpl
              have hdv : s[k].toNat / V' ≤ s[k].toNat := Nat.div_le_self _ _
              go_wp2_with fail
              rw [bit_cast s[k].toNat V' hc]
              refine (addP_any' _ _ M B (w.heap.size + 1) w.heap.size _ (by omega) h0 h1 HPL.out (by omega) (by omega) HI3.out.2.2.1 HI3.out.2.1 HI3.out.1).mono ?_
              rintro e w5 ⟨rfl, ho, hon⟩
              rw [HSTP.out] at ho
              have HN := Lib.hid (HI3.out.step hon ho hlt hsz)
              clear ho hon
              go_wp2_with fail
              go_roundw
              case rel => exact ⟨j + 1, by omega, by rw [HNX'.out]; go_num, HN.out⟩
              case measure => simp only [intOf]; omega
            · obtain rfl : j = 8 := by omega
              have h3' := HI3.out
              rw [HEND.out] at h3'
              have H3' := Lib.hid h3'
              clear h3'
              rw [show 128 / 2 ^ 8 = 0 from rfl]
              go_wp2_with fail
              go_roundw
              case rel => exact ⟨k + 1, by omega, by go_num, H3'.out⟩
              case measure => simp only [intOf]; omega
        · obtain rfl : k = s.size := by omega
          have h3 := H3.out
          rw [show s.data.toList.take s.size = s.data.toList from List.take_of_length_le (by simp), HF.out] at h3
          have HU5 := Lib.hid h3.2.2.2
          obtain ⟨_, _, ⟨hp1, hp2⟩, _⟩ := h3
          go_wp2_with fail
          go_ret
          exact ⟨rfl, HU5.out⟩

end Go.Proofs.Ytomfbffaekpnlaa

/-
  What the reference's Item and Bag return: where an identifier's item stands, and what is wrong with a bag. Condition: the row can be read.
-/
namespace Go.Proofs.Ytomfbffaekpnlaa
open Go.RowKit
open Go.Proofs
open WoolBag

def ItmRel (id : Bool × Int × Int) (l : List Itm) (w : World) (i : Value) (wr : World) : Prop :=
  ∃ k : Nat, k ≤ l.length ∧ i = .int .i64 k ∧ Up w wr ∧ BoxI wr w.heap.size 24 (.bool id.1) (.int .i64 id.2.1) (.int .i64 id.2.2) ∧ ∀ j (h : j < l.length), j < k → idB id l[j] = false

set_option maxRecDepth 100000 in
set_option maxHeartbeats 1000000 in
theorem refItem_any (v : Value) (l : List Itm) (ib : Bool) (is iN : Int) (w : World) (h : Items w v l) :
    Calls Try.prog 33 #[v, .agg #[.bool ib, .int .i64 is, .int .i64 iN]] w fun e w' => e = .returned (.int .i64 (ixI (idB (ib, is, iN)) l)) ∧ Up w w' := by
  obtain ⟨o, c, rfl, h2, h3, h4⟩ := h
  unfold maxLen at h3
  have H4 := Lib.hid h4
  obtain ⟨R, hR⟩ : ∃ R, ixI (idB (ib, is, iN)) l = R := ⟨_, rfl⟩
  rw [hR]
  unfold ixI at hR
  have HR := Lib.hid hR
  have HST : Hid (ItmRel (ib, is, iN) l w (.int .i64 0) (w.alloc (.cells #[.bool ib, .int .i64 is, .int .i64 iN] 24))) := ⟨0, Nat.zero_le _, rfl, Up.alloc _ _, BoxI.new w _ _ _ _, fun j _ hj => by omega⟩
  clear h4 hR
  go_enter Try.func33, Try.ntmps33
  go_wp2_with fail
  go_loopw [5, 9] (fun _ i wr => ItmRel (ib, is, iN) l w i wr) (fun _ i _ => l.length - (intOf i).toNat)
  case atStart => exact HST.out
  case round =>
    obtain ⟨k, hk, rfl, hu, hbx, hno⟩ := hrel
    have HN := Lib.hid hno
    clear hno
    by_cases hlt : k < l.length
    · rcases H4.out with h5 | ⟨b, off, rfl, h5⟩
      · rw [h5] at hlt; simp at hlt
      · obtain ⟨a1, a2, a3, a4⟩ := h5 k hlt
        rw [← hu.cell (World.block_lt_of_cell? w _ a1)] at a1
        rw [← hu.cell (World.block_lt_of_cell? w _ a2)] at a2
        rw [← hu.cell (World.block_lt_of_cell? w _ a3)] at a3
        rw [← hu.cell (World.block_lt_of_cell? w _ a4)] at a4
        obtain ⟨P, hP⟩ : ∃ P, idB (ib, is, iN) l[k] = P := ⟨_, rfl⟩
        have HPP := Lib.hid hP
        have hq : idB (ib, is, iN) l[k] = (ib && (l[k].s == is) && (l[k].n == iN)) := rfl
        rw [hq] at hP
        obtain ⟨x0, x1, x2⟩ := hbx.cells
        have hltb := hbx.lt
        have hneb : w.heap.size ≠ wr.heap.size := by omega
        generalize l[k].s = xs at a1 hP
        generalize l[k].n = xn at a2 hP
        generalize bs l[k].t = xt at a3
        generalize l[k].r = xr at a4
        have HU : Hid (Up w (wr.alloc (.cells #[.int .i64 xs, .int .i64 xn, .string xt, .int .i64 xr] 58))) := hu.trans (Up.alloc _ _)
        have HB := Lib.hid (hbx.up (Up.alloc wr (.cells #[.int .i64 xs, .int .i64 xn, .string xt, .int .i64 xr] 58)))
        have d1 : decide (k < l.length) = true := decide_eq_true hlt
        clear h5 hu hbx hq
        cases P with
        | true =>
          simp only [Bool.and_eq_true, beq_iff_eq] at hP
          obtain ⟨⟨rfl, rfl⟩, rfl⟩ := hP
          have HV : Hid (R = (k : Int)) := by
            show R = _
            rw [← HR.out, idx_of hlt HPP.out (fun j hj => HN.out j (by omega) hj)]
          go_wp2_with fail
          go_ret
          exact ⟨by rw [HV.out]; rfl, HU.out⟩
        | false =>
          have HREL : Hid (ItmRel (ib, is, iN) l w (.int .i64 ((k + 1 : Nat) : Int)) (wr.alloc (.cells #[.int .i64 xs, .int .i64 xn, .string xt, .int .i64 xr] 58))) := by
            refine ⟨k + 1, by omega, rfl, HU.out, HB.out, fun j hj hjk => ?_⟩
            by_cases e : j = k
            · subst e; exact HPP.out
            · exact HN.out j hj (by omega)
          cases ib with
          | false =>
            clear hP
            go_wp2_with fail
            go_roundw
            case rel => exact HREL.out
            case measure => simp only [intOf]; omega
          | true =>
            by_cases e1 : is = xs
            · subst e1
              have e2 : (iN == xn) = false := by simp at hP ⊢; exact fun h => hP h.symm
              clear hP
              go_wp2_with fail
              go_roundw
              case rel => exact HREL.out
              case measure => simp only [intOf]; omega
            · have e2 : (is == xs) = false := by simpa using e1
              clear hP e1
              go_wp2_with fail
              go_roundw
              case rel => exact HREL.out
              case measure => simp only [intOf]; omega
    · have d1 : decide (k < l.length) = false := decide_eq_false hlt
      have HV : Hid (R = -1) := by
        show R = -1
        rw [← HR.out, idx_none.2 (fun x hx => by obtain ⟨i, hi, rfl⟩ := List.getElem_of_mem hx; exact HN.out i hi (by omega))]
      have HU := Lib.hid hu
      clear hu hbx
      go_wp2_with fail
      go_ret
      exact ⟨by rw [HV.out]; rfl, HU.out⟩

end Go.Proofs.Ytomfbffaekpnlaa

/-
  What the reference's Bag returns: what is wrong with a bag. Condition: the row can be read.
-/
namespace Go.Proofs.Ytomfbffaekpnlaa
open Go.RowKit
open Go.Proofs
open WoolBag

/-- a block that holds an item -/
def InRel.RowI' (wr : World) (X : Nat) (x : Itm) : Prop := wr.heap[X]? = some (.cells #[.int .i64 x.s, .int .i64 x.n, .string (bs x.t), .int .i64 x.r] 58 (0, 0))

/-- the inner loop: no text so far is the item's own -/
def InRel (l : List Itm) (x : Itm) (X : Nat) (k : Nat) (w : World) (i : Value) (wr : World) : Prop :=
  ∃ j : Nat, j ≤ k ∧ i = .int .i64 j ∧ Up w wr ∧ InRel.RowI' wr X x ∧ ∀ m (h : m < l.length), m < j → txtB x.t l[m] = false

theorem refPrintB (t : List UInt8) (w : World) (h : t.length ≤ 64) : Calls Try.prog 31 #[.int .i64 65581, .string (bs t)] w fun e w' => e = .returned (.int .i64 (FP t)) ∧ Up w w' := by
  have := refPrint_any 65581 (bs t) w (by omega) (by omega) (by rw [bs_size]; omega)
  rw [bs_list] at this
  exact this

theorem any_take {l : List Itm} {k : Nat} {t : List UInt8} (h : ∀ m (hm : m < l.length), m < k → txtB t l[m] = false) : (l.take k).any (txtB t) = false := by
  rw [Bool.eq_false_iff]
  intro ha
  obtain ⟨y, hy, e⟩ := List.any_eq_true.1 ha
  obtain ⟨m, hm, rfl⟩ := List.getElem_of_mem hy
  rw [List.length_take] at hm
  rw [List.getElem_take] at e
  rw [h m (by omega) (by omega)] at e
  cases e

theorem any_hit {l : List Itm} {k m : Nat} {t : List UInt8} (hm : m < l.length) (hk : m < k) (e : txtB t l[m] = true) : (l.take k).any (txtB t) = true := by
  rw [List.any_eq_true]
  exact ⟨l[m], by rw [List.mem_take_iff_getElem]; exact ⟨m, by omega, rfl⟩, e⟩

set_option maxRecDepth 100000 in
set_option maxHeartbeats 4000000 in
theorem refBag_any (v : Value) (l : List Itm) (w : World) (h : Items w v l) :
    Calls Try.prog 12 #[v] w fun e w' => e = .returned (.int .i64 (chk FP l)) ∧ Up w w' := by
  obtain ⟨o, c, rfl, h2, h3, h4⟩ := h
  unfold maxLen at h3
  by_cases hbig : 64 < l.length
  · have hv : chk FP l = 2 := by unfold chk; rw [if_pos hbig]
    rw [hv]
    clear hv h4
    go_enter Try.func12, Try.ntmps12
    go_wp2_with fail
    go_ret
    exact ⟨rfl, Up.refl _⟩
  have hv : chk FP l = chkL FP [] l := by unfold chk; rw [if_neg hbig]
  rw [hv]
  obtain ⟨E, hE⟩ : ∃ E, chkL FP [] l = E := ⟨_, rfl⟩
  rw [hE]
  have HE := Lib.hid hE
  have H4 := Lib.hid h4
  clear hv hE h4
  go_enter Try.func12, Try.ntmps12
  go_wp2_with fail
  go_loopw [12] (fun i wr => BagRel l w i wr) (fun i _ => l.length - (intOf i).toNat)
  case atStart => exact ⟨0, Nat.zero_le _, rfl, Up.refl w, rfl⟩
  case round =>
    obtain ⟨k, hk, rfl, hu, hck⟩ := hrel
    by_cases hlt : k < l.length
    case neg =>
      have d1 : decide (k < l.length) = false := decide_eq_false hlt
      rw [List.drop_of_length_le (by omega)] at hck
      have HER : Hid (E = 0) := HE.out.symm.trans hck
      clear hck
      go_wp2_with fail
      go_ret
      exact ⟨by rw [HER.out]; rfl, hu⟩
    rcases H4.out with h5 | ⟨b, off, rfl, h5⟩
    · rw [h5] at hlt; simp at hlt
    obtain ⟨a1, a2, a3, a4⟩ := h5 k hlt
    have k1 := World.block_lt_of_cell? w _ a1
    have hb1 : b < wr.heap.size := Nat.lt_of_lt_of_le k1 hu.size
    rw [← hu.cell (World.block_lt_of_cell? w _ a1)] at a1
    rw [← hu.cell (World.block_lt_of_cell? w _ a2)] at a2
    rw [← hu.cell (World.block_lt_of_cell? w _ a3)] at a3
    rw [← hu.cell (World.block_lt_of_cell? w _ a4)] at a4
    rw [List.drop_eq_getElem_cons hlt] at hck
    have hst : chkL FP (l.take k) (l[k] :: l.drop (k + 1)) = if errI FP (l.take k) l[k] = 0 then chkL FP (l.take (k + 1)) (l.drop (k + 1)) else errI FP (l.take k) l[k] := by
      rw [chkL, List.take_succ_eq_append_getElem hlt]
    rw [hst] at hck
    have HCK := Lib.hid hck
    have HEI : Hid (∀ e, errI FP (l.take k) l[k] = e → e ≠ 0 → E = e) := fun e he h0 => by
      have := HCK.out
      rw [he, if_neg h0] at this
      exact HE.out.symm.trans this
    have HOK : Hid (errI FP (l.take k) l[k] = 0 → chkL FP [] l = chkL FP (l.take (k + 1)) (l.drop (k + 1))) := fun h0 => by
      have := HCK.out
      rw [if_pos h0] at this
      exact this
    clear hst hck HCK
    obtain ⟨x, hx⟩ : ∃ x, l[k] = x := ⟨_, rfl⟩
    rw [hx] at a1 a2 a3 a4 HEI HOK
    have hsz := bs_size x.t
    have HQ := Lib.hid (heap_alloc_new wr (.cells #[.int .i64 x.s, .int .i64 x.n, .string (bs x.t), .int .i64 x.r] 58))
    have HU := Lib.hid hu
    have H5 := Lib.hid h5
    have d1 : decide (k < l.length) = true := decide_eq_true hlt
    clear h5 hu hx k1
    by_cases g1 : 64 < x.t.length
    · have HV := Lib.hid (HEI.out 2 (errI_2 _ _ _ g1) (by decide))
      rw [← hsz] at g1
      clear hsz
      go_wp2_with fail
      go_ret
      exact ⟨by rw [HV.out]; rfl, HU.out.trans (Up.alloc _ _)⟩
    have hs1 : (bs x.t).size ≤ 64 := by omega
    have HFP := Lib.hid (fun W => refPrintB x.t W (by omega))
    have HLL := Lib.hid g1
    obtain ⟨F, hF⟩ : ∃ F, FP x.t = F := ⟨_, rfl⟩
    rw [hF] at HFP
    have HF := Lib.hid hF
    clear hF hsz g1
    go_wp2_with fail
    have q0 := World.cell?_alloc_new wr #[.int .i64 x.s, .int .i64 x.n, .string (bs x.t), .int .i64 x.r] 58 0
    have q2 := World.cell?_alloc_new wr #[.int .i64 x.s, .int .i64 x.n, .string (bs x.t), .int .i64 x.r] 58 2
    have q4 : wr.heap.size < (wr.alloc (.cells #[.int .i64 x.s, .int .i64 x.n, .string (bs x.t), .int .i64 x.r] 58)).heap.size := by simp
    go_region_held3 (fun U => U.cell? ⟨wr.heap.size, 0, none⟩ = some (.int .i64 x.s) ∧ U.cell? ⟨wr.heap.size, 2, none⟩ = some (.string (bs x.t))) (go_keep)
      ((go_at_call 31; ((with_reducible refine (HFP.out _).mono ?_); rintro e w4 ⟨rfl, u4⟩; have f0 := (Below.cell u4 (p := ⟨wr.heap.size, 0, none⟩) q4).trans q0; have f2 := (Below.cell u4 (p := ⟨wr.heap.size, 2, none⟩) q4).trans q2)))
    all_goals
      have u4' := (Up.alloc wr (.cells #[.int .i64 x.s, .int .i64 x.n, .string (bs x.t), .int .i64 x.r] 58)).trans ((Up.drew _).trans u4)
      have hxb : w4.heap[wr.heap.size]? = some (.cells #[.int .i64 x.s, .int .i64 x.n, .string (bs x.t), .int .i64 x.r] 58 (0, 0)) := (u4.block wr.heap.size q4).trans HQ.out
      have HXB := Lib.hid hxb
      have HU4 := Lib.hid (HU.out.trans u4')
      have hXlt : wr.heap.size < w4.heap.size := Nat.lt_of_lt_of_le q4 u4.size
      have e0 : w4.cell? ⟨wr.heap.size, 0, none⟩ = some (.int .i64 x.s) := cell_of_row _ _ 0 _ _ _ hxb
      have e1 : w4.cell? ⟨wr.heap.size, 1, none⟩ = some (.int .i64 x.n) := cell_of_row _ _ 1 _ _ _ hxb
      have e2 : w4.cell? ⟨wr.heap.size, 2, none⟩ = some (.string (bs x.t)) := cell_of_row _ _ 2 _ _ _ hxb
      have e3 : w4.cell? ⟨wr.heap.size, 3, none⟩ = some (.int .i64 x.r) := cell_of_row _ _ 3 _ _ _ hxb
      clear f0 f2 q0 q2 q4 u4 hxb u4'
      generalize wr.heap.size = X at HXB hXlt e0 e1 e2 e3 ⊢
      by_cases g2 : F ≠ x.s
      · have HV := Lib.hid (HEI.out 6 (errI_6 _ _ _ HLL.out (by rw [HF.out]; exact fun h => g2 h.symm)) (by decide))
        have g3 : (F != x.s) = true := by rw [bne_iff_ne]; exact g2
        clear g2
        go_wp2_with fail
        go_ret
        exact ⟨by rw [HV.out]; rfl, HU4.out⟩
      have g2' := Decidable.not_not.1 g2
      have g3 : (F != x.s) = false := by rw [g2']; simp
      have HS : Hid (x.s = FP x.t) := by show _ = _; rw [HF.out, g2']
      clear g2 g2'
      by_cases g4 : argB x = true
      · have HV := Lib.hid (HEI.out 1 (errI_1 _ _ _ HLL.out HS.out g4) (by decide))
        unfold argB at g4
        simp only [Bool.or_eq_true, decide_eq_true_iff] at g4
        have HG := Lib.hid g4
        clear g4
        by_cases n1 : x.n < 0 ∨ 63 < x.n
        · have HN1 := Lib.hid n1
          clear n1
          go_wp2_with (go_at_call 32; refine (refWithin_no _ _ _ _ HN1.out).mono ?_; rintro e w' ⟨rfl, rfl⟩)
          go_ret
          exact ⟨by rw [HV.out]; rfl, HU4.out⟩
        · have HN1 : Hid (0 ≤ x.n ∧ x.n ≤ 63) := by show _ ∧ _; omega
          have HN2 : Hid (x.r < 1 ∨ 1000000 < x.r) := by show _ ∨ _; have := HG.out; omega
          clear n1
          go_wp2_with fail
          refine (refWithin_yes _ _ _ _ HN1.out.1 HN1.out.2).mono ?_
          rintro e w' ⟨rfl, rfl⟩
          go_wp2_with fail
          refine (refWithin_no _ _ _ _ HN2.out).mono ?_
          rintro e w' ⟨rfl, rfl⟩
          go_wp2_with fail
          go_ret
          exact ⟨by rw [HV.out]; rfl, HU4.out⟩
      have HG4 : Hid (argB x = false) := by show _ = _; simpa using g4
      have HAR := Lib.hid ((arg_iff x).1 HG4.out)
      clear g4
      go_wp2_with fail
      refine (refWithin_yes _ _ _ _ HAR.out.1 HAR.out.2.1).mono ?_
      rintro e w' ⟨rfl, rfl⟩
      go_wp2_with fail
      refine (refWithin_yes _ _ _ _ HAR.out.2.2.1 HAR.out.2.2.2).mono ?_
      rintro e w' ⟨rfl, rfl⟩
      by_cases hk0 : k = 0
      · have dk : decide (0 < (k : Int)) = false := by rw [decide_eq_false_iff_not]; omega
        have dk2 : decide (0 < k) = false := by rw [decide_eq_false_iff_not]; omega
        have HLT : Hid (lastB (l.take k) x = true) := by show _ = _; rw [hk0]; rfl
        have HK0 := Lib.hid hk0
        clear hk0
        have HE5 := Lib.hid (errI_5 FP (l.take k) x HLL.out HS.out HG4.out HLT.out)
        go_wp2_with fail
        go_quiet (fail)
        obtain ⟨w5, hw5⟩ : ∃ w5, w4.drewN nq = w5 := ⟨_, rfl⟩
        have u45 : Up w4 w5 := by rw [← hw5]; exact Up.drewN _ _
        have HU5 := Lib.hid (HU4.out.trans u45)
        have HST : Hid (InRel l x X k w (.int .i64 0) w5) := ⟨0, Nat.zero_le _, rfl, HU5.out, (u45.block X hXlt).trans HXB.out, fun m _ hm => by omega⟩
        rw [hw5]
        clear hw5 u45 e0 e1 e2 e3
        go_wp2_with fail
        go_loopw [76] (fun i wr => InRel l x X k w i wr) (fun i _ => k - (intOf i).toNat)
        case atStart => exact HST.out
        case round =>
          obtain ⟨j, hj, rfl, hu, hxq, hno⟩ := hrel
          have HN := Lib.hid hno
          clear hno
          by_cases hjk : j < k
          · obtain ⟨y1, y2, y3, y4⟩ := H5.out j (by omega)
            rw [← hu.cell (World.block_lt_of_cell? w _ y1)] at y1
            rw [← hu.cell (World.block_lt_of_cell? w _ y2)] at y2
            rw [← hu.cell (World.block_lt_of_cell? w _ y3)] at y3
            rw [← hu.cell (World.block_lt_of_cell? w _ y4)] at y4
            have hq := txt_eq (l[j]'(by omega)).t x.t
            obtain ⟨P, hP⟩ : ∃ P, txtB x.t (l[j]'(by omega)) = P := ⟨_, rfl⟩
            rw [show ((l[j]'(by omega)).t == x.t) = txtB x.t (l[j]'(by omega)) from rfl, hP] at hq
            have HPP := Lib.hid hP
            generalize (l[j]'(by omega)).s = ys at y1
            generalize (l[j]'(by omega)).n = yn at y2
            generalize bs (l[j]'(by omega)).t = yt at y3 hq
            generalize (l[j]'(by omega)).r = yr at y4
            have z2 : wr.cell? ⟨X, 2, none⟩ = some (.string (bs x.t)) := cell_of_row _ _ 2 _ _ _ hxq
            have hXq : X < wr.heap.size := (Array.getElem?_eq_some_iff.1 hxq).1
            have hXne : X ≠ wr.heap.size := by omega
            have HUQ : Hid (Up w (wr.alloc (.cells #[.int .i64 ys, .int .i64 yn, .string yt, .int .i64 yr] 58))) := hu.trans (Up.alloc _ _)
            have HXQ : Hid (InRel.RowI' (wr.alloc (.cells #[.int .i64 ys, .int .i64 yn, .string yt, .int .i64 yr] 58)) X x) := ((Up.alloc wr (.cells #[.int .i64 ys, .int .i64 yn, .string yt, .int .i64 yr] 58)).block X hXq).trans hxq
            have dj : decide (j < k) = true := decide_eq_true hjk
            clear hu hxq hP
            cases P with
            | true =>
              have HV := Lib.hid (HEI.out 5 (by rw [HE5.out, if_pos (any_hit (by omega) hjk HPP.out)]) (by decide))
              go_wp2_with fail
              go_ret
              exact ⟨by rw [HV.out]; rfl, HUQ.out⟩
            | false =>
              have HREL : Hid (InRel l x X k w (.int .i64 ((j + 1 : Nat) : Int)) (wr.alloc (.cells #[.int .i64 ys, .int .i64 yn, .string yt, .int .i64 yr] 58))) := by
                refine ⟨j + 1, by omega, rfl, HUQ.out, HXQ.out, fun m hm hmj => ?_⟩
                by_cases e : m = j
                · subst e; exact HPP.out
                · exact HN.out m hm (by omega)
              go_wp2_with fail
              go_roundw
              case rel => exact HREL.out
              case measure => simp only [intOf]; omega
          · have dj : decide (j < k) = false := decide_eq_false hjk
            have HREL : Hid (BagRel l w (.int .i64 ((k + 1 : Nat) : Int)) wr) := ⟨k + 1, by omega, rfl, hu, HOK.out (by rw [HE5.out, if_neg]; rw [any_take (fun m hm hmk => HN.out m hm (by omega))]; simp)⟩
            clear hu hxq
            go_wp2_with fail
            go_roundw
            case rel => exact HREL.out
            case measure => simp only [intOf]; omega
      · obtain ⟨K, hK⟩ : ∃ K, k = K + 1 := ⟨k - 1, by omega⟩
        have hKl : K < l.length := by omega
        have hlast : lastB (l.take k) x = behB l[K] x := by rw [hK]; exact last_take (by omega) x
        obtain ⟨y1, y2, _, _⟩ := H5.out K hKl
        have c1 := (HU4.out.cell (World.block_lt_of_cell? w _ y1)).trans y1
        have c2 := (HU4.out.cell (World.block_lt_of_cell? w _ y2)).trans y2
        unfold behB at hlast
        generalize l[K].s = as' at *
        generalize l[K].n = an at *
        have dk : decide (0 < (k : Int)) = true := by rw [decide_eq_true_iff]; omega
        have dk2 : decide (0 < k) = true := by rw [decide_eq_true_iff]; omega
        have dk3 : 0 < k := by omega
        have p1 : IntKind.i64.wrap ((k : Int) - 1) = (K : Int) := by rw [show (k : Int) - 1 = (K : Int) by omega]; exact IntWalk.i64_in _ (by omega)
        clear hK hk0 y1 y2
        by_cases r1 : x.s < as'
        · have HV := Lib.hid (HEI.out 3 (errI_3 _ _ _ HLL.out HS.out HG4.out (by rw [hlast]; simp; omega)) (by decide))
          have t1 : decide (x.s < as') = true := decide_eq_true r1
          clear hlast
          go_wp2_with fail
          go_quiet (fail)
          go_wp2_with fail
          go_ret
          exact ⟨by rw [HV.out]; rfl, HU4.out.trans (Up.drewN _ _)⟩
        have t1 : decide (x.s < as') = false := decide_eq_false r1
        by_cases r2 : as' = x.s
        · have t2 : (as' == x.s) = true := by simpa using r2
          by_cases r3 : x.n ≤ an
          · have HV := Lib.hid (HEI.out 3 (errI_3 _ _ _ HLL.out HS.out HG4.out (by rw [hlast]; simp; omega)) (by decide))
            have t3 : decide (x.n ≤ an) = true := decide_eq_true r3
            clear hlast r2
            go_wp2_with fail
            go_quiet (fail)
            go_wp2_with fail
            go_ret
            exact ⟨by rw [HV.out]; rfl, HU4.out.trans (Up.drewN _ _)⟩
          · have HLT : Hid (lastB (l.take k) x = true) := by show _ = _; rw [hlast]; simp; omega
            have t3 : decide (x.n ≤ an) = false := decide_eq_false r3
            clear hlast r2
            have HE5 := Lib.hid (errI_5 FP (l.take k) x HLL.out HS.out HG4.out HLT.out)
            go_wp2_with fail
            go_quiet (fail)
            obtain ⟨w5, hw5⟩ : ∃ w5, w4.drewN nq = w5 := ⟨_, rfl⟩
            have u45 : Up w4 w5 := by rw [← hw5]; exact Up.drewN _ _
            have HU5 := Lib.hid (HU4.out.trans u45)
            have HST : Hid (InRel l x X k w (.int .i64 0) w5) := ⟨0, Nat.zero_le _, rfl, HU5.out, (u45.block X hXlt).trans HXB.out, fun m _ hm => by omega⟩
            rw [hw5]
            clear hw5 u45 e0 e1 e2 e3
            go_wp2_with fail
            go_loopw [76] (fun i wr => InRel l x X k w i wr) (fun i _ => k - (intOf i).toNat)
            case atStart => exact HST.out
            case round =>
              obtain ⟨j, hj, rfl, hu, hxq, hno⟩ := hrel
              have HN := Lib.hid hno
              clear hno
              by_cases hjk : j < k
              · obtain ⟨y1, y2, y3, y4⟩ := H5.out j (by omega)
                rw [← hu.cell (World.block_lt_of_cell? w _ y1)] at y1
                rw [← hu.cell (World.block_lt_of_cell? w _ y2)] at y2
                rw [← hu.cell (World.block_lt_of_cell? w _ y3)] at y3
                rw [← hu.cell (World.block_lt_of_cell? w _ y4)] at y4
                have hq := txt_eq (l[j]'(by omega)).t x.t
                obtain ⟨P, hP⟩ : ∃ P, txtB x.t (l[j]'(by omega)) = P := ⟨_, rfl⟩
                rw [show ((l[j]'(by omega)).t == x.t) = txtB x.t (l[j]'(by omega)) from rfl, hP] at hq
                have HPP := Lib.hid hP
                generalize (l[j]'(by omega)).s = ys at y1
                generalize (l[j]'(by omega)).n = yn at y2
                generalize bs (l[j]'(by omega)).t = yt at y3 hq
                generalize (l[j]'(by omega)).r = yr at y4
                have z2 : wr.cell? ⟨X, 2, none⟩ = some (.string (bs x.t)) := cell_of_row _ _ 2 _ _ _ hxq
                have hXq : X < wr.heap.size := (Array.getElem?_eq_some_iff.1 hxq).1
                have hXne : X ≠ wr.heap.size := by omega
                have HUQ : Hid (Up w (wr.alloc (.cells #[.int .i64 ys, .int .i64 yn, .string yt, .int .i64 yr] 58))) := hu.trans (Up.alloc _ _)
                have HXQ : Hid (InRel.RowI' (wr.alloc (.cells #[.int .i64 ys, .int .i64 yn, .string yt, .int .i64 yr] 58)) X x) := ((Up.alloc wr (.cells #[.int .i64 ys, .int .i64 yn, .string yt, .int .i64 yr] 58)).block X hXq).trans hxq
                have dj : decide (j < k) = true := decide_eq_true hjk
                clear hu hxq hP
                cases P with
                | true =>
                  have HV := Lib.hid (HEI.out 5 (by rw [HE5.out, if_pos (any_hit (by omega) hjk HPP.out)]) (by decide))
                  go_wp2_with fail
                  go_ret
                  exact ⟨by rw [HV.out]; rfl, HUQ.out⟩
                | false =>
                  have HREL : Hid (InRel l x X k w (.int .i64 ((j + 1 : Nat) : Int)) (wr.alloc (.cells #[.int .i64 ys, .int .i64 yn, .string yt, .int .i64 yr] 58))) := by
                    refine ⟨j + 1, by omega, rfl, HUQ.out, HXQ.out, fun m hm hmj => ?_⟩
                    by_cases e : m = j
                    · subst e; exact HPP.out
                    · exact HN.out m hm (by omega)
                  go_wp2_with fail
                  go_roundw
                  case rel => exact HREL.out
                  case measure => simp only [intOf]; omega
              · have dj : decide (j < k) = false := decide_eq_false hjk
                have HREL : Hid (BagRel l w (.int .i64 ((k + 1 : Nat) : Int)) wr) := ⟨k + 1, by omega, rfl, hu, HOK.out (by rw [HE5.out, if_neg]; rw [any_take (fun m hm hmk => HN.out m hm (by omega))]; simp)⟩
                clear hu hxq
                go_wp2_with fail
                go_roundw
                case rel => exact HREL.out
                case measure => simp only [intOf]; omega
        · have t2 : (as' == x.s) = false := by simpa using r2
          have HLT : Hid (lastB (l.take k) x = true) := by show _ = _; rw [hlast]; simp; omega
          clear hlast r2
          have HE5 := Lib.hid (errI_5 FP (l.take k) x HLL.out HS.out HG4.out HLT.out)
          go_wp2_with fail
          go_quiet (fail)
          obtain ⟨w5, hw5⟩ : ∃ w5, w4.drewN nq = w5 := ⟨_, rfl⟩
          have u45 : Up w4 w5 := by rw [← hw5]; exact Up.drewN _ _
          have HU5 := Lib.hid (HU4.out.trans u45)
          have HST : Hid (InRel l x X k w (.int .i64 0) w5) := ⟨0, Nat.zero_le _, rfl, HU5.out, (u45.block X hXlt).trans HXB.out, fun m _ hm => by omega⟩
          rw [hw5]
          clear hw5 u45 e0 e1 e2 e3
          go_wp2_with fail
          go_loopw [76] (fun i wr => InRel l x X k w i wr) (fun i _ => k - (intOf i).toNat)
          case atStart => exact HST.out
          case round =>
            obtain ⟨j, hj, rfl, hu, hxq, hno⟩ := hrel
            have HN := Lib.hid hno
            clear hno
            by_cases hjk : j < k
            · obtain ⟨y1, y2, y3, y4⟩ := H5.out j (by omega)
              rw [← hu.cell (World.block_lt_of_cell? w _ y1)] at y1
              rw [← hu.cell (World.block_lt_of_cell? w _ y2)] at y2
              rw [← hu.cell (World.block_lt_of_cell? w _ y3)] at y3
              rw [← hu.cell (World.block_lt_of_cell? w _ y4)] at y4
              have hq := txt_eq (l[j]'(by omega)).t x.t
              obtain ⟨P, hP⟩ : ∃ P, txtB x.t (l[j]'(by omega)) = P := ⟨_, rfl⟩
              rw [show ((l[j]'(by omega)).t == x.t) = txtB x.t (l[j]'(by omega)) from rfl, hP] at hq
              have HPP := Lib.hid hP
              generalize (l[j]'(by omega)).s = ys at y1
              generalize (l[j]'(by omega)).n = yn at y2
              generalize bs (l[j]'(by omega)).t = yt at y3 hq
              generalize (l[j]'(by omega)).r = yr at y4
              have z2 : wr.cell? ⟨X, 2, none⟩ = some (.string (bs x.t)) := cell_of_row _ _ 2 _ _ _ hxq
              have hXq : X < wr.heap.size := (Array.getElem?_eq_some_iff.1 hxq).1
              have hXne : X ≠ wr.heap.size := by omega
              have HUQ : Hid (Up w (wr.alloc (.cells #[.int .i64 ys, .int .i64 yn, .string yt, .int .i64 yr] 58))) := hu.trans (Up.alloc _ _)
              have HXQ : Hid (InRel.RowI' (wr.alloc (.cells #[.int .i64 ys, .int .i64 yn, .string yt, .int .i64 yr] 58)) X x) := ((Up.alloc wr (.cells #[.int .i64 ys, .int .i64 yn, .string yt, .int .i64 yr] 58)).block X hXq).trans hxq
              have dj : decide (j < k) = true := decide_eq_true hjk
              clear hu hxq hP
              cases P with
              | true =>
                have HV := Lib.hid (HEI.out 5 (by rw [HE5.out, if_pos (any_hit (by omega) hjk HPP.out)]) (by decide))
                go_wp2_with fail
                go_ret
                exact ⟨by rw [HV.out]; rfl, HUQ.out⟩
              | false =>
                have HREL : Hid (InRel l x X k w (.int .i64 ((j + 1 : Nat) : Int)) (wr.alloc (.cells #[.int .i64 ys, .int .i64 yn, .string yt, .int .i64 yr] 58))) := by
                  refine ⟨j + 1, by omega, rfl, HUQ.out, HXQ.out, fun m hm hmj => ?_⟩
                  by_cases e : m = j
                  · subst e; exact HPP.out
                  · exact HN.out m hm (by omega)
                go_wp2_with fail
                go_roundw
                case rel => exact HREL.out
                case measure => simp only [intOf]; omega
            · have dj : decide (j < k) = false := decide_eq_false hjk
              have HREL : Hid (BagRel l w (.int .i64 ((k + 1 : Nat) : Int)) wr) := ⟨k + 1, by omega, rfl, hu, HOK.out (by rw [HE5.out, if_neg]; rw [any_take (fun m hm hmk => HN.out m hm (by omega))]; simp)⟩
              clear hu hxq
              go_wp2_with fail
              go_roundw
              case rel => exact HREL.out
              case measure => simp only [intOf]; omega

end Go.Proofs.Ytomfbffaekpnlaa
