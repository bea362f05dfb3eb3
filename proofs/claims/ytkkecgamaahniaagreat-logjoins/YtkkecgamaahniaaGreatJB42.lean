/-
  The texts Print2, PrintM, FrameM, one behind the other; each says below what it holds and on what conditions.
-/
import Derived.Test.YtkkecgamaahniaaGreatJB12

/-
  What Join and Roll of package print return at wrong arguments, and what Roll returns at right ones. Conditions: the arguments are ints.
-/
namespace Go.Proofs.YtkkecgamaahniaaGreat
open Go.RowKit
open Go.Proofs

set_option maxRecDepth 100000 in
theorem join_mod (m a b n : Int) (w : World) (h : m < 2 ∨ 2147483647 < m) :
    Calls Tryz.prog 63 #[.int .i64 m, .int .i64 a, .int .i64 b, .int .i64 n] w fun e w' => e = .returned (.tuple #[.int .i64 0, .int .i64 1]) ∧ w = w' := by
  have H := Lib.hid h
  clear h
  go_enter Tryz.func63, Tryz.ntmps63
  go_wp2_with (go_at_call 82; refine (mod_bad _ _ H.out).mono ?_; rintro e w' ⟨rfl, rfl⟩)
  go_ret2
  exact ⟨rfl, rfl⟩

set_option maxRecDepth 100000 in
theorem join_arg (M : Nat) (a b n : Int) (w : World) (h0 : 2 ≤ M) (h1 : M ≤ 2147483647) (h : ¬ (isRest a M ∧ isRest b M ∧ 0 ≤ n ∧ n ≤ 600)) :
    Calls Tryz.prog 63 #[.int .i64 (M : Int), .int .i64 a, .int .i64 b, .int .i64 n] w fun e w' => e = .returned (.tuple #[.int .i64 0, .int .i64 1]) ∧ w = w' := by
  by_cases ha : isRest a M
  · have HA := Lib.hid ha
    by_cases hb : isRest b M
    · have HB := Lib.hid hb
      have hn : n < 0 ∨ 600 < n := by
        apply Classical.byContradiction
        intro hc
        exact h ⟨ha, hb, by omega, by omega⟩
      clear ha hb h
      by_cases hn0 : n < 0
      · have d1 : decide (n < 0) = true := by rw [decide_eq_true_iff]; omega
        clear hn
        go_enter Tryz.func63, Tryz.ntmps63
        go_wp2_with fail
        refine (mod_ok _ _ (by omega) (by omega)).mono ?_
        rintro e w' ⟨rfl, rfl⟩
        go_wp2_with fail
        refine (reduced_yes _ M _ h0 h1 HA.out).mono ?_
        rintro e w' ⟨rfl, rfl⟩
        go_wp2_with fail
        refine (reduced_yes _ M _ h0 h1 HB.out).mono ?_
        rintro e w' ⟨rfl, rfl⟩
        go_wp2_with fail
        go_ret2
        exact ⟨rfl, rfl⟩
      · have d1 : decide (n < 0) = false := by rw [decide_eq_false_iff_not]; omega
        have d2 : decide (600 < n) = true := by rw [decide_eq_true_iff]; omega
        clear hn
        go_enter Tryz.func63, Tryz.ntmps63
        go_wp2_with fail
        refine (mod_ok _ _ (by omega) (by omega)).mono ?_
        rintro e w' ⟨rfl, rfl⟩
        go_wp2_with fail
        refine (reduced_yes _ M _ h0 h1 HA.out).mono ?_
        rintro e w' ⟨rfl, rfl⟩
        go_wp2_with fail
        refine (reduced_yes _ M _ h0 h1 HB.out).mono ?_
        rintro e w' ⟨rfl, rfl⟩
        go_wp2_with fail
        go_ret2
        exact ⟨rfl, rfl⟩
    · have HB := Lib.hid hb
      clear ha hb h
      go_enter Tryz.func63, Tryz.ntmps63
      go_wp2_with fail
      refine (mod_ok _ _ (by omega) (by omega)).mono ?_
      rintro e w' ⟨rfl, rfl⟩
      go_wp2_with fail
      refine (reduced_yes _ M _ h0 h1 HA.out).mono ?_
      rintro e w' ⟨rfl, rfl⟩
      go_wp2_with fail
      refine (reduced_no _ M _ h0 h1 HB.out).mono ?_
      rintro e w' ⟨rfl, rfl⟩
      go_wp2_with fail
      go_ret2
      exact ⟨rfl, rfl⟩
  · have HA := Lib.hid ha
    clear ha h
    go_enter Tryz.func63, Tryz.ntmps63
    go_wp2_with fail
    refine (mod_ok _ _ (by omega) (by omega)).mono ?_
    rintro e w' ⟨rfl, rfl⟩
    go_wp2_with fail
    refine (reduced_no _ M _ h0 h1 HA.out).mono ?_
    rintro e w' ⟨rfl, rfl⟩
    go_wp2_with fail
    go_ret2
    exact ⟨rfl, rfl⟩

/-- what Roll answers -/
def restV (M P X N : Nat) : Nat := P ^^^ WoolMath.pmod (WoolMath.pw 256 N) M ^^^ WoolMath.pmod (WoolMath.mul X (WoolMath.pmod (WoolMath.pw 256 (N - 1)) M)) M
def rollV (M P X Y N : Nat) : Nat := WoolMath.pmod (WoolMath.mul (restV M P X N) 256) M ^^^ WoolMath.pmod Y M ^^^ WoolMath.pmod (WoolMath.pw 256 N) M

theorem xor30 (a b : Nat) (ha : a < 1073741824) (hb : b < 1073741824) : a ^^^ b < 1073741824 := Nat.xor_lt_two_pow (n := 30) ha hb

end Go.Proofs.YtkkecgamaahniaaGreat

/-
  Plain mathematics of fingerprints: of two texts behind one another, of a window that moves on, of three texts added, of a text with some bits turned. No condition but those that each says.
-/
namespace Go.Proofs.YtkkecgamaahniaaGreat
open Go.RowKit
open Go.Proofs

theorem snoc_ind {α : Type} {P : List α → Prop} (h0 : P []) (hs : ∀ l a, P l → P (l ++ [a])) : ∀ l, P l := by
  intro l
  have : ∀ k : List α, P k.reverse := by
    intro k
    induction k with
    | nil => exact h0
    | cons a k ih => rw [List.reverse_cons]; exact hs _ _ ih
  have := this l.reverse
  rwa [List.reverse_reverse] at this

theorem sp_append (l k : List UInt8) : sp (l ++ k) = WoolMath.mul (sp l) (WoolMath.pw 256 k.length) ^^^ (sp k ^^^ WoolMath.pw 256 k.length) := by
  revert k
  refine snoc_ind ?_ ?_
  · rw [List.append_nil, sp_nil, List.length_nil, WoolMath.pw_zero, WoolMath.mul_one, Nat.xor_self, Nat.xor_zero]
  · intro k c ih
    rw [← List.append_assoc, sp_snoc, ih, sp_snoc, List.length_append, List.length_singleton, WoolMath.pw_succ, WoolMath.xor_mul, WoolMath.xor_mul, WoolMath.mul_assoc]
    generalize WoolMath.mul (sp l) (WoolMath.mul (WoolMath.pw 256 k.length) 256) = X
    generalize WoolMath.mul (WoolMath.pw 256 k.length) 256 = Y
    generalize WoolMath.mul (sp k) 256 = Z
    rw [Nat.xor_assoc, Nat.xor_assoc, Nat.xor_assoc, Nat.xor_comm Y]

theorem fp_join (M : Nat) (h : 2 ≤ M) (l k : List UInt8) : fp M (l ++ k) = joinV M (fp M l) (fp M k) k.length := by
  unfold joinV fp
  have hm : M ≠ 0 := by omega
  rw [sp_append, WoolMath.pmod_xor _ _ _ hm, WoolMath.pmod_xor _ _ _ hm, WoolMath.pmod_mul_right _ _ _ hm, WoolMath.pmod_mul_left _ _ _ hm, Nat.xor_assoc]

theorem sp_one (c : UInt8) : sp [c] = 256 ^^^ c.toNat := by
  show WoolMath.mul 1 256 ^^^ c.toNat = _
  rw [WoolMath.one_mul]

theorem fp_roll (M : Nat) (h : 2 ≤ M) (c d : UInt8) (l : List UInt8) : fp M (l ++ [d]) = rollV M (fp M (c :: l)) c.toNat d.toNat (l.length + 1) := by
  have hm : M ≠ 0 := by omega
  have e1 : sp (c :: l) = WoolMath.mul (256 ^^^ c.toNat) (WoolMath.pw 256 l.length) ^^^ (sp l ^^^ WoolMath.pw 256 l.length) := by
    have := sp_append [c] l
    rwa [sp_one] at this
  have e2 : restV M (fp M (c :: l)) c.toNat (l.length + 1) = WoolMath.pmod (sp l ^^^ WoolMath.pw 256 l.length) M := by
    unfold restV fp
    rw [Nat.add_sub_cancel, WoolMath.pmod_mul_right _ _ _ hm, e1, ← WoolMath.pmod_xor _ _ _ hm, ← WoolMath.pmod_xor _ _ _ hm, WoolMath.pw_succ, WoolMath.xor_mul, WoolMath.mul_comm 256]
    congr 1
    generalize WoolMath.mul (WoolMath.pw 256 l.length) 256 = X
    generalize WoolMath.mul c.toNat (WoolMath.pw 256 l.length) = Y
    generalize sp l ^^^ WoolMath.pw 256 l.length = Z
    apply Nat.eq_of_testBit_eq
    intro i
    simp only [Nat.testBit_xor]
    cases X.testBit i <;> cases Y.testBit i <;> cases Z.testBit i <;> rfl
  unfold rollV
  rw [e2, WoolMath.pmod_mul_left _ _ _ hm, ← WoolMath.pmod_xor _ _ _ hm, ← WoolMath.pmod_xor _ _ _ hm, WoolMath.pw_succ, WoolMath.xor_mul]
  unfold fp
  rw [sp_snoc]
  congr 1
  generalize WoolMath.mul (WoolMath.pw 256 l.length) 256 = X
  generalize WoolMath.mul (sp l) 256 = Y
  generalize d.toNat = Z
  apply Nat.eq_of_testBit_eq
  intro i
  simp only [Nat.testBit_xor]
  cases X.testBit i <;> cases Y.testBit i <;> cases Z.testBit i <;> rfl

/-- three texts, added -/
def xor3 : List UInt8 → List UInt8 → List UInt8 → List UInt8
  | a :: l, b :: k, c :: j => (a ^^^ b ^^^ c) :: xor3 l k j
  | _, _, _ => []

theorem xor3_length : ∀ (l k j : List UInt8), k.length = l.length → j.length = l.length → (xor3 l k j).length = l.length
  | [], [], [], _, _ => rfl
  | a :: l, b :: k, c :: j, h1, h2 => by
    simp only [List.length_cons, Nat.add_right_cancel_iff] at h1 h2
    simp only [xor3, List.length_cons, xor3_length l k j h1 h2]
  | [], _ :: _, _, h, _ => by simp at h
  | _ :: _, [], _, h, _ => by simp at h
  | [], [], _ :: _, _, h => by simp at h
  | _ :: _, _ :: _, [], _, h => by simp at h

theorem xor3_snoc : ∀ (l k j : List UInt8) (a b c : UInt8), k.length = l.length → j.length = l.length → xor3 (l ++ [a]) (k ++ [b]) (j ++ [c]) = xor3 l k j ++ [a ^^^ b ^^^ c]
  | [], [], [], _, _, _, _, _ => rfl
  | x :: l, y :: k, z :: j, a, b, c, h1, h2 => by
    simp only [List.length_cons, Nat.add_right_cancel_iff] at h1 h2
    simp only [List.cons_append, xor3, xor3_snoc l k j a b c h1 h2]
  | [], _ :: _, _, _, _, _, h, _ => by simp at h
  | _ :: _, [], _, _, _, _, h, _ => by simp at h
  | [], [], _ :: _, _, _, _, _, h => by simp at h
  | _ :: _, _ :: _, [], _, _, _, _, h => by simp at h

theorem sp_cons (a : UInt8) (l : List UInt8) : sp (a :: l) = WoolMath.mul (256 ^^^ a.toNat) (WoolMath.pw 256 l.length) ^^^ (sp l ^^^ WoolMath.pw 256 l.length) := by
  have := sp_append [a] l
  rwa [sp_one] at this

theorem sp_linear : ∀ (l k j : List UInt8), k.length = l.length → j.length = l.length → sp (xor3 l k j) = sp l ^^^ sp k ^^^ sp j
  | [], [], [], _, _ => by decide
  | a :: l, b :: k, c :: j, h1, h2 => by
    simp only [List.length_cons, Nat.add_right_cancel_iff] at h1 h2
    have ih := sp_linear l k j h1 h2
    have hl := xor3_length l k j h1 h2
    rw [show xor3 (a :: l) (b :: k) (c :: j) = (a ^^^ b ^^^ c) :: xor3 l k j from rfl, sp_cons, sp_cons, sp_cons, sp_cons, hl, ih, h1, h2, UInt8.toNat_xor, UInt8.toNat_xor]
    simp only [WoolMath.xor_mul]
    generalize WoolMath.mul 256 (WoolMath.pw 256 l.length) = X
    generalize WoolMath.mul a.toNat (WoolMath.pw 256 l.length) = A
    generalize WoolMath.mul b.toNat (WoolMath.pw 256 l.length) = B
    generalize WoolMath.mul c.toNat (WoolMath.pw 256 l.length) = C
    generalize WoolMath.pw 256 l.length = T
    generalize sp l = U
    generalize sp k = V
    generalize sp j = W
    apply Nat.eq_of_testBit_eq
    intro i
    simp only [Nat.testBit_xor]
    generalize X.testBit i = x
    generalize A.testBit i = a
    generalize B.testBit i = b
    generalize C.testBit i = c
    generalize T.testBit i = t
    generalize U.testBit i = u
    generalize V.testBit i = v
    generalize W.testBit i = w
    revert x a b c t u v w
    decide
  | [], _ :: _, _, h, _ => by simp at h
  | _ :: _, [], _, h, _ => by simp at h
  | [], [], _ :: _, _, h => by simp at h
  | _ :: _, _ :: _, [], _, h => by simp at h

theorem fp_linear (M : Nat) (h : 2 ≤ M) (l k j : List UInt8) (h1 : k.length = l.length) (h2 : j.length = l.length) : fp M (xor3 l k j) = fp M l ^^^ fp M k ^^^ fp M j := by
  unfold fp
  rw [sp_linear l k j h1 h2, WoolMath.pmod_xor _ _ _ (by omega), WoolMath.pmod_xor _ _ _ (by omega)]

theorem fp_parts (A B : Nat) (hA : A ≠ 0) (hB : B ≠ 0) (l : List UInt8) : WoolMath.pmod (fp (WoolMath.mul A B) l) A = fp A l := by
  unfold fp
  have hm : WoolMath.mul A B ≠ 0 := WoolMath.mul_ne A B hA hB
  obtain ⟨q, hq⟩ := WoolMath.pmod_eq (sp l) (WoolMath.mul A B)
  have e : sp l ^^^ WoolMath.pmod (sp l) (WoolMath.mul A B) = WoolMath.mul q (WoolMath.mul A B) := by
    generalize WoolMath.pmod (sp l) (WoolMath.mul A B) = r at *
    rw [hq, Nat.xor_assoc, Nat.xor_self, Nat.xor_zero]
  symm
  rw [WoolMath.pmod_eq_iff _ _ _ hA, e]
  exact WoolMath.dvd_mul_left _ (WoolMath.dvd_mul_self A B)

/-! ytkkecgamaahniaagreat# bursts -/

theorem mul_mod2 (a b : Nat) : WoolMath.mul a b % 2 = a % 2 * (b % 2) := by
  rw [WoolMath.mul_step]
  have hx : ∀ x y : Nat, (x ^^^ (2 * y)) % 2 = x % 2 := by
    intro x y
    have := Nat.xor_mod_two_pow (a := x) (b := 2 * y) (n := 1)
    rw [Nat.pow_one] at this
    rw [this, show 2 * y % 2 = 0 by omega, Nat.xor_zero]
  rw [hx]
  by_cases h : b % 2 = 1
  · rw [if_pos h, h]; omega
  · have : b % 2 = 0 := by omega
    rw [if_neg h, this]; omega

theorem odd_cancel (M : Nat) (hM : M % 2 = 1) (k : Nat) : ∀ a : Nat, WoolMath.dvd M (a * 2 ^ k) → WoolMath.dvd M a := by
  induction k with
  | zero => intro a h; simpa using h
  | succ k ih =>
    intro a h
    rw [Nat.pow_succ, ← Nat.mul_assoc] at h
    apply ih
    obtain ⟨q, hq⟩ := h
    have h2 := mul_mod2 q M
    rw [← hq, hM] at h2
    have hq2 : q % 2 = 0 := by omega
    have e : q = 2 * (q / 2) := by omega
    rw [e, WoolMath.even_mul] at hq
    exact ⟨q / 2, by omega⟩

theorem burst_differ (M : Nat) (hM : M % 2 = 1) (h16 : 65536 ≤ M) (X T k : Nat) (hT0 : T ≠ 0) (hT : T < 65536) : WoolMath.pmod (X ^^^ (T * 2 ^ k)) M ≠ WoolMath.pmod X M := by
  intro h
  rw [WoolMath.pmod_eq_iff _ _ _ (by omega)] at h
  have e : X ^^^ T * 2 ^ k ^^^ X = T * 2 ^ k := by
    rw [Nat.xor_comm X, Nat.xor_assoc, Nat.xor_self, Nat.xor_zero]
  rw [e] at h
  have hd := odd_cancel M hM k T h
  have hlog : 16 ≤ M.log2 := (Nat.le_log2 (by omega)).2 (by omega)
  have : T < 2 ^ M.log2 := Nat.lt_of_lt_of_le (show T < 2 ^ 16 by omega) (Nat.pow_le_pow_right (by omega) hlog)
  exact WoolMath.not_dvd_small hT0 this hd

end Go.Proofs.YtkkecgamaahniaaGreat

/-
  Plain mathematics of frames: numbers as bytes, the most significant first, and back; a frame, and what is read off a text. No condition but those that each says.
-/
namespace Go.Proofs.YtkkecgamaahniaaGreat

/-- n in k bytes, the most significant first -/
def nb (n : Nat) : Nat → List UInt8
  | 0 => []
  | k + 1 => nb (n / 256) k ++ [UInt8.ofNat n]

theorem nb_length (k : Nat) : ∀ n, (nb n k).length = k := by
  induction k with
  | zero => intro n; rfl
  | succ k ih => intro n; rw [nb, List.length_append, ih]; rfl

/-- the number whose bytes are l -/
def nv (l : List UInt8) : Nat := l.foldl (fun a c => a * 256 + c.toNat) 0

theorem nv_nil : nv [] = 0 := rfl
theorem nv_snoc (l : List UInt8) (c : UInt8) : nv (l ++ [c]) = nv l * 256 + c.toNat := by
  unfold nv
  rw [List.foldl_append]
  rfl

theorem nv_nb (k : Nat) : ∀ n, n < 256 ^ k → nv (nb n k) = n := by
  induction k with
  | zero => intro n h; simp at h; subst h; rfl
  | succ k ih =>
    intro n h
    rw [nb, nv_snoc, ih _ (by rw [Nat.pow_succ] at h; omega)]
    have : (UInt8.ofNat n).toNat = n % 256 := UInt8.toNat_ofNat'
    omega

theorem nv_lt (l : List UInt8) : nv l < 256 ^ l.length := by
  induction l using snoc_ind with
  | h0 => decide
  | hs l c ih =>
    rw [nv_snoc, List.length_append, List.length_singleton, Nat.pow_succ]
    have : c.toNat < 256 := c.toNat_lt
    omega

theorem nb_nv (l : List UInt8) : nb (nv l) l.length = l := by
  induction l using snoc_ind with
  | h0 => rfl
  | hs l c ih =>
    rw [nv_snoc, List.length_append, List.length_singleton, nb]
    have h : c.toNat < 256 := c.toNat_lt
    have h1 : (nv l * 256 + c.toNat) / 256 = nv l := by omega
    have h2 : UInt8.ofNat (nv l * 256 + c.toNat) = c := by
      apply UInt8.toNat_inj.1
      rw [UInt8.toNat_ofNat']
      omega
    rw [h1, h2, ih]

/-- the bytes of a frame ahead of its print -/
def hb (K : Nat) (b : List UInt8) : List UInt8 := nb K 1 ++ (nb b.length 2 ++ b)

/-- a frame -/
def frm (K : Nat) (b : List UInt8) : List UInt8 := hb K b ++ nb (fp 1073741907 (hb K b)) 4

theorem hb_length (K : Nat) (b : List UInt8) : (hb K b).length = b.length + 3 := by
  unfold hb
  rw [List.length_append, List.length_append, nb_length, nb_length]
  omega

theorem frm_length (K : Nat) (b : List UInt8) : (frm K b).length = b.length + 7 := by
  unfold frm
  rw [List.length_append, hb_length, nb_length]

/-- what Put answers: the bytes and the error -/
def putV (k : Int) (b : List UInt8) : List UInt8 × Nat :=
  if k < 1 ∨ 255 < k then ([], 1) else if 700 < b.length then ([], 2) else (frm k.toNat b, 0)

/-- how long the body is, as the text says -/
def bl (s : List UInt8) : Nat := nv ((s.drop 1).take 2)

/-- what Get answers: kind and body, how many bytes, the error -/
def getV (s : List UInt8) : (Nat × List UInt8) × Nat × Nat :=
  if s.length < 3 then ((0, []), 0, 7)
  else if nv (s.take 1) = 0 ∨ 700 < bl s then ((0, []), 0, 3)
  else if s.length < bl s + 7 then ((0, []), 0, 7)
  else if nv ((s.drop (3 + bl s)).take 4) ≠ fp 1073741907 (s.take (3 + bl s)) then ((0, []), 0, 6)
  else ((nv (s.take 1), (s.drop 3).take (bl s)), bl s + 7, 0)

theorem fp30 (l : List UInt8) : fp 1073741907 l < 1073741824 := fp_le _ (by omega) (by omega) l

theorem bl_lt (s : List UInt8) : bl s < 65536 := by
  have := nv_lt ((s.drop 1).take 2)
  have h : ((s.drop 1).take 2).length ≤ 2 := by rw [List.length_take]; omega
  have h2 : 256 ^ ((s.drop 1).take 2).length ≤ 256 ^ 2 := Nat.pow_le_pow_right (by omega) h
  exact Nat.lt_of_lt_of_le this h2

theorem kind_lt (s : List UInt8) : nv (s.take 1) < 256 := by
  have := nv_lt (s.take 1)
  have h : (s.take 1).length ≤ 1 := by rw [List.length_take]; omega
  have h2 : 256 ^ (s.take 1).length ≤ 256 ^ 1 := Nat.pow_le_pow_right (by omega) h
  exact Nat.lt_of_lt_of_le this h2

/-- the head and the body of a text that is long enough -/
theorem hb_of (s : List UInt8) (h : 3 + bl s ≤ s.length) : hb (nv (s.take 1)) ((s.drop 3).take (bl s)) = s.take (3 + bl s) := by
  have h1 : nb (nv (s.take 1)) 1 = s.take 1 := by
    have := nb_nv (s.take 1)
    rwa [show (s.take 1).length = 1 by rw [List.length_take]; omega] at this
  have h2 : nb (bl s) 2 = (s.drop 1).take 2 := by
    have := nb_nv ((s.drop 1).take 2)
    rwa [show ((s.drop 1).take 2).length = 2 by rw [List.length_take, List.length_drop]; omega] at this
  have h3 : ((s.drop 3).take (bl s)).length = bl s := by rw [List.length_take, List.length_drop]; omega
  unfold hb
  rw [h3, h1, h2, show 3 + bl s = 1 + (2 + bl s) by omega, List.take_add, List.take_add, List.drop_drop]

/-- the whole frame is there just if its last four bytes are the print -/
theorem frm_of (s : List UInt8) (h : 7 + bl s ≤ s.length) : frm (nv (s.take 1)) ((s.drop 3).take (bl s)) = s.take (bl s + 7) ↔ nv ((s.drop (3 + bl s)).take 4) = fp 1073741907 (s.take (3 + bl s)) := by
  have hl : ((s.drop (3 + bl s)).take 4).length = 4 := by rw [List.length_take, List.length_drop]; omega
  have hs : s.take (bl s + 7) = s.take (3 + bl s) ++ (s.drop (3 + bl s)).take 4 := by
    rw [show bl s + 7 = (3 + bl s) + 4 by omega, List.take_add]
  unfold frm
  rw [hb_of s (by omega), hs, List.append_cancel_left_eq]
  constructor
  · intro e
    rw [← e]
    exact nv_nb 4 _ (Nat.lt_of_lt_of_le (fp30 _) (by decide))
  · intro e
    have := nb_nv ((s.drop (3 + bl s)).take 4)
    rw [hl, e] at this
    exact this

/-- the head of a frame, whatever stands behind it -/
theorem frm_head (K : Nat) (b more : List UInt8) (hK : K < 256) (hb' : b.length < 65536) : nv ((frm K b ++ more).take 1) = K ∧ bl (frm K b ++ more) = b.length ∧ ((frm K b ++ more).drop 3).take b.length = b ∧
    (frm K b ++ more).take (3 + b.length) = hb K b ∧ ((frm K b ++ more).drop (3 + b.length)).take 4 = nb (fp 1073741907 (hb K b)) 4 := by
  have e1 : frm K b ++ more = nb K 1 ++ (nb b.length 2 ++ (b ++ (nb (fp 1073741907 (hb K b)) 4 ++ more))) := by
    unfold frm
    conv => lhs; lhs; lhs; unfold hb
    simp only [List.append_assoc]
  have e2 : frm K b ++ more = hb K b ++ (nb (fp 1073741907 (hb K b)) 4 ++ more) := by unfold frm; rw [List.append_assoc]
  have t1 : (frm K b ++ more).take 1 = nb K 1 := by rw [e1]; exact List.take_left' (nb_length 1 K)
  have d1 : (frm K b ++ more).drop 1 = nb b.length 2 ++ (b ++ (nb (fp 1073741907 (hb K b)) 4 ++ more)) := by rw [e1]; exact List.drop_left' (nb_length 1 K)
  have t2 : ((frm K b ++ more).drop 1).take 2 = nb b.length 2 := by rw [d1]; exact List.take_left' (nb_length 2 _)
  have d3 : (frm K b ++ more).drop 3 = b ++ (nb (fp 1073741907 (hb K b)) 4 ++ more) := by
    rw [show 3 = 1 + 2 from rfl, ← List.drop_drop, d1]; exact List.drop_left' (nb_length 2 _)
  refine ⟨by rw [t1]; exact nv_nb 1 K (by omega), by unfold bl; rw [t2]; exact nv_nb 2 _ (by omega), by rw [d3]; exact List.take_left' rfl, ?_, ?_⟩
  · rw [e2]; exact List.take_left' (by rw [hb_length]; omega)
  · rw [e2, List.drop_left' (by rw [hb_length]; omega)]; exact List.take_left' (nb_length 4 _)

theorem get_put (K : Nat) (b more : List UInt8) (h0 : 1 ≤ K) (h1 : K ≤ 255) (h2 : b.length ≤ 700) : getV (frm K b ++ more) = ((K, b), b.length + 7, 0) := by
  obtain ⟨a1, a2, a3, a4, a5⟩ := frm_head K b more (by omega) (by omega)
  have hl : (frm K b ++ more).length = b.length + 7 + more.length := by rw [List.length_append, frm_length]
  unfold getV
  rw [a1, a2, a3, a4, a5, nv_nb 4 _ (Nat.lt_of_lt_of_le (fp30 _) (by decide)), hl, if_neg (by omega), if_neg (by omega), if_neg (by omega), if_neg (by simp)]

theorem get_cut (K : Nat) (b : List UInt8) (k : Nat) (h0 : 1 ≤ K) (h1 : K ≤ 255) (h2 : b.length ≤ 700) (hk : k < b.length + 7) : getV ((frm K b).take k) = ((0, []), 0, 7) := by
  obtain ⟨a1, a2, _⟩ := frm_head K b [] (by omega) (by omega)
  rw [List.append_nil] at a1 a2
  have hl : ((frm K b).take k).length = k := by rw [List.length_take, frm_length]; omega
  unfold getV
  rw [hl]
  by_cases h3 : k < 3
  · rw [if_pos h3]
  · have b1 : ((frm K b).take k).take 1 = (frm K b).take 1 := by rw [List.take_take]; congr 1; omega
    have b2 : bl ((frm K b).take k) = bl (frm K b) := by
      unfold bl
      rw [List.drop_take, List.take_take]
      congr 2
      omega
    rw [if_neg h3, b1, b2, a1, a2, if_neg (by omega), if_pos (by omega)]

theorem get_err (s : List UInt8) (h : (getV s).2.2 ≠ 0) : (getV s).1 = (0, []) ∧ (getV s).2.1 = 0 := by
  unfold getV at h ⊢
  repeat' split
  all_goals first | exact ⟨rfl, rfl⟩ | skip
  simp_all

theorem get_ok (s : List UInt8) (h : (getV s).2.2 = 0) : ∃ K b, 1 ≤ K ∧ K ≤ 255 ∧ b.length ≤ 700 ∧ b.length + 7 ≤ s.length ∧ getV s = ((K, b), b.length + 7, 0) ∧ s.take (b.length + 7) = frm K b := by
  by_cases h1 : s.length < 3
  · unfold getV at h; rw [if_pos h1] at h; simp at h
  by_cases h2 : nv (s.take 1) = 0 ∨ 700 < bl s
  · unfold getV at h; rw [if_neg h1, if_pos h2] at h; simp at h
  by_cases h3 : s.length < bl s + 7
  · unfold getV at h; rw [if_neg h1, if_neg h2, if_pos h3] at h; simp at h
  by_cases h4 : nv ((s.drop (3 + bl s)).take 4) ≠ fp 1073741907 (s.take (3 + bl s))
  · unfold getV at h; rw [if_neg h1, if_neg h2, if_neg h3, if_pos h4] at h; simp at h
  have hlen : ((s.drop 3).take (bl s)).length = bl s := by rw [List.length_take, List.length_drop]; omega
  have hk := kind_lt s
  refine ⟨nv (s.take 1), (s.drop 3).take (bl s), by omega, by omega, by omega, by omega, ?_, ?_⟩
  · rw [hlen]; unfold getV; rw [if_neg h1, if_neg h2, if_neg h3, if_neg h4]
  · rw [hlen]; exact ((frm_of s (by omega)).2 (by simpa using h4)).symm

theorem frm_inj {K J : Nat} {b c : List UInt8} (h0 : 1 ≤ K) (h1 : K ≤ 255) (h2 : b.length ≤ 700) (h3 : 1 ≤ J) (h4 : J ≤ 255) (h5 : c.length ≤ 700) (h : frm K b = frm J c) : K = J ∧ b = c := by
  have g1 := get_put K b [] h0 h1 h2
  have g2 := get_put J c [] h3 h4 h5
  rw [h, g2] at g1
  simp at g1
  exact ⟨g1.1.1.symm, g1.1.2.symm⟩

end Go.Proofs.YtkkecgamaahniaaGreat
