/-
  Plain mathematics: a number's binary digits as bytes, their value, Elias gamma and delta codes, and how they are read. Nothing of the program.
-/
namespace WoolBits

/-- a digit as a byte -/
def bit (n : Nat) : UInt8 := if n % 2 = 0 then 48 else 49

/-- the binary digits of n, most significant first -/
def dg (n : Nat) : List UInt8 := if _h : n < 2 then [bit n] else dg (n / 2) ++ [bit n]
  termination_by n
  decreasing_by omega

theorem dg_small (n : Nat) (h : n < 2) : dg n = [bit n] := by rw [dg, dif_pos h]
theorem dg_step (n : Nat) (h : 2 ≤ n) : dg n = dg (n / 2) ++ [bit n] := by rw [dg, dif_neg (by omega)]

/-- how many digits -/
def len (n : Nat) : Nat := (dg n).length

theorem len_small (n : Nat) (h : n < 2) : len n = 1 := by unfold len; rw [dg_small n h]; rfl
theorem len_step (n : Nat) (h : 2 ≤ n) : len n = len (n / 2) + 1 := by unfold len; rw [dg_step n h]; simp

theorem len_pos (n : Nat) : 1 ≤ len n := by
  by_cases h : n < 2
  · rw [len_small n h]; omega
  · rw [len_step n (by omega)]; omega

theorem len_lt : ∀ (k n : Nat), n < 2 ^ k → 1 ≤ k → len n ≤ k
  | 0, _, _, h => by omega
  | k + 1, n, hn, _ => by
    by_cases h : n < 2
    · rw [len_small n h]; omega
    · rw [len_step n (by omega)]
      rcases Nat.eq_zero_or_pos k with rfl | hk
      · simp at hn; omega
      · have := len_lt k (n / 2) (by rw [Nat.pow_succ] at hn; omega) hk
        omega

theorem lt_pow_len (n : Nat) : n < 2 ^ len n := by
  induction n using Nat.strongRecOn with
  | ind n ih =>
    by_cases h : n < 2
    · rw [len_small n h]; omega
    · rw [len_step n (by omega), Nat.pow_succ]
      have := ih (n / 2) (by omega)
      omega

theorem pow_len_le (n : Nat) (h1 : 1 ≤ n) : 2 ^ (len n - 1) ≤ n := by
  induction n using Nat.strongRecOn with
  | ind n ih =>
    by_cases h : n < 2
    · rw [len_small n h]; simpa using h1
    · rw [len_step n (by omega)]
      have h2 := ih (n / 2) (by omega) (by omega)
      have h3 := len_pos (n / 2)
      rw [show len (n / 2) + 1 - 1 = (len (n / 2) - 1) + 1 by omega, Nat.pow_succ]
      omega

theorem len_mono {a b : Nat} (h : a ≤ b) : len a ≤ len b := len_lt _ _ (Nat.lt_of_le_of_lt h (lt_pow_len b)) (len_pos b)

theorem len_ge (k n : Nat) (h : 2 ^ k ≤ n) : k + 1 ≤ len n := by
  apply Nat.le_of_not_lt
  intro hlt
  have h1 := lt_pow_len n
  have h2 : 2 ^ len n ≤ 2 ^ k := Nat.pow_le_pow_right (by omega) (by omega)
  omega

theorem bit_or (n : Nat) : bit n = 48 ∨ bit n = 49 := by unfold bit; split <;> simp

theorem dg_bits (n : Nat) : ∀ c ∈ dg n, c = 48 ∨ c = 49 := by
  induction n using Nat.strongRecOn with
  | ind n ih =>
    by_cases h : n < 2
    · rw [dg_small n h]; intro c hc; rw [List.mem_singleton] at hc; subst hc; exact bit_or n
    · rw [dg_step n (by omega)]
      intro c hc
      rcases List.mem_append.1 hc with hc | hc
      · exact ih (n / 2) (by omega) c hc
      · rw [List.mem_singleton] at hc; subst hc; exact bit_or n

theorem dg_head (n : Nat) (h1 : 1 ≤ n) : ∃ l, dg n = 49 :: l := by
  induction n using Nat.strongRecOn with
  | ind n ih =>
    by_cases h : n < 2
    · have : n = 1 := by omega
      subst this; exact ⟨[], by rw [dg_small 1 (by omega)]; rfl⟩
    · obtain ⟨l, hl⟩ := ih (n / 2) (by omega) (by omega)
      exact ⟨l ++ [bit n], by rw [dg_step n (by omega), hl]; rfl⟩

/-- the number whose digits are those of a, then l -/
def val (a : Nat) (l : List UInt8) : Nat := l.foldl (fun a c => 2 * a + (c.toNat - 48)) a

theorem val_nil (a : Nat) : val a [] = a := rfl
theorem val_append (a : Nat) (l m : List UInt8) : val a (l ++ m) = val (val a l) m := List.foldl_append ..
theorem val_snoc (a : Nat) (l : List UInt8) (c : UInt8) : val a (l ++ [c]) = 2 * val a l + (c.toNat - 48) := by rw [val_append]; rfl

theorem bit_val (n : Nat) : (bit n).toNat - 48 = n % 2 := by
  unfold bit
  split
  · rename_i h; rw [h]; rfl
  · rename_i h
    have : n % 2 = 1 := by omega
    rw [this]; rfl

theorem val_dg (n : Nat) : val 0 (dg n) = n := by
  induction n using Nat.strongRecOn with
  | ind n ih =>
    by_cases h : n < 2
    · rw [dg_small n h, ← List.nil_append [bit n], val_snoc, val_nil, bit_val]; omega
    · rw [dg_step n (by omega), val_snoc, ih (n / 2) (by omega), bit_val]; omega

theorem val_one (n : Nat) (h1 : 1 ≤ n) : val 1 ((dg n).drop 1) = n := by
  obtain ⟨l, hl⟩ := dg_head n h1
  have := val_dg n
  rw [hl] at this ⊢
  exact this

theorem val_bound : ∀ (l : List UInt8) (a : Nat), (∀ c ∈ l, c = 48 ∨ c = 49) → val a l + 1 ≤ (a + 1) * 2 ^ l.length
  | [], a, _ => by simp [val]
  | c :: l, a, h => by
    have hc := h c (List.mem_cons_self ..)
    have hl := val_bound l (2 * a + (c.toNat - 48)) (fun x hx => h x (List.mem_cons_of_mem _ hx))
    have e : val a (c :: l) = val (2 * a + (c.toNat - 48)) l := rfl
    have hb : c.toNat - 48 ≤ 1 := by rcases hc with rfl | rfl <;> decide
    rw [e, List.length_cons, Nat.pow_succ]
    refine Nat.le_trans hl ?_
    rw [Nat.mul_comm (2 ^ l.length) 2, ← Nat.mul_assoc]
    exact Nat.mul_le_mul_right _ (by omega)

/-- the Elias gamma code -/
def gam (n : Nat) : List UInt8 := List.replicate (len n - 1) 48 ++ dg n

/-- the Elias delta code -/
def del (n : Nat) : List UInt8 := gam (len n) ++ (dg n).drop 1

theorem gam_length (n : Nat) : (gam n).length = 2 * len n - 1 := by
  have := len_pos n
  simp only [gam, List.length_append, List.length_replicate]
  show len n - 1 + len n = _
  omega

theorem del_length (n : Nat) : (del n).length = (2 * len (len n) - 1) + (len n - 1) := by
  simp only [del, List.length_append, List.length_drop, gam_length]
  rfl

/-- are they bits -/
def isB (l : List UInt8) : Bool := l.all fun c => c == 48 || c == 49

theorem isB_iff (l : List UInt8) : isB l = true ↔ ∀ c ∈ l, c = 48 ∨ c = 49 := by simp [isB]
theorem isB_append (l m : List UInt8) : isB (l ++ m) = (isB l && isB m) := by simp [isB]
theorem isB_dg (n : Nat) : isB (dg n) = true := (isB_iff _).2 (dg_bits n)
theorem isB_gam (n : Nat) : isB (gam n) = true := by
  rw [gam, isB_append, isB_dg, Bool.and_true, isB_iff]
  intro c hc
  exact .inl (List.eq_of_mem_replicate hc)
theorem isB_drop (l : List UInt8) (k : Nat) (h : isB l = true) : isB (l.drop k) = true := (isB_iff _).2 fun c hc => (isB_iff _).1 h c (List.mem_of_mem_drop hc)
theorem isB_take (l : List UInt8) (k : Nat) (h : isB l = true) : isB (l.take k) = true := (isB_iff _).2 fun c hc => (isB_iff _).1 h c (List.mem_of_mem_take hc)
theorem isB_del (n : Nat) : isB (del n) = true := by rw [del, isB_append, isB_gam, isB_drop _ _ (isB_dg n)]; rfl

/-- how many zeros it begins with -/
def zs (l : List UInt8) : Nat := (l.takeWhile (· == 48)).length

theorem zs_le (l : List UInt8) : zs l ≤ l.length := by
  unfold zs
  exact List.IsPrefix.length_le (List.takeWhile_prefix _)

theorem zs_gam (n : Nat) (h1 : 1 ≤ n) (m : List UInt8) : zs (gam n ++ m) = len n - 1 := by
  obtain ⟨l, hl⟩ := dg_head n h1
  unfold zs gam
  rw [hl, List.append_assoc, List.takeWhile_append_of_pos (fun c hc => by rw [List.eq_of_mem_replicate hc]; rfl)]
  simp

/-- reading a gamma code: the number, how many bits, the error -/
def rg (l : List UInt8) : Nat × Nat × Nat :=
  if isB l = false then (0, 0, 3) else if 31 ≤ zs l then (0, 0, 2) else if l.length < 2 * zs l + 1 then (0, 0, 7)
  else (val 0 ((l.drop (zs l)).take (zs l + 1)), 2 * zs l + 1, 0)

/-- reading a delta code -/
def rd (l : List UInt8) : Nat × Nat × Nat :=
  if (rg l).2.2 ≠ 0 then (0, 0, (rg l).2.2) else if 31 < (rg l).1 then (0, 0, 2) else if l.length < (rg l).2.1 + (rg l).1 - 1 then (0, 0, 7)
  else (val 1 ((l.drop (rg l).2.1).take ((rg l).1 - 1)), (rg l).2.1 + (rg l).1 - 1, 0)

theorem rg_gam (n : Nat) (h1 : 1 ≤ n) (h2 : n < 2147483648) (m : List UInt8) (hm : isB m = true) : rg (gam n ++ m) = (n, (gam n).length, 0) := by
  have hL := len_pos n
  have hL2 : len n ≤ 31 := len_lt 31 n (by simpa using h2) (by omega)
  have hz := zs_gam n h1 m
  have hg := gam_length n
  unfold rg
  rw [if_neg (by rw [isB_append, isB_gam, hm]; decide), hz, if_neg (by omega), if_neg (by rw [List.length_append, hg]; omega)]
  have hd : ((gam n ++ m).drop (len n - 1)).take (len n - 1 + 1) = dg n := by
    unfold gam
    rw [List.append_assoc, List.drop_append, List.drop_of_length_le (by simp), List.length_replicate, Nat.sub_self, List.drop_zero, List.nil_append, List.take_append_of_le_length (by show _ ≤ len n; omega), List.take_of_length_le (by show len n ≤ _; omega)]
  rw [hd, val_dg, hg]
  congr 2
  omega

theorem rd_del (n : Nat) (h1 : 1 ≤ n) (h2 : n < 2147483648) (m : List UInt8) (hm : isB m = true) : rd (del n ++ m) = (n, (del n).length, 0) := by
  have hL := len_pos n
  have hL2 : len n ≤ 31 := len_lt 31 n (by simpa using h2) (by omega)
  have hD : ((dg n).drop 1).length = len n - 1 := by rw [List.length_drop]; rfl
  have hr : rg (del n ++ m) = (len n, (gam (len n)).length, 0) := by
    unfold del
    rw [List.append_assoc]
    exact rg_gam (len n) hL (by omega) _ (by rw [isB_append, isB_drop _ _ (isB_dg n), hm]; rfl)
  have hl : (del n ++ m).length = (gam (len n)).length + (len n - 1) + m.length := by
    simp only [del, List.length_append]
    rw [hD]
  unfold rd
  rw [hr]
  simp only
  rw [if_neg (by decide), if_neg (by omega), if_neg (by omega)]
  have hd : ((del n ++ m).drop (gam (len n)).length).take (len n - 1) = (dg n).drop 1 := by
    unfold del
    rw [List.append_assoc, List.drop_left, List.take_append_of_le_length (by omega), List.take_of_length_le (by omega)]
  rw [hd, val_one n h1]
  congr 2
  unfold del
  rw [List.length_append, hD]
  omega

theorem rg_form (l m : List UInt8) (hm : isB m = false) : rg (l ++ m) = (0, 0, 3) := by
  unfold rg
  rw [if_pos (by rw [isB_append, hm, Bool.and_false])]

theorem rd_form (l m : List UInt8) (hm : isB m = false) : rd (l ++ m) = (0, 0, 3) := by
  unfold rd
  rw [rg_form l m hm]
  rfl

theorem gam_prefix (a b : Nat) (a1 : 1 ≤ a) (a2 : a < 2147483648) (b1 : 1 ≤ b) (b2 : b < 2147483648) (h : gam a <+: gam b) : a = b := by
  obtain ⟨m, hm⟩ := h
  have hb : isB m = true := by
    have := isB_gam b
    rw [← hm, isB_append, Bool.and_eq_true] at this
    exact this.2
  have e1 := rg_gam a a1 a2 m hb
  have e2 := rg_gam b b1 b2 [] rfl
  rw [hm] at e1
  rw [List.append_nil] at e2
  exact congrArg Prod.fst (e1.symm.trans e2)

theorem del_prefix (a b : Nat) (a1 : 1 ≤ a) (a2 : a < 2147483648) (b1 : 1 ≤ b) (b2 : b < 2147483648) (h : del a <+: del b) : a = b := by
  obtain ⟨m, hm⟩ := h
  have hb : isB m = true := by
    have := isB_del b
    rw [← hm, isB_append, Bool.and_eq_true] at this
    exact this.2
  have e1 := rd_del a a1 a2 m hb
  have e2 := rd_del b b1 b2 [] rfl
  rw [hm] at e1
  rw [List.append_nil] at e2
  exact congrArg Prod.fst (e1.symm.trans e2)

theorem gam_mono {a b : Nat} (h : a ≤ b) : (gam a).length ≤ (gam b).length := by
  rw [gam_length, gam_length]
  have := len_mono h
  omega

theorem del_mono {a b : Nat} (h : a ≤ b) : (del a).length ≤ (del b).length := by
  rw [del_length, del_length]
  have := len_mono h
  have := len_mono this
  omega

theorem len_len (n : Nat) (h1 : 5 ≤ n) (h2 : n ≤ 31) : 2 * len n - 1 ≤ n := by
  by_cases h : n < 8
  · have := len_lt 3 n (by simpa using h) (by omega); omega
  · by_cases h : n < 16
    · have := len_lt 4 n (by simpa using h) (by omega); omega
    · have := len_lt 5 n (by simp; omega) (by omega); omega

theorem del_le_gam (n : Nat) (h1 : 16 ≤ n) (h2 : n < 2147483648) : (del n).length ≤ (gam n).length := by
  rw [gam_length, del_length]
  have hL2 : len n ≤ 31 := len_lt 31 n (by simpa using h2) (by omega)
  have hL := len_ge 4 n (by simpa using h1)
  have := len_len (len n) (by omega) hL2
  omega

end WoolBits
