/-
  Plain mathematics: bits packed into bytes with a 1 and zeros behind them, and unpacked again. Nothing of the program.
-/
import Derived.Test.YtloiciinmdmdkaaGreatDoorPackM
namespace WoolPack
open WoolBits

/-- how many zeros fill whole bytes -/
def pad (n : Nat) : Nat := (8 - (n + 1) % 8) % 8

/-- the bits with a 1 and zeros behind them -/
def fil (s : List UInt8) : List UInt8 := s ++ 49 :: List.replicate (pad s.length) 48

theorem fil_length (s : List UInt8) : (fil s).length = s.length + 1 + pad s.length := by
  simp [fil]; omega

theorem pad_lt (n : Nat) : pad n < 8 := by unfold pad; omega
theorem pad_mod (n : Nat) : (n + 1 + pad n) % 8 = 0 := by unfold pad; omega

theorem isB_zeros (n : Nat) : isB (List.replicate n 48) = true := by
  rw [isB_iff]; intro c hc; exact .inl (List.eq_of_mem_replicate hc)

theorem isB_fil (s : List UInt8) (h : isB s = true) : isB (fil s) = true := by
  unfold fil
  rw [isB_append, h, Bool.true_and, isB_iff]
  intro c hc
  rcases List.mem_cons.1 hc with rfl | hc
  · exact .inr rfl
  · exact .inl (List.eq_of_mem_replicate hc)

/-- eight bits after eight as bytes -/
def by8 : Nat → List UInt8 → List UInt8
  | 0, _ => []
  | k + 1, s => UInt8.ofNat (val 0 (s.take 8)) :: by8 k (s.drop 8)

theorem by8_length : ∀ (k : Nat) (s : List UInt8), (by8 k s).length = k
  | 0, _ => rfl
  | k + 1, s => by rw [by8, List.length_cons, by8_length k]

/-- the bytes of bits -/
def byts (s : List UInt8) : List UInt8 := by8 ((fil s).length / 8) (fil s)

theorem byts_length (s : List UInt8) : (byts s).length = (s.length + 1 + pad s.length) / 8 := by
  unfold byts; rw [by8_length, fil_length]

/-- all bits of bytes -/
def al : List UInt8 → List UInt8
  | [] => []
  | c :: t => b8 c.toNat ++ al t

theorem al_length : ∀ t : List UInt8, (al t).length = 8 * t.length
  | [] => rfl
  | c :: t => by rw [al, List.length_append, b8_length _ (UInt8.toNat_lt c), al_length t, List.length_cons]; omega

theorem isB_al : ∀ t : List UInt8, isB (al t) = true
  | [] => rfl
  | c :: t => by rw [al, isB_append, isB_b8, isB_al t]; rfl

theorem al_append : ∀ t u : List UInt8, al (t ++ u) = al t ++ al u
  | [], _ => rfl
  | c :: t, u => by rw [List.cons_append, al, al, al_append t u, List.append_assoc]

theorem by8_al : ∀ t : List UInt8, by8 t.length (al t) = t
  | [] => rfl
  | c :: t => by
    have h8 := b8_length c.toNat (UInt8.toNat_lt c)
    rw [List.length_cons, by8, al, List.take_append_of_le_length (by omega), List.take_of_length_le (by omega), val_b8 _ (UInt8.toNat_lt c), List.drop_append, List.drop_of_length_le (by omega), h8, List.nil_append, List.drop_zero, by8_al t, UInt8.ofNat_toNat]

theorem al_by8 : ∀ (k : Nat) (s : List UInt8), s.length = 8 * k → isB s = true → al (by8 k s) = s
  | 0, s, h, _ => by
    have : s = [] := List.eq_nil_of_length_eq_zero (by omega)
    subst this; rfl
  | k + 1, s, h, hb => by
    have hl : (s.take 8).length = 8 := by rw [List.length_take]; omega
    have hv := val8_lt (s.take 8) (by omega) (isB_take _ _ hb)
    rw [by8, al, UInt8.toNat_ofNat_of_lt' (by simpa using hv), b8_val _ hl (isB_take _ _ hb), al_by8 k (s.drop 8) (by rw [List.length_drop]; omega) (isB_drop _ _ hb), List.take_append_drop]

theorem al_byts (s : List UInt8) (h : isB s = true) : al (byts s) = fil s := by
  unfold byts
  refine al_by8 _ _ ?_ (isB_fil s h)
  have := fil_length s
  have := pad_mod s.length
  omega

/-- what stands before the last 1 -/
def ul (l : List UInt8) : List UInt8 := ((l.reverse.dropWhile (· == 48)).drop 1).reverse

theorem ul_of (p : List UInt8) (z : Nat) : ul (p ++ 49 :: List.replicate z 48) = p := by
  have e : (p ++ 49 :: List.replicate z 48).reverse = List.replicate z 48 ++ 49 :: p.reverse := by simp
  have d : ∀ z : Nat, (List.replicate z (48 : UInt8) ++ 49 :: p.reverse).dropWhile (· == 48) = 49 :: p.reverse := by
    intro z
    induction z with
    | zero => rw [List.replicate_zero, List.nil_append, List.dropWhile_cons, if_neg (by decide)]
    | succ z ih => rw [List.replicate_succ, List.cons_append, List.dropWhile_cons, if_pos (by decide), ih]
  unfold ul
  rw [e, d]
  simp

/-- bits have a last 1, or are zeros -/
theorem last_one : ∀ (n : Nat) (l : List UInt8), l.length = n → isB l = true → l = List.replicate n 48 ∨ ∃ p z, l = p ++ 49 :: List.replicate z 48
  | 0, l, h, _ => .inl (by rw [List.eq_nil_of_length_eq_zero h]; rfl)
  | n + 1, l, h, hb => by
    have hne : l ≠ [] := by intro e; rw [e] at h; simp at h
    obtain ⟨q, c, rfl⟩ : ∃ q c, l = q ++ [c] := ⟨l.dropLast, l.getLast hne, (List.dropLast_concat_getLast hne).symm⟩
    have hq : q.length = n := by simpa using h
    rw [isB_append, Bool.and_eq_true] at hb
    rcases (isB_iff _).1 hb.2 c (List.mem_singleton.2 rfl) with rfl | rfl
    · rcases last_one n q hq hb.1 with e | ⟨p, z, e⟩
      · left; rw [e, List.replicate_succ']
      · right; exact ⟨p, z + 1, by rw [e, List.replicate_succ', List.append_assoc]; rfl⟩
    · right; exact ⟨q, 0, rfl⟩

theorem b8_zero : b8 0 = List.replicate 8 48 := by
  simp [b8, dg_step, dg_small, bit, List.replicate]

/-- the last byte is 0 where eight zeros or more stand behind the last 1 -/
theorem last_zero (t p : List UInt8) (z : Nat) (h : al t = p ++ 49 :: List.replicate z 48) : t ≠ [] ∧ (t.getLast? = some 0 ↔ 8 ≤ z) := by
  have hne : t ≠ [] := by
    intro e
    rw [e] at h
    have := congrArg List.length h
    simp [al] at this
  refine ⟨hne, ?_⟩
  obtain ⟨q, c, rfl⟩ : ∃ q c, t = q ++ [c] := ⟨t.dropLast, t.getLast hne, (List.dropLast_concat_getLast hne).symm⟩
  have h8 := b8_length c.toNat (UInt8.toNat_lt c)
  have ha : al (q ++ [c]) = al q ++ b8 c.toNat := by rw [al_append]; show al q ++ (b8 c.toNat ++ []) = _; rw [List.append_nil]
  rw [ha] at h
  have hl := congrArg List.length h
  rw [List.length_append, List.length_append, List.length_cons, List.length_replicate, h8] at hl
  have hd := congrArg (List.drop (al q).length) h
  rw [List.drop_left] at hd
  have hgl : (q ++ [c]).getLast? = some c := by simp
  rw [hgl, Option.some.injEq]
  constructor
  · intro hc
    subst hc
    apply Nat.le_of_not_lt
    intro hz
    rw [show (0 : UInt8).toNat = 0 from rfl, b8_zero, List.drop_append_of_le_length (by omega)] at hd
    have hm : (49 : UInt8) ∈ List.replicate 8 (48 : UInt8) := by
      rw [hd]
      exact List.mem_append_right _ (List.mem_cons_self ..)
    exact absurd (List.eq_of_mem_replicate hm) (by decide)
  · intro hz
    rw [List.drop_append, List.drop_of_length_le (by omega), List.nil_append, show (al q).length - p.length = ((al q).length - p.length - 1) + 1 by omega, List.drop_succ_cons, List.drop_replicate] at hd
    have hv := val_b8 c.toNat (UInt8.toNat_lt c)
    rw [hd, show z - ((al q).length - p.length - 1) = 8 by omega] at hv
    exact UInt8.toNat_inj.1 (by rw [← hv]; decide +kernel)

/-- what the bytes stand for, and the error -/
def unb (t : List UInt8) : List UInt8 × Nat := if t.getLast? = none ∨ t.getLast? = some 0 then ([], 3) else (ul (al t), 0)

theorem al_split (t : List UInt8) (h : ¬ (t.getLast? = none ∨ t.getLast? = some 0)) : ∃ p z, al t = p ++ 49 :: List.replicate z 48 ∧ z < 8 ∧ ul (al t) = p ∧ fil p = al t ∧ byts p = t := by
  have hne : t ≠ [] := fun e => h (.inl (by rw [e]; rfl))
  rcases last_one _ (al t) rfl (isB_al t) with e | ⟨p, z, e⟩
  · exfalso
    apply h
    right
    obtain ⟨q, c, rfl⟩ : ∃ q c, t = q ++ [c] := ⟨t.dropLast, t.getLast hne, (List.dropLast_concat_getLast hne).symm⟩
    have h8 := b8_length c.toNat (UInt8.toNat_lt c)
    have ha : al (q ++ [c]) = al q ++ b8 c.toNat := by rw [al_append]; show al q ++ (b8 c.toNat ++ []) = _; rw [List.append_nil]
    have hd := congrArg (List.drop (al q).length) e
    rw [ha, List.drop_left, List.drop_replicate, List.length_append, h8, show (al q).length + 8 - (al q).length = 8 by omega] at hd
    have hv := val_b8 c.toNat (UInt8.toNat_lt c)
    rw [hd] at hv
    have hc : c = 0 := UInt8.toNat_inj.1 (by rw [← hv]; decide +kernel)
    rw [hc]; simp
  · obtain ⟨_, h2⟩ := last_zero t p z e
    have hz : z < 8 := by
      apply Nat.lt_of_not_le
      intro hz
      exact h (.inr (h2.2 hz))
    have hlen := congrArg List.length e
    rw [al_length, List.length_append, List.length_cons, List.length_replicate] at hlen
    have hp : pad p.length = z := by unfold pad; omega
    have hf : fil p = al t := by unfold fil; rw [hp, e]
    refine ⟨p, z, e, hz, by rw [e, ul_of], hf, ?_⟩
    unfold byts
    rw [hf, al_length, show 8 * t.length / 8 = t.length by omega, by8_al]

/-- of a wrong end nothing comes back -/
theorem byts_not (t p : List UInt8) (z : Nat) (e : al t = p ++ 49 :: List.replicate z 48) (h : t.getLast? = none ∨ t.getLast? = some 0) : byts p ≠ t := by
  obtain ⟨h1, h2⟩ := last_zero t p z e
  have hz : 8 ≤ z := by
    rcases h with h | h
    · exact absurd (List.getLast?_eq_none_iff.1 h) h1
    · exact h2.1 h
  intro hb
  have hl := congrArg List.length hb
  rw [byts_length] at hl
  have hlen := congrArg List.length e
  rw [al_length, List.length_append, List.length_cons, List.length_replicate] at hlen
  have := pad_lt p.length
  omega

theorem unb_byts (s : List UInt8) (h : isB s = true) : unb (byts s) = (s, 0) := by
  have e := al_byts s h
  have e2 : al (byts s) = s ++ 49 :: List.replicate (pad s.length) 48 := e
  obtain ⟨h1, h2⟩ := last_zero _ _ _ e2
  have hp := pad_lt s.length
  unfold unb
  rw [if_neg, e2, ul_of]
  rintro (h3 | h3)
  · exact h1 (List.getLast?_eq_none_iff.1 h3)
  · exact absurd (h2.1 h3) (by omega)

theorem isB_ul (t : List UInt8) (h : ¬ (t.getLast? = none ∨ t.getLast? = some 0)) : isB (ul (al t)) = true := by
  obtain ⟨p, z, e, _, h3, _⟩ := al_split t h
  have hb := isB_al t
  rw [e, isB_append, Bool.and_eq_true] at hb
  rw [h3]
  exact hb.1

/-- the bytes of what is read are what was read -/
theorem byts_unb (t : List UInt8) (h : (unb t).2 = 0) : byts (unb t).1 = t ∧ isB (unb t).1 = true := by
  unfold unb at h ⊢
  split at h
  · cases h
  · rename_i hn
    rw [if_neg hn]
    obtain ⟨p, z, _, _, h3, _, h5⟩ := al_split t hn
    exact ⟨by show byts (ul (al t)) = t; rw [h3]; exact h5, isB_ul t hn⟩

end WoolPack
