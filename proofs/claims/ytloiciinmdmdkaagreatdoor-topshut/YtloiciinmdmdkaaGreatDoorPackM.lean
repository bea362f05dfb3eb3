/-
  Plain mathematics: tokens as bits, and how they are read. Nothing of the program.
-/
import Derived.Test.YtloiciinmdmdkaaGreatDoorBinM2
import Derived.Test.YtloiciinmdmdkaaGreatDoorLzM
namespace WoolPack
open WoolBits WoolLz

/-- a byte's eight bits -/
def b8 (b : Nat) : List UInt8 := (dg (256 + b)).drop 1

/-- a token's bits -/
def enc (t : Tok) : List UInt8 := if t.l = 0 then 48 :: b8 t.b.toNat else 49 :: (gam t.d.toNat ++ gam t.l.toNat)

/-- the tokens' bits -/
def pack : List Tok → List UInt8
  | [] => []
  | t :: l => enc t ++ pack l

theorem pack_append : ∀ l m : List Tok, pack (l ++ m) = pack l ++ pack m
  | [], _ => rfl
  | t :: l, m => by rw [List.cons_append, pack, pack, pack_append l m, List.append_assoc]

theorem len_256 (b : Nat) (h : b < 256) : len (256 + b) = 9 :=
  Nat.le_antisymm (len_lt 9 _ (by simp; omega) (by omega)) (len_ge 8 _ (by simp))

theorem b8_length (b : Nat) (h : b < 256) : (b8 b).length = 8 := by
  unfold b8
  rw [List.length_drop]
  have := len_256 b h
  unfold len at this
  omega

theorem isB_b8 (b : Nat) : isB (b8 b) = true := isB_drop _ _ (isB_dg _)

/-- val from 1 is val from 0 and the place of the 1 -/
theorem val_from : ∀ (l : List UInt8) (a : Nat), val a l = a * 2 ^ l.length + val 0 l
  | [], a => by simp [val]
  | c :: l, a => by
    have e1 : val a (c :: l) = val (2 * a + (c.toNat - 48)) l := rfl
    have e2 : val 0 (c :: l) = val (2 * 0 + (c.toNat - 48)) l := rfl
    rw [e1, e2, val_from l (2 * a + (c.toNat - 48)), val_from l (2 * 0 + (c.toNat - 48)), List.length_cons, Nat.pow_succ]
    generalize 2 ^ l.length = p
    rw [Nat.add_mul, Nat.add_mul, show 2 * a * p = a * (p * 2) by rw [Nat.mul_comm 2 a, Nat.mul_assoc, Nat.mul_comm 2 p]]
    omega

theorem val_b8 (b : Nat) (h : b < 256) : val 0 (b8 b) = b := by
  have h1 := val_one (256 + b) (by omega)
  have h2 := val_from (b8 b) 1
  rw [b8_length b h] at h2
  unfold b8 at h2 ⊢
  omega

/-- digits that begin with a 1 are the digits of their value -/
theorem dg_val : ∀ (n : Nat) (r : List UInt8), r.length = n → isB r = true → dg (val 1 r) = 49 :: r
  | 0, r, h, _ => by
    have : r = [] := List.eq_nil_of_length_eq_zero h
    subst this
    rw [val_nil, dg_small 1 (by omega)]
    rfl
  | n + 1, r, h, hb => by
    obtain ⟨q, c, rfl⟩ : ∃ q c, r = q ++ [c] := by
      have hne : r ≠ [] := by intro e; rw [e] at h; simp at h
      exact ⟨r.dropLast, r.getLast hne, (List.dropLast_concat_getLast hne).symm⟩
    have hq : q.length = n := by simpa using h
    rw [isB_append, Bool.and_eq_true] at hb
    have ih := dg_val n q hq hb.1
    have hv := val_le q 1
    have hc : c = 48 ∨ c = 49 := (isB_iff _).1 hb.2 c (List.mem_singleton.2 rfl)
    rw [val_snoc, dg_step _ (by omega)]
    have e1 : (2 * val 1 q + (c.toNat - 48)) / 2 = val 1 q := by rcases hc with rfl | rfl <;> simp <;> omega
    have e2 : bit (2 * val 1 q + (c.toNat - 48)) = c := by
      unfold bit
      rcases hc with rfl | rfl
      · rw [if_pos (by simp)]
      · rw [if_neg (by simp)]
    rw [e1, e2, ih]
    rfl

theorem b8_val (r : List UInt8) (h : r.length = 8) (hb : isB r = true) : b8 (val 0 r) = r := by
  have h2 := val_from r 1
  rw [h] at h2
  have h3 := dg_val 8 r h hb
  unfold b8
  rw [show 256 + val 0 r = val 1 r by omega, h3]
  rfl

theorem val8_lt (r : List UInt8) (h : r.length ≤ 8) (hb : isB r = true) : val 0 r < 256 := by
  have h1 := val_bound r 0 ((isB_iff _).1 hb)
  have h2 : 2 ^ r.length ≤ 2 ^ 8 := Nat.pow_le_pow_right (by omega) h
  have h3 : (2 : Nat) ^ 8 = 256 := by decide
  omega

/-- what is read as a gamma code is that code -/
theorem rg_code (l : List UInt8) (h : (rg l).2.2 = 0) : l.take (rg l).2.1 = gam (rg l).1 := by
  obtain ⟨hb, hz, hl, e⟩ := rg_ok l h
  obtain ⟨r, hr⟩ := at_zs l hb (by omega)
  rw [e]
  show l.take (2 * zs l + 1) = gam (val 0 ((l.drop (zs l)).take (zs l + 1)))
  rw [hr, List.take_succ_cons]
  have hrl : (r.take (zs l)).length = zs l := by
    have := congrArg List.length hr
    rw [List.length_drop, List.length_cons] at this
    rw [List.length_take]
    omega
  have hrb : isB (r.take (zs l)) = true := by
    have h1 : isB (l.drop (zs l)) = true := isB_drop _ _ hb
    rw [hr] at h1
    exact isB_take _ _ ((isB_iff _).2 fun c hc => (isB_iff _).1 h1 c (List.mem_cons_of_mem _ hc))
  have hd := dg_val _ _ hrl hrb
  have hv : val 0 (49 :: r.take (zs l)) = val 1 (r.take (zs l)) := rfl
  have hlen : len (val 1 (r.take (zs l))) = zs l + 1 := by unfold len; rw [hd, List.length_cons, hrl]
  rw [hv]
  unfold gam
  rw [hlen, hd]
  have hsp : l.take (zs l) = List.replicate (zs l) 48 := by
    have htw : ∀ l : List UInt8, l.take (zs l) = List.replicate (zs l) 48 := by
      intro l
      induction l with
      | nil => rfl
      | cons c l ih =>
        by_cases hc : c = 48
        · subst hc; rw [zs_cons_zero, List.take_succ_cons, ih, List.replicate_succ]
        · have : zs (c :: l) = 0 := by unfold zs; rw [List.takeWhile_cons, if_neg (by simpa using hc)]; rfl
          rw [this]; rfl
    exact htw l
  have hta : l.take (2 * zs l + 1) = l.take (zs l) ++ (l.drop (zs l)).take (zs l + 1) := by
    rw [show 2 * zs l + 1 = zs l + (zs l + 1) by omega, List.take_add]
  rw [hta, hsp, hr, List.take_succ_cons]
  rfl

theorem zs_take (l : List UInt8) (n : Nat) : zs (l.take n) = min (zs l) n := by
  induction l generalizing n with
  | nil => simp [zs]
  | cons c l ih =>
    cases n with
    | zero => simp [zs]
    | succ n =>
      rw [List.take_succ_cons]
      by_cases hc : c = 48
      · subst hc; rw [zs_cons_zero, zs_cons_zero, ih]; omega
      · have h1 : ∀ m : List UInt8, zs (c :: m) = 0 := by
          intro m; unfold zs; rw [List.takeWhile_cons, if_neg (by simpa using hc)]; rfl
        rw [h1, h1]; omega

theorem rg_bits (l : List UInt8) (hb : isB l = true) : rg l = if 31 ≤ zs l then (0, 0, 2) else if l.length < 2 * zs l + 1 then (0, 0, 7) else (val 0 ((l.drop (zs l)).take (zs l + 1)), 2 * zs l + 1, 0) := by
  unfold rg
  rw [if_neg (by rw [hb]; decide)]

/-- more than 61 bits are never looked at -/
theorem rg_take (l : List UInt8) (hb : isB l = true) : rg (l.take 61) = rg l := by
  rw [rg_bits _ (isB_take _ _ hb), rg_bits _ hb, zs_take]
  by_cases h31 : 31 ≤ zs l
  · have h1 : 31 ≤ min (zs l) 61 := by omega
    rw [if_pos h1, if_pos h31]
  · have h1 : min (zs l) 61 = zs l := by omega
    rw [h1, if_neg h31, if_neg h31]
    by_cases hs : l.length < 2 * zs l + 1
    · have h2 : (l.take 61).length < 2 * zs l + 1 := by rw [List.length_take]; omega
      rw [if_pos h2, if_pos hs]
    · have h2 : ¬ (l.take 61).length < 2 * zs l + 1 := by rw [List.length_take]; omega
      rw [if_neg h2, if_neg hs, List.drop_take, List.take_take, show min (zs l + 1) (61 - zs l) = zs l + 1 by omega]

/-- reading a token: the token, how many bits, the error -/
def rtok (s : List UInt8) : Tok × Nat × Nat :=
  if s.head? = some 48 then
    if s.length < 9 then (⟨0, 0, 0⟩, 0, 7) else (⟨0, 0, ((val 0 ((s.drop 1).take 8) : Nat) : Int)⟩, 9, 0)
  else if (rg (s.drop 1)).2.2 ≠ 0 then (⟨0, 0, 0⟩, 0, (rg (s.drop 1)).2.2)
  else if (rg (s.drop (1 + (rg (s.drop 1)).2.1))).2.2 ≠ 0 then (⟨0, 0, 0⟩, 0, (rg (s.drop (1 + (rg (s.drop 1)).2.1))).2.2)
  else (⟨((rg (s.drop 1)).1 : Int), ((rg (s.drop (1 + (rg (s.drop 1)).2.1))).1 : Int), 0⟩, 1 + (rg (s.drop 1)).2.1 + (rg (s.drop (1 + (rg (s.drop 1)).2.1))).2.1, 0)

/-- a token's byte and numbers, and how much is read: as the program holds them -/
theorem rtok_ok (s : List UInt8) (hb : isB s = true) (hne : s ≠ []) (h : (rtok s).2.2 = 0) : 1 ≤ (rtok s).2.1 ∧ (rtok s).2.1 ≤ s.length ∧ enc (rtok s).1 = s.take (rtok s).2.1 := by
  unfold rtok at h ⊢
  by_cases h0 : s.head? = some 48
  · rw [if_pos h0] at h ⊢
    by_cases h9 : s.length < 9
    · rw [if_pos h9] at h; cases h
    · rw [if_neg h9] at h ⊢
      refine ⟨by simp, by simp; omega, ?_⟩
      obtain ⟨r, rfl⟩ : ∃ r, s = 48 :: r := by
        cases s with
        | nil => cases h0
        | cons c r => simp at h0; exact ⟨r, by rw [h0]⟩
      have hr : 8 ≤ r.length := by simp at h9; omega
      show enc ⟨0, 0, ((val 0 (r.take 8) : Nat) : Int)⟩ = (48 :: r).take 9
      unfold enc
      rw [if_pos rfl]
      show 48 :: b8 ((val 0 (r.take 8) : Nat) : Int).toNat = _
      rw [Int.toNat_natCast, b8_val _ (by rw [List.length_take]; omega) (isB_take _ _ ((isB_iff _).2 fun c hc => (isB_iff _).1 hb c (List.mem_cons_of_mem _ hc)))]
      rfl
  · rw [if_neg h0] at h ⊢
    obtain ⟨r, rfl⟩ : ∃ r, s = 49 :: r := by
      cases s with
      | nil => exact absurd rfl hne
      | cons c r =>
        rcases (isB_iff _).1 hb c (List.mem_cons_self ..) with rfl | rfl
        · exact absurd rfl h0
        · exact ⟨r, rfl⟩
    have e1 : (49 :: r).drop 1 = r := rfl
    have e2 : ∀ n, (49 :: r).drop (1 + n) = r.drop n := fun n => by rw [Nat.add_comm]; rfl
    rw [e1, e2] at h ⊢
    by_cases hx : (rg r).2.2 = 0
    · rw [if_neg (by simp [hx])] at h ⊢
      by_cases hy : (rg (r.drop (rg r).2.1)).2.2 = 0
      · rw [if_neg (by simp [hy])] at h ⊢
        obtain ⟨p1, p2, p3, p4, p5⟩ := rg_pos r hx
        obtain ⟨q1, q2, q3, q4, q5⟩ := rg_pos _ hy
        have c1 := rg_code r hx
        have c2 := rg_code _ hy
        rw [List.length_drop] at q5
        refine ⟨by simp; omega, by simp; omega, ?_⟩
        show enc ⟨((rg r).1 : Int), ((rg (r.drop (rg r).2.1)).1 : Int), 0⟩ = (49 :: r).take (1 + (rg r).2.1 + (rg (r.drop (rg r).2.1)).2.1)
        unfold enc
        rw [if_neg (by show ¬ ((rg (r.drop (rg r).2.1)).1 : Int) = 0; omega)]
        show 49 :: (gam ((rg r).1 : Int).toNat ++ gam ((rg (r.drop (rg r).2.1)).1 : Int).toNat) = _
        rw [Int.toNat_natCast, Int.toNat_natCast, ← c1, ← c2, show 1 + (rg r).2.1 + (rg (r.drop (rg r).2.1)).2.1 = ((rg r).2.1 + (rg (r.drop (rg r).2.1)).2.1) + 1 by omega, List.take_succ_cons, List.take_add]
      · rw [if_pos hy] at h; exact absurd h hy
    · rw [if_pos hx] at h; exact absurd h hx

/-- the numbers of a right token -/
def good (t : Tok) : Prop := litB t = true ∨ copB t = true

theorem isB_enc (t : Tok) : isB (enc t) = true := by
  unfold enc
  split
  · rw [isB_iff]
    intro c hc
    rcases List.mem_cons.1 hc with rfl | hc
    · exact .inl rfl
    · exact (isB_iff _).1 (isB_b8 _) c hc
  · rw [isB_iff]
    intro c hc
    rcases List.mem_cons.1 hc with rfl | hc
    · exact .inr rfl
    · rcases List.mem_append.1 hc with hc | hc
      · exact (isB_iff _).1 (isB_gam _) c hc
      · exact (isB_iff _).1 (isB_gam _) c hc

theorem isB_pack : ∀ l : List Tok, isB (pack l) = true
  | [] => rfl
  | t :: l => by rw [pack, isB_append, isB_enc, isB_pack l]; rfl

theorem enc_ne (t : Tok) : enc t ≠ [] := by unfold enc; split <;> simp

theorem enc_length (t : Tok) (h : good t) : (enc t).length = if t.l = 0 then 9 else 1 + (2 * len t.d.toNat - 1) + (2 * len t.l.toNat - 1) := by
  unfold enc
  by_cases h0 : t.l = 0
  · rw [if_pos h0, if_pos h0, List.length_cons, b8_length]
    rcases h with h | h
    · unfold litB at h; rw [decide_eq_true_iff] at h; omega
    · unfold copB at h; rw [decide_eq_true_iff] at h; omega
  · rw [if_neg h0, if_neg h0, List.length_cons, List.length_append, gam_length, gam_length]; omega

theorem enc_bound (t : Tok) (h : good t) : (enc t).length ≤ 31 := by
  rw [enc_length t h]
  split
  · omega
  · rename_i h0
    rcases h with h | h
    · unfold litB at h; rw [decide_eq_true_iff] at h; omega
    · unfold copB at h; rw [decide_eq_true_iff] at h
      have h1 := len_lt 9 t.d.toNat (by simp; omega) (by omega)
      have h2 := len_lt 7 t.l.toNat (by simp; omega) (by omega)
      omega

/-- what was written is read as it was -/
theorem rtok_enc (t : Tok) (h : good t) (m : List UInt8) (hm : isB m = true) : rtok (enc t ++ m) = (t, (enc t).length, 0) := by
  obtain ⟨d, l, b⟩ := t
  unfold rtok
  by_cases h0 : l = 0
  · rcases h with h | h
    · unfold litB at h
      rw [decide_eq_true_iff] at h
      obtain ⟨_, h2, h3, h4⟩ := h
      have h2 : d = 0 := h2
      have h3 : 0 ≤ b := h3
      have h4 : b ≤ 255 := h4
      subst h0 h2
      have hl8 := b8_length b.toNat (by omega)
      have e : enc ⟨0, 0, b⟩ = 48 :: b8 b.toNat := by unfold enc; rw [if_pos rfl]
      rw [e, List.cons_append, if_pos (by rfl), if_neg (by rw [List.length_cons, List.length_append]; omega)]
      have e2 : ((48 :: (b8 b.toNat ++ m)).drop 1).take 8 = b8 b.toNat := by
        show (b8 b.toNat ++ m).take 8 = _
        rw [List.take_append_of_le_length (by omega), List.take_of_length_le (by omega)]
      rw [e2, val_b8 _ (by omega), List.length_cons, hl8, Int.toNat_of_nonneg h3]
    · unfold copB at h
      rw [decide_eq_true_iff] at h
      exact absurd h.1 (by show ¬ 1 ≤ l; omega)
  · rcases h with h | h
    · unfold litB at h
      rw [decide_eq_true_iff] at h
      exact absurd h.1 h0
    · unfold copB at h
      rw [decide_eq_true_iff] at h
      obtain ⟨h1, h2, h3, h4, h5⟩ := h
      have h1 : 1 ≤ l := h1
      have h2 : l ≤ 64 := h2
      have h3 : 1 ≤ d := h3
      have h4 : d ≤ 256 := h4
      have h5 : b = 0 := h5
      subst h5
      have e : enc ⟨d, l, 0⟩ = 49 :: (gam d.toNat ++ gam l.toNat) := by unfold enc; rw [if_neg h0]
      have r1 := rg_gam d.toNat (by omega) (by omega) (gam l.toNat ++ m) (by rw [isB_append, isB_gam, hm]; rfl)
      have r2 := rg_gam l.toNat (by omega) (by omega) m hm
      have e1 : (enc ⟨d, l, 0⟩ ++ m).drop 1 = gam d.toNat ++ (gam l.toNat ++ m) := by rw [e, List.cons_append]; show gam d.toNat ++ gam l.toNat ++ m = _; rw [List.append_assoc]
      have e2 : (enc ⟨d, l, 0⟩ ++ m).drop (1 + (gam d.toNat).length) = gam l.toNat ++ m := by
        rw [← List.drop_drop, e1, List.drop_left]
      rw [e1, r1]
      simp only
      rw [e2, r2]
      simp only
      rw [if_neg (by rw [e]; simp), if_neg (by simp), if_neg (by simp), e, List.length_cons, List.length_append]
      rw [Int.toNat_of_nonneg (show 0 ≤ d by omega), Int.toNat_of_nonneg (show 0 ≤ l by omega), show 1 + (gam d.toNat).length + (gam l.toNat).length = (gam d.toNat).length + (gam l.toNat).length + 1 by omega]

/-- reading tokens: the tokens, the error -/
def rts : Nat → List UInt8 → List Tok × Nat
  | 0, _ => ([], 0)
  | f + 1, s => if s = [] then ([], 0) else if (rtok s).2.2 ≠ 0 then ([], (rtok s).2.2)
    else if (rts f (s.drop (rtok s).2.1)).2 ≠ 0 then ([], (rts f (s.drop (rtok s).2.1)).2) else ((rtok s).1 :: (rts f (s.drop (rtok s).2.1)).1, 0)

theorem rts_nil (f : Nat) : rts f [] = ([], 0) := by cases f <;> simp [rts]

theorem rts_step (f : Nat) (s : List UInt8) (h : s ≠ []) : rts (f + 1) s = if (rtok s).2.2 ≠ 0 then ([], (rtok s).2.2)
    else if (rts f (s.drop (rtok s).2.1)).2 ≠ 0 then ([], (rts f (s.drop (rtok s).2.1)).2) else ((rtok s).1 :: (rts f (s.drop (rtok s).2.1)).1, 0) := by
  rw [rts, if_neg h]

/-- more rounds than bits change nothing -/
theorem rts_more : ∀ (f g : Nat) (s : List UInt8), isB s = true → s.length ≤ f → s.length ≤ g → rts f s = rts g s
  | 0, g, s, _, hf, _ => by
    have : s = [] := List.eq_nil_of_length_eq_zero (by omega)
    subst this; rw [rts_nil, rts_nil]
  | f + 1, 0, s, _, _, hg => by
    have : s = [] := List.eq_nil_of_length_eq_zero (by omega)
    subst this; rw [rts_nil, rts_nil]
  | f + 1, g + 1, s, hb, hf, hg => by
    by_cases h : s = []
    · subst h; rw [rts_nil, rts_nil]
    · rw [rts_step f s h, rts_step g s h]
      by_cases he : (rtok s).2.2 = 0
      · obtain ⟨h1, h2, _⟩ := rtok_ok s hb h he
        rw [rts_more f g (s.drop (rtok s).2.1) (isB_drop _ _ hb) (by rw [List.length_drop]; omega) (by rw [List.length_drop]; omega)]
      · rw [if_pos he, if_pos he]

/-- the tokens of bits, without the text's test -/
def rall (s : List UInt8) : List Tok × Nat := rts s.length s

theorem rall_nil : rall [] = ([], 0) := rfl
theorem rall_step (s : List UInt8) (hb : isB s = true) (h : s ≠ []) : rall s = if (rtok s).2.2 ≠ 0 then ([], (rtok s).2.2)
    else if (rall (s.drop (rtok s).2.1)).2 ≠ 0 then ([], (rall (s.drop (rtok s).2.1)).2) else ((rtok s).1 :: (rall (s.drop (rtok s).2.1)).1, 0) := by
  obtain ⟨n, hn⟩ : ∃ n, s.length = n + 1 := ⟨s.length - 1, by
    have : s.length ≠ 0 := fun e => h (List.eq_nil_of_length_eq_zero e)
    omega⟩
  unfold rall
  rw [hn, rts_step n s h]
  by_cases he : (rtok s).2.2 = 0
  · obtain ⟨h1, h2, _⟩ := rtok_ok s hb h he
    rw [rts_more n (s.drop (rtok s).2.1).length (s.drop (rtok s).2.1) (isB_drop _ _ hb) (by rw [List.length_drop]; omega) (by omega)]
  · rw [if_pos he, if_pos he]

theorem rall_err (s : List UInt8) (hb : isB s = true) (h : s ≠ []) (he : (rtok s).2.2 ≠ 0) : rall s = ([], (rtok s).2.2) := by
  rw [rall_step s hb h, if_pos he]

/-- the tokens that were read, written again, are the bits -/
theorem pack_rall : ∀ (n : Nat) (s : List UInt8), s.length ≤ n → isB s = true → (rall s).2 = 0 → pack (rall s).1 = s
  | 0, s, hn, _, _ => by
    have : s = [] := List.eq_nil_of_length_eq_zero (by omega)
    subst this; rfl
  | n + 1, s, hn, hb, he => by
    by_cases h : s = []
    · subst h; rfl
    · rw [rall_step s hb h] at he ⊢
      by_cases h1 : (rtok s).2.2 = 0
      · rw [if_neg (by simp [h1])] at he ⊢
        obtain ⟨p1, p2, p3⟩ := rtok_ok s hb h h1
        by_cases h2 : (rall (s.drop (rtok s).2.1)).2 = 0
        · rw [if_neg (by simp [h2])] at he ⊢
          have ih := pack_rall n (s.drop (rtok s).2.1) (by rw [List.length_drop]; omega) (isB_drop _ _ hb) h2
          show enc (rtok s).1 ++ pack (rall (s.drop (rtok s).2.1)).1 = s
          rw [ih, p3, List.take_append_drop]
        · rw [if_pos h2] at he; exact absurd he h2
      · rw [if_pos h1] at he; exact absurd he h1

theorem rall_pack : ∀ l : List Tok, (∀ t ∈ l, good t) → rall (pack l) = (l, 0)
  | [], _ => rfl
  | t :: l, h => by
    have ht := h t (List.mem_cons_self ..)
    have ih := rall_pack l fun x hx => h x (List.mem_cons_of_mem _ hx)
    have hr := rtok_enc t ht (pack l) (isB_pack l)
    have hne : enc t ++ pack l ≠ [] := by
      intro e
      exact enc_ne t (List.append_eq_nil_iff.1 e).1
    rw [pack, rall_step _ (by rw [isB_append, isB_enc, isB_pack]; rfl) hne, hr]
    simp only
    rw [if_neg (by simp), List.drop_left, ih]
    simp

theorem exp_good : ∀ (l : List Tok) (b : List UInt8), (exp b l).1 = 0 → ∀ t ∈ l, good t
  | [], _, _ => by intro t ht; cases ht
  | t :: l, b, h => by
    rw [exp_cons] at h
    by_cases he : err t b.length = 0
    · rw [if_pos he] at h
      intro x hx
      rcases List.mem_cons.1 hx with rfl | hx
      · exact ((err_cases _ _).1 he).1
      · exact exp_good l _ h x hx
    · rw [if_neg he] at h; exact absurd h he

theorem exp_few (l : List Tok) (h : (exp [] l).1 = 0) : l.length ≤ 600 := by
  have h1 := exp_600 l [] (by simp) h
  have h2 := exp_len l [] h
  have h3 := sum_len l
  simp at h2
  omega

theorem pack_bound : ∀ l : List Tok, (∀ t ∈ l, good t) → (pack l).length ≤ l.length * 31
  | [], _ => by simp [pack]
  | t :: l, h => by
    have h1 := enc_bound t (h t (List.mem_cons_self ..))
    have h2 := pack_bound l fun x hx => h x (List.mem_cons_of_mem _ hx)
    rw [pack, List.length_append, List.length_cons]
    omega

end WoolPack
