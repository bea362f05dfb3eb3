/-
  Texts as bytes and copies, as plain mathematics: tokens, what they stand for, the greedy parse, and what holds of both. Conditions: as each says.
-/
import Derived.Test.YtemineffflodcaaJListsOwn31
namespace WoolLz
open WoolMatch

structure Tok where
  d : Int
  l : Int
  b : Int

def litB (t : Tok) : Bool := decide (t.l = 0 ∧ t.d = 0 ∧ 0 ≤ t.b ∧ t.b ≤ 255)
def copB (t : Tok) : Bool := decide (1 ≤ t.l ∧ t.l ≤ 64 ∧ 1 ≤ t.d ∧ t.d ≤ 256 ∧ t.b = 0)

/-- what is wrong with a token behind n bytes -/
def err (t : Tok) (n : Nat) : Int :=
  if litB t = false ∧ copB t = false then 1 else if (n : Int) < t.d then 3 else if 600 < (n : Int) + max t.l 1 then 2 else 0

/-- k bytes more, each from d bytes before -/
def cpy (b : List UInt8) (d : Nat) : Nat → List UInt8
  | 0 => b
  | k + 1 => cpy b d k ++ [((cpy b d k)[(cpy b d k).length - d]?).getD 0]

def app (b : List UInt8) (t : Tok) : List UInt8 := if t.l = 0 then b ++ [UInt8.ofNat t.b.toNat] else cpy b t.d.toNat t.l.toNat

/-- how many bytes a token stands for -/
def siz (t : Tok) : Nat := (max t.l 1).toNat

/-- the error and the text of tokens behind a text -/
def exp (b : List UInt8) : List Tok → Int × List UInt8
  | [] => (0, b)
  | t :: r => if err t b.length = 0 then exp (app b t) r else (err t b.length, [])

theorem exp_nil (b : List UInt8) : exp b [] = (0, b) := rfl
theorem exp_cons (b : List UInt8) (t : Tok) (r : List Tok) : exp b (t :: r) = if err t b.length = 0 then exp (app b t) r else (err t b.length, []) := rfl

theorem cpy_length (b : List UInt8) (d : Nat) : ∀ k, (cpy b d k).length = b.length + k
  | 0 => rfl
  | k + 1 => by unfold cpy; rw [List.length_append, cpy_length b d k]; rfl

theorem err_cases (t : Tok) (n : Nat) : err t n = 0 ↔ (litB t = true ∨ copB t = true) ∧ t.d ≤ (n : Int) ∧ (n : Int) + max t.l 1 ≤ 600 := by
  unfold err
  by_cases h1 : litB t = false ∧ copB t = false
  · rw [if_pos h1]
    constructor
    · intro h; cases h
    · rintro ⟨h | h, _⟩
      · rw [h1.1] at h; cases h
      · rw [h1.2] at h; cases h
  · rw [if_neg h1]
    have h1' : litB t = true ∨ copB t = true := by
      cases e1 : litB t <;> cases e2 : copB t <;> simp_all
    by_cases h2 : (n : Int) < t.d
    · rw [if_pos h2]
      constructor
      · intro h; cases h
      · rintro ⟨_, h, _⟩; omega
    · rw [if_neg h2]
      by_cases h3 : 600 < (n : Int) + max t.l 1
      · rw [if_pos h3]
        constructor
        · intro h; cases h
        · rintro ⟨_, _, h⟩; omega
      · rw [if_neg h3]
        exact ⟨fun _ => ⟨h1', by omega, by omega⟩, fun _ => rfl⟩

theorem tok_l (t : Tok) (h : litB t = true ∨ copB t = true) : 0 ≤ t.l ∧ t.l ≤ 64 ∧ 0 ≤ t.d ∧ t.d ≤ 256 ∧ (t.l = 0 → t.d = 0) ∧ (t.l ≠ 0 → 1 ≤ t.d) := by
  rcases h with h | h
  · unfold litB at h; rw [decide_eq_true_iff] at h; omega
  · unfold copB at h; rw [decide_eq_true_iff] at h; omega

theorem app_length (b : List UInt8) (t : Tok) (h : litB t = true ∨ copB t = true) : (app b t).length = b.length + siz t := by
  have := tok_l t h
  unfold app siz
  by_cases e : t.l = 0
  · rw [if_pos e, List.length_append, e]; rfl
  · rw [if_neg e, cpy_length]; omega

theorem cpy_take (b : List UInt8) (d : Nat) : ∀ k, (cpy b d k).take b.length = b
  | 0 => by unfold cpy; exact List.take_length
  | k + 1 => by
    unfold cpy
    rw [List.take_append_of_le_length (by rw [cpy_length]; omega)]
    exact cpy_take b d k

theorem app_pre (b : List UInt8) (t : Tok) : b <+: app b t := by
  unfold app
  by_cases e : t.l = 0
  · rw [if_pos e]; exact List.prefix_append _ _
  · rw [if_neg e]
    have := cpy_take b t.d.toNat t.l.toNat
    refine ⟨(cpy b t.d.toNat t.l.toNat).drop b.length, ?_⟩
    have e2 := List.take_append_drop b.length (cpy b t.d.toNat t.l.toNat)
    rw [this] at e2
    exact e2

theorem exp_pre : ∀ (l : List Tok) (b : List UInt8), (exp b l).1 = 0 → b <+: (exp b l).2
  | [], b, _ => List.prefix_refl _
  | t :: r, b, h => by
    unfold exp at h ⊢
    by_cases e : err t b.length = 0
    · rw [if_pos e] at h ⊢
      exact (app_pre b t).trans (exp_pre r _ h)
    · rw [if_neg e] at h; exact absurd h e

theorem exp_bad : ∀ (l : List Tok) (b : List UInt8), (exp b l).1 ≠ 0 → (exp b l).2 = []
  | [], b, h => absurd rfl h
  | t :: r, b, h => by
    unfold exp at h ⊢
    by_cases e : err t b.length = 0
    · rw [if_pos e] at h ⊢; exact exp_bad r _ h
    · rw [if_neg e]

theorem exp_append : ∀ (l m : List Tok) (b : List UInt8), exp b (l ++ m) = if (exp b l).1 = 0 then exp (exp b l).2 m else exp b l
  | [], m, b => by rw [List.nil_append]; rfl
  | t :: r, m, b => by
    rw [List.cons_append, exp_cons, exp_cons]
    by_cases e : err t b.length = 0
    · rw [if_pos e, if_pos e]; exact exp_append r m _
    · rw [if_neg e, if_neg e, if_neg e]

/-- how many bytes tokens stand for -/
def sum : List Tok → Nat
  | [] => 0
  | t :: r => siz t + sum r

theorem sum_cons (t : Tok) (r : List Tok) : sum (t :: r) = siz t + sum r := rfl

theorem siz_pos (t : Tok) : 1 ≤ siz t := by unfold siz; omega

theorem sum_append : ∀ (l m : List Tok), sum (l ++ m) = sum l + sum m
  | [], m => by rw [List.nil_append]; exact (Nat.zero_add _).symm
  | t :: r, m => by rw [List.cons_append, sum_cons, sum_cons, sum_append r m]; omega

theorem sum_len : ∀ l : List Tok, l.length ≤ sum l
  | [] => Nat.le_refl _
  | t :: r => by have := sum_len r; have := siz_pos t; rw [sum_cons, List.length_cons]; omega

theorem exp_len : ∀ (l : List Tok) (b : List UInt8), (exp b l).1 = 0 → (exp b l).2.length = b.length + sum l
  | [], b, _ => rfl
  | t :: r, b, h => by
    unfold exp at h ⊢
    by_cases e : err t b.length = 0
    · rw [if_pos e] at h ⊢
      rw [exp_len r _ h, app_length b t ((err_cases _ _).1 e).1, sum_cons]
      omega
    · rw [if_neg e] at h; exact absurd h e

theorem exp_600 : ∀ (l : List Tok) (b : List UInt8), b.length ≤ 600 → (exp b l).1 = 0 → (exp b l).2.length ≤ 600
  | [], b, hb, _ => hb
  | t :: r, b, hb, h => by
    unfold exp at h ⊢
    by_cases e : err t b.length = 0
    · rw [if_pos e] at h ⊢
      have h3 := (err_cases _ _).1 e
      refine exp_600 r _ ?_ h
      rw [app_length b t h3.1]
      unfold siz; omega
    · rw [if_neg e] at h; exact absurd h e

/-- of good tokens the first ones are good -/
theorem exp_take (l : List Tok) (k : Nat) (b : List UInt8) (h : (exp b l).1 = 0) : (exp b (l.take k)).1 = 0 ∧ (exp b (l.take k)).2 <+: (exp b l).2 := by
  have e := exp_append (l.take k) (l.drop k) b
  rw [List.take_append_drop] at e
  by_cases h0 : (exp b (l.take k)).1 = 0
  · rw [if_pos h0] at e
    refine ⟨h0, ?_⟩
    rw [e] at h ⊢
    exact exp_pre _ _ h
  · rw [if_neg h0] at e
    rw [e] at h
    exact absurd h h0

/-! ytemineffflodcaa# the greedy parse -/

def byt (L : List UInt8) (i : Nat) : Int := ((L[i]?).getD 0).toNat

def tokAt (L : List UInt8) (i W : Nat) : Tok := if (long L i W).2 < 2 then ⟨0, 0, byt L i⟩ else ⟨(long L i W).1, (long L i W).2, 0⟩

def stp (L : List UInt8) (i W : Nat) : Nat := max (long L i W).2 1

theorem siz_tokAt (L : List UInt8) (i W : Nat) : siz (tokAt L i W) = stp L i W := by
  unfold tokAt stp siz
  by_cases h : (long L i W).2 < 2
  · rw [if_pos h]; show (max (0 : Int) 1).toNat = _; omega
  · rw [if_neg h]; show (max ((long L i W).2 : Int) 1).toNat = _; omega

theorem stp_le (L : List UInt8) (i W : Nat) (h : i < L.length) : i + stp L i W ≤ L.length := by
  have := long_fits L i W (by omega)
  unfold stp; omega

theorem stp_pos (L : List UInt8) (i W : Nat) : 1 ≤ stp L i W := by unfold stp; omega

def parF (L : List UInt8) (W : Nat) : Nat → Nat → List Tok
  | 0, _ => []
  | f + 1, i => if i < L.length then tokAt L i W :: parF L W f (i + stp L i W) else []

theorem parF_more (L : List UInt8) (W : Nat) : ∀ (f g i : Nat), L.length - i ≤ f → L.length - i ≤ g → parF L W f i = parF L W g i
  | 0, 0, _, _, _ => rfl
  | 0, g + 1, i, h1, _ => by unfold parF; rw [if_neg (by omega)]
  | f + 1, 0, i, _, h2 => by unfold parF; rw [if_neg (by omega)]
  | f + 1, g + 1, i, h1, h2 => by
    unfold parF
    by_cases h : i < L.length
    · rw [if_pos h, if_pos h]
      have := stp_pos L i W
      rw [parF_more L W f g _ (by omega) (by omega)]
    · rw [if_neg h, if_neg h]

def par (L : List UInt8) (W i : Nat) : List Tok := parF L W (L.length - i) i

theorem par_step (L : List UInt8) (W i : Nat) (h : i < L.length) : par L W i = tokAt L i W :: par L W (i + stp L i W) := by
  have hp := stp_pos L i W
  unfold par
  obtain ⟨f, hf⟩ : ∃ f, L.length - i = f + 1 := ⟨L.length - i - 1, by omega⟩
  rw [hf]
  conv => lhs; unfold parF
  rw [if_pos h, parF_more L W f (L.length - (i + stp L i W)) _ (by omega) (by omega)]

theorem par_end (L : List UInt8) (W i : Nat) (h : L.length ≤ i) : par L W i = [] := by
  unfold par
  rw [show L.length - i = 0 by omega]
  rfl

theorem par_len (L : List UInt8) (W : Nat) : ∀ (k i : Nat), L.length - i ≤ k → (par L W i).length ≤ L.length - i
  | 0, i, h => by rw [par_end L W i (by omega)]; exact Nat.zero_le _
  | k + 1, i, h => by
    by_cases hi : i < L.length
    · rw [par_step L W i hi, List.length_cons]
      have h1 := stp_pos L i W
      have h2 := stp_le L i W hi
      have := par_len L W k (i + stp L i W) (by omega)
      omega
    · rw [par_end L W i (by omega)]; exact Nat.zero_le _

/-! ytemineffflodcaa# what is parsed stands for the text -/

theorem take_at (L : List UInt8) (i : Nat) (h : i < L.length) : L.take i ++ [L[i]] = L.take (i + 1) := (List.take_succ_eq_append_getElem h).symm

theorem cpy_text (L : List UInt8) (i d : Nat) (hd : 1 ≤ d) (hdi : d ≤ i) : ∀ k, i + k ≤ L.length → (∀ j, j < k → L[i + j]? = L[i + j - d]?) → cpy (L.take i) d k = L.take (i + k)
  | 0, _, _ => rfl
  | k + 1, hk, hs => by
    unfold cpy
    rw [cpy_text L i d hd hdi k (by omega) (fun j hj => hs j (by omega))]
    have hlen : (L.take (i + k)).length = i + k := by rw [List.length_take]; omega
    rw [hlen, List.getElem?_take, if_pos (by omega), ← hs k (by omega), List.getElem?_eq_getElem (by omega)]
    show _ ++ [L[i + k]] = _
    rw [take_at L (i + k) (by omega)]
    rfl

theorem app_tokAt (L : List UInt8) (i W : Nat) (h : i < L.length) : app (L.take i) (tokAt L i W) = L.take (i + stp L i W) := by
  unfold app tokAt stp
  by_cases h2 : (long L i W).2 < 2
  · rw [if_pos h2]
    show (if (0 : Int) = 0 then _ else _) = _
    rw [if_pos rfl, show max (long L i W).2 1 = 1 by omega, ← take_at L i h]
    show L.take i ++ [UInt8.ofNat (byt L i).toNat] = _
    unfold byt
    rw [List.getElem?_eq_getElem h, Option.getD_some, Int.toNat_natCast, UInt8.ofNat_toNat]
  · rw [if_neg h2]
    have hz := long_zero L i W
    have hd := long_dist L i W
    have hf := long_fits L i W (by omega)
    show (if ((long L i W).2 : Int) = 0 then _ else _) = _
    rw [if_neg (by omega)]
    show cpy (L.take i) ((long L i W).1 : Int).toNat ((long L i W).2 : Int).toNat = _
    rw [Int.toNat_natCast, Int.toNat_natCast, show max (long L i W).2 1 = (long L i W).2 by omega]
    exact cpy_text L i _ (by omega) hd.2 _ hf (fun j hj => long_same L i W j hj)

theorem byt_le (L : List UInt8) (i : Nat) : 0 ≤ byt L i ∧ byt L i ≤ 255 := by
  unfold byt
  have := UInt8.toNat_lt ((L[i]?).getD 0)
  omega

theorem tokAt_good (L : List UInt8) (i W : Nat) (hW : W ≤ 256) : litB (tokAt L i W) = true ∨ copB (tokAt L i W) = true := by
  unfold tokAt
  by_cases h2 : (long L i W).2 < 2
  · rw [if_pos h2]; left
    have := byt_le L i
    unfold litB
    rw [decide_eq_true_iff]
    exact ⟨rfl, rfl, this.1, this.2⟩
  · rw [if_neg h2]; right
    have hz := long_zero L i W
    have hd := long_dist L i W
    have h64 := long_64 L i W
    unfold copB
    rw [decide_eq_true_iff]
    show 1 ≤ ((long L i W).2 : Int) ∧ ((long L i W).2 : Int) ≤ 64 ∧ 1 ≤ ((long L i W).1 : Int) ∧ ((long L i W).1 : Int) ≤ 256 ∧ (0 : Int) = 0
    omega

theorem tokAt_dist (L : List UInt8) (i W : Nat) : (tokAt L i W).d ≤ (i : Int) := by
  have hd := long_dist L i W
  unfold tokAt
  by_cases h2 : (long L i W).2 < 2
  · rw [if_pos h2]; show (0 : Int) ≤ _; omega
  · rw [if_neg h2]; show ((long L i W).1 : Int) ≤ _; omega

theorem err_tokAt (L : List UInt8) (i W : Nat) (h : i < L.length) (hL : L.length ≤ 600) (hW : W ≤ 256) : err (tokAt L i W) i = 0 := by
  rw [err_cases]
  refine ⟨tokAt_good L i W hW, tokAt_dist L i W, ?_⟩
  have h1 := siz_tokAt L i W
  have h2 := stp_le L i W h
  unfold siz at h1
  omega

theorem exp_par (L : List UInt8) (W : Nat) (hL : L.length ≤ 600) (hW : W ≤ 256) : ∀ (k i : Nat), L.length - i ≤ k → i ≤ L.length → exp (L.take i) (par L W i) = (0, L)
  | 0, i, h, hi => by
    rw [par_end L W i (by omega), List.take_of_length_le (by omega)]
    rfl
  | k + 1, i, h, hi => by
    by_cases hlt : i < L.length
    · rw [par_step L W i hlt]
      unfold exp
      have hlen : (L.take i).length = i := by rw [List.length_take]; omega
      rw [hlen, if_pos (err_tokAt L i W hlt hL hW), app_tokAt L i W hlt]
      have := stp_pos L i W
      exact exp_par L W hL hW k _ (by omega) (stp_le L i W hlt)
    · rw [par_end L W i (by omega), List.take_of_length_le (by omega)]
      rfl

/-! ytemineffflodcaa# no tokens are fewer -/

/-- a copy's bytes are those d before -/
theorem cpy_same (b : List UInt8) (d : Nat) (hd : 1 ≤ d) (hdb : d ≤ b.length) : ∀ k j, j < k → (cpy b d k)[b.length + j]? = (cpy b d k)[b.length + j - d]?
  | 0, j, h => by omega
  | k + 1, j, h => by
    have hl := cpy_length b d k
    unfold cpy
    by_cases e : j = k
    · subst e
      rw [List.getElem?_append_right (by omega), hl, show b.length + j - (b.length + j) = 0 by omega, List.getElem?_append_left (by omega)]
      show some _ = _
      rw [List.getElem?_eq_getElem (by omega), Option.getD_some]
    · rw [List.getElem?_append_left (by omega), List.getElem?_append_left (by omega)]
      exact cpy_same b d hd hdb k j (by omega)

/-- the next greedy step reaches no less far -/
theorem reach (L : List UInt8) (W p q d n : Nat) (hqp : q ≤ p) (hp : p < L.length) (hd : 1 ≤ d) (hdq : d ≤ q) (hdW : d ≤ W) (hn : n ≤ 64) (hq : q + n ≤ L.length) (hs : ∀ j, j < n → L[q + j]? = L[q + j - d]?) : q + n ≤ p + stp L p W := by
  by_cases hle : q + n ≤ p
  · have := stp_pos L p W; omega
  · have h1 : q + n - p ≤ com L p d := by
      refine com_ge L p d _ (by unfold most; omega) (fun j hj => ?_)
      have := hs (p - q + j) (by omega)
      rw [show q + (p - q + j) = p + j by omega] at this
      exact this
    have h2 := (long_best L p W d hd hdW (by omega)).1
    unfold stp
    omega

theorem pre_take {b L : List UInt8} (h : b <+: L) : b = L.take b.length := by
  obtain ⟨t, rfl⟩ := h
  rw [List.take_append_of_le_length (Nat.le_refl _), List.take_length]

theorem fewest (L : List UInt8) (W : Nat) : ∀ (l : List Tok) (q p : Nat), q ≤ p → q ≤ L.length → (∀ t ∈ l, t.d ≤ (W : Int)) → exp (L.take q) l = (0, L) → (par L W p).length ≤ l.length
  | [], q, p, hqp, hq, _, he => by
    have : L.take q = L := (Prod.mk.inj he).2
    have := congrArg List.length this
    rw [List.length_take] at this
    rw [par_end L W p (by omega)]
    exact Nat.le_refl _
  | t :: r, q, p, hqp, hq, hw, he => by
    by_cases hp : p < L.length
    · rw [par_step L W p hp, List.length_cons, List.length_cons]
      have hlen : (L.take q).length = q := by rw [List.length_take]; omega
      unfold exp at he
      rw [hlen] at he
      by_cases e : err t q = 0
      · rw [if_pos e] at he
        have h3 := (err_cases _ _).1 e
        have ht := tok_l t h3.1
        have hpre : app (L.take q) t <+: L := by
          have := exp_pre r (app (L.take q) t) (by rw [he])
          rw [he] at this
          exact this
        have hal := app_length (L.take q) t h3.1
        rw [hlen] at hal
        have hapt := pre_take hpre
        rw [hal] at hapt
        have hql : q + siz t ≤ L.length := by
          have := hpre.length_le
          omega
        have hreach : q + siz t ≤ p + stp L p W := by
          by_cases hl0 : t.l = 0
          · have : siz t = 1 := by unfold siz; omega
            have := stp_pos L p W
            omega
          · have hsz : siz t = t.l.toNat := by unfold siz; omega
            refine reach L W p q t.d.toNat (siz t) hqp hp (by omega) (by omega) ?_ (by omega) hql (fun j hj => ?_)
            · have := hw t (List.mem_cons_self); omega
            · have hc := cpy_same (L.take q) t.d.toNat (by omega) (by rw [hlen]; omega) t.l.toNat j (by omega)
              unfold app at hapt
              rw [if_neg hl0] at hapt
              rw [hapt, hlen, List.getElem?_take, List.getElem?_take, if_pos (by omega), if_pos (by omega)] at hc
              exact hc
        rw [hapt] at he
        have := fewest L W r (q + siz t) (p + stp L p W) hreach hql (fun x hx => hw x (List.mem_cons_of_mem _ hx)) he
        omega
      · rw [if_neg e] at he
        exact absurd (Prod.mk.inj he).1 e
    · rw [par_end L W p (by omega)]
      exact Nat.zero_le _

/-! ytemineffflodcaa# runs -/

theorem run_long (c : UInt8) (n i W : Nat) (hW : 1 ≤ W) (h1 : 1 ≤ i) (hi : i < n) : long (List.replicate n c) i W = (1, min (n - i) 64) := by
  have hm : most (List.replicate n c) i = min (n - i) 64 := by unfold most; rw [List.length_replicate]
  have hc : com (List.replicate n c) i 1 = min (n - i) 64 := by
    refine com_eq _ _ _ _ (by omega) (fun j hj => ?_) (.inl hm.symm)
    rw [List.getElem?_replicate, List.getElem?_replicate, if_pos (by omega), if_pos (by omega)]
  refine long_unique _ _ _ _ _ (Nat.le_refl _) hW h1 (by omega) (by omega) (fun d _ _ _ => ?_) (fun d a b => by omega)
  have := com_le (List.replicate n c) i d
  omega

theorem run_len (c : UInt8) (n W : Nat) (hW : 1 ≤ W) : ∀ (k i : Nat), n - i ≤ k → 1 ≤ i → (par (List.replicate n c) W i).length = (n - i + 63) / 64
  | 0, i, h, h1 => by rw [par_end _ _ _ (by rw [List.length_replicate]; omega), show n - i = 0 by omega]; rfl
  | k + 1, i, h, h1 => by
    by_cases hi : i < n
    · have hl := run_long c n i W hW h1 hi
      have hs : stp (List.replicate n c) i W = min (n - i) 64 := by unfold stp; rw [hl]; show max (min (n - i) 64) 1 = _; omega
      rw [par_step _ _ _ (by rw [List.length_replicate]; exact hi), List.length_cons, hs, run_len c n W hW k _ (by omega) (by omega)]
      omega
    · rw [par_end _ _ _ (by rw [List.length_replicate]; omega), show n - i = 0 by omega]; rfl

theorem long_start (L : List UInt8) (W : Nat) : long L 0 W = (0, 0) := long_none L 0 W (fun d h1 _ h3 => by omega)

theorem run_all (c : UInt8) (n W : Nat) (hW : 1 ≤ W) (hn : 0 < n) : (par (List.replicate n c) W 0).length = 1 + (n - 1 + 63) / 64 := by
  have hs : stp (List.replicate n c) 0 W = 1 := by unfold stp; rw [long_start]; rfl
  rw [par_step _ _ _ (by rw [List.length_replicate]; exact hn), List.length_cons, hs, run_len c n W hW n _ (by omega) (by omega)]
  omega

/-- unlike bytes are just bytes -/
theorem unlike (L : List UInt8) (W : Nat) (hu : ∀ i j, i < L.length → j < i → L[i]? ≠ L[j]?) : ∀ (k i : Nat), L.length - i ≤ k → (par L W i).length = L.length - i ∧ ∀ t ∈ par L W i, t.l = 0
  | 0, i, h => by rw [par_end L W i (by omega)]; exact ⟨by rw [List.length_nil]; omega, fun t ht => by simp at ht⟩
  | k + 1, i, h => by
    by_cases hi : i < L.length
    · have hl : long L i W = (0, 0) := long_none L i W (fun d h1 _ h3 => by
        rcases Nat.eq_zero_or_pos (com L i d) with e | e
        · exact e
        · have := com_same L i d 0 e
          exact absurd this (hu i (i - d) hi (by omega)))
      have hs : stp L i W = 1 := by unfold stp; rw [hl]; rfl
      have ht : (tokAt L i W).l = 0 := by unfold tokAt; rw [hl]; rfl
      obtain ⟨a, b⟩ := unlike L W hu k (i + 1) (by omega)
      rw [par_step L W i hi, hs, List.length_cons, a]
      refine ⟨by omega, fun t hm => ?_⟩
      rcases List.mem_cons.1 hm with rfl | hm
      · exact ht
      · exact b t hm
    · rw [par_end L W i (by omega)]; exact ⟨by rw [List.length_nil]; omega, fun t ht => by simp at ht⟩

end WoolLz
