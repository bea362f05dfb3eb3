/-
  Plain mathematics of chunks: where the first chunk of a text ends, where all end, and what follows from it. No condition but those that each says.
-/
import Derived.Test.YtcbppfndlagodaaGreatJTopBackup29
namespace Go.Proofs.YtcbppfndlagodaaGreat
open Go.Proofs

/-- a window of a text: so many bytes from a place on -/
def wnd (l : List UInt8) (a n : Nat) : List UInt8 := (l.drop a).take n

/-- is there a mark ahead of the place n? -/
def mk (l : List UInt8) (mask n : Nat) : Bool := fp 65581 (wnd l (n - 8) (n - (n - 8))) &&& mask == mask

theorem mk_append (l k : List UInt8) (mask n : Nat) (h : n ≤ l.length) : mk (l ++ k) mask n = mk l mask n := by
  unfold mk wnd
  rw [List.drop_append_of_le_length (by omega), List.take_append_of_le_length (by rw [List.length_drop]; omega)]

theorem mk_zero (l : List UInt8) (n : Nat) : mk l 0 n = true := by
  unfold mk; rw [Nat.and_zero]; rfl

theorem mk_or (l : List UInt8) (a b n : Nat) (h : mk l (a ||| b) n = true) : mk l a n = true := by
  unfold mk at *
  rw [beq_iff_eq] at *
  generalize fp 65581 (wnd l (n - 8) (n - (n - 8))) = p at *
  apply Nat.eq_of_testBit_eq
  intro i
  have := congrArg (fun z => z.testBit i) h
  simp only [Nat.testBit_and, Nat.testBit_or] at this
  rw [Nat.testBit_and]
  cases ha : a.testBit i
  · simp
  · rw [ha] at this; simpa using this

/-- from n on, the first place with a mark ahead of it, or the end -/
def scan (l : List UInt8) (mask E : Nat) : Nat → Nat → Nat
  | 0, _ => E
  | f + 1, n => if n < E then (if mk l mask n then n else scan l mask E f (n + 1)) else E

/-- how long the first chunk is -/
def chunk (l : List UInt8) (least most mask : Nat) : Nat := scan l mask (min l.length most) (min l.length most) least

/-- c is where the first chunk ends -/
def IsChunk (l : List UInt8) (least most mask c : Nat) : Prop :=
  c ≤ min l.length most ∧ (c = min l.length most ∨ (least ≤ c ∧ mk l mask c = true)) ∧ ∀ n, least ≤ n → n < c → mk l mask n = false

theorem scan_is (l : List UInt8) (mask E : Nat) : ∀ (f n : Nat), E ≤ f + n → ∃ c, scan l mask E f n = c ∧ c ≤ E ∧ (c = E ∨ (n ≤ c ∧ mk l mask c = true)) ∧ ∀ k, n ≤ k → k < c → mk l mask k = false := by
  intro f
  induction f with
  | zero =>
    intro n hn
    exact ⟨E, rfl, Nat.le_refl _, .inl rfl, fun k h1 h2 => by omega⟩
  | succ f ih =>
    intro n hn
    unfold scan
    by_cases h : n < E
    · rw [if_pos h]
      by_cases hm : mk l mask n = true
      · rw [if_pos hm]
        exact ⟨n, rfl, by omega, .inr ⟨Nat.le_refl _, hm⟩, fun k h1 h2 => by omega⟩
      · rw [if_neg hm]
        obtain ⟨c, hc, h1, h2, h3⟩ := ih (n + 1) (by omega)
        refine ⟨c, hc, h1, ?_, ?_⟩
        · rcases h2 with h2 | ⟨h2, h4⟩
          · exact .inl h2
          · exact .inr ⟨by omega, h4⟩
        · intro k k1 k2
          by_cases e : k = n
          · subst e; simpa using hm
          · exact h3 k (by omega) k2
    · rw [if_neg h]
      exact ⟨E, rfl, Nat.le_refl _, .inl rfl, fun k h1 h2 => by omega⟩

theorem chunk_is (l : List UInt8) (least most mask : Nat) : IsChunk l least most mask (chunk l least most mask) := by
  obtain ⟨c, hc, h1, h2, h3⟩ := scan_is l mask (min l.length most) (min l.length most) least (by omega)
  unfold chunk
  rw [hc]
  exact ⟨h1, h2, h3⟩

theorem IsChunk.unique {l : List UInt8} {least most mask c d : Nat} (h : IsChunk l least most mask c) (k : IsChunk l least most mask d) : c = d := by
  have key : ∀ {c d : Nat}, IsChunk l least most mask c → IsChunk l least most mask d → ¬ c < d := by
    intro c d h k hlt
    rcases h.2.1 with e | ⟨e1, e2⟩
    · have := k.1; omega
    · have := k.2.2 c e1 hlt
      rw [e2] at this; cases this
  have h1 := key h k
  have h2 := key k h
  omega

theorem IsChunk.eq {l : List UInt8} {least most mask c : Nat} (h : IsChunk l least most mask c) : chunk l least most mask = c := (chunk_is l least most mask).unique h

theorem chunk_le (l : List UInt8) (least most mask : Nat) : chunk l least most mask ≤ l.length := by
  have := (chunk_is l least most mask).1; omega

theorem chunk_most (l : List UInt8) (least most mask : Nat) : chunk l least most mask ≤ most := by
  have := (chunk_is l least most mask).1; omega

theorem chunk_pos (l : List UInt8) (least most mask : Nat) (h1 : 1 ≤ least) (h2 : least ≤ most) (hl : l ≠ []) : 0 < chunk l least most mask := by
  have hlen : 0 < l.length := List.length_pos_iff.2 hl
  rcases (chunk_is l least most mask).2.1 with e | ⟨e, _⟩ <;> omega

/-- a chunk that is not the last has its least bytes -/
theorem chunk_least (l : List UInt8) (least most mask : Nat) (h2 : least ≤ most) (hl : chunk l least most mask < l.length) : least ≤ chunk l least most mask := by
  rcases (chunk_is l least most mask).2.1 with e | ⟨e, _⟩ <;> omega

theorem chunk_append (l k : List UInt8) (least most mask : Nat) (hl : chunk l least most mask < l.length) : chunk (l ++ k) least most mask = chunk l least most mask := by
  have hc := chunk_is l least most mask
  apply IsChunk.eq
  generalize chunk l least most mask = c at *
  obtain ⟨h1, h2, h3⟩ := hc
  refine ⟨by rw [List.length_append]; omega, ?_, ?_⟩
  · rcases h2 with e | ⟨e1, e2⟩
    · left; rw [List.length_append]; omega
    · exact .inr ⟨e1, by rw [mk_append _ _ _ _ (by omega)]; exact e2⟩
  · intro n n1 n2
    rw [mk_append _ _ _ _ (by omega)]
    exact h3 n n1 n2

theorem chunk_zero (l : List UInt8) (least most : Nat) (h : least ≤ most) : chunk l least most 0 = min l.length least := by
  apply IsChunk.eq
  refine ⟨by omega, ?_, ?_⟩
  · by_cases h1 : l.length ≤ least
    · left; omega
    · right; exact ⟨by omega, mk_zero _ _⟩
  · intro n n1 n2; omega

theorem chunk_more (l : List UInt8) (least most a b : Nat) : chunk l least most a ≤ chunk l least most (a ||| b) := by
  have h1 := chunk_is l least most a
  have h2 := chunk_is l least most (a ||| b)
  generalize chunk l least most a = c at *
  generalize chunk l least most (a ||| b) = d at *
  apply Nat.le_of_not_lt
  intro hlt
  rcases h2.2.1 with e | ⟨e1, e2⟩
  · have := h1.1; omega
  · have := h1.2.2 d e1 hlt
    rw [mk_or _ _ _ _ e2] at this
    cases this

/-! ytcbppfndlagodaagreat# all ends -/

/-- where the chunks end, from a place on -/
def endsO (least most mask : Nat) : Nat → Nat → List UInt8 → List Nat
  | 0, _, _ => []
  | f + 1, b, l => if l = [] then [] else (b + chunk l least most mask) :: endsO least most mask f (b + chunk l least most mask) (l.drop (chunk l least most mask))

def ends (least most mask : Nat) (l : List UInt8) : List Nat := endsO least most mask l.length 0 l

theorem endsO_enough (least most mask : Nat) (h1 : 1 ≤ least) (h2 : least ≤ most) : ∀ (f g b : Nat) (l : List UInt8), l.length ≤ f → l.length ≤ g → endsO least most mask f b l = endsO least most mask g b l := by
  intro f
  induction f with
  | zero =>
    intro g b l hf _
    have : l = [] := List.eq_nil_of_length_eq_zero (by omega)
    subst this
    cases g <;> simp [endsO]
  | succ f ih =>
    intro g b l hf hg
    by_cases hl : l = []
    · subst hl; cases g <;> simp [endsO]
    · have hp := chunk_pos l least most mask h1 h2 hl
      have hlen : 0 < l.length := List.length_pos_iff.2 hl
      cases g with
      | zero => omega
      | succ g =>
        rw [endsO, endsO, if_neg hl, if_neg hl, ih g _ _ (by rw [List.length_drop]; omega) (by rw [List.length_drop]; omega)]

theorem endsO_shift (least most mask : Nat) : ∀ (f b c : Nat) (l : List UInt8), endsO least most mask f (b + c) l = (endsO least most mask f c l).map (b + ·) := by
  intro f
  induction f with
  | zero => intro b c l; rfl
  | succ f ih =>
    intro b c l
    by_cases hl : l = []
    · subst hl; simp [endsO]
    · rw [endsO, endsO, if_neg hl, if_neg hl, List.map_cons, Nat.add_assoc, ih]

theorem ends_nil (least most mask : Nat) : ends least most mask [] = [] := rfl

theorem ends_cons (least most mask : Nat) (h1 : 1 ≤ least) (h2 : least ≤ most) (l : List UInt8) (hl : l ≠ []) :
    ends least most mask l = chunk l least most mask :: (ends least most mask (l.drop (chunk l least most mask))).map (chunk l least most mask + ·) := by
  have hlen : 0 < l.length := List.length_pos_iff.2 hl
  have hp := chunk_pos l least most mask h1 h2 hl
  obtain ⟨f, hf⟩ : ∃ f, l.length = f + 1 := ⟨l.length - 1, by omega⟩
  unfold ends
  rw [hf, endsO, if_neg hl, Nat.zero_add]
  congr 1
  have e := endsO_shift least most mask f (chunk l least most mask) 0 (l.drop (chunk l least most mask))
  rw [Nat.add_zero] at e
  rw [e, endsO_enough least most mask h1 h2 f (l.drop (chunk l least most mask)).length 0 _ (by rw [List.length_drop]; omega) (Nat.le_refl _)]

theorem len_ind {P : List UInt8 → Prop} (h : ∀ l, (∀ k, k.length < l.length → P k) → P l) : ∀ l, P l := by
  have : ∀ n l, l.length ≤ n → P l := by
    intro n
    induction n with
    | zero => intro l hl; exact h l (fun k hk => by omega)
    | succ n ih => intro l hl; exact h l (fun k hk => ih k (by omega))
  exact fun l => this l.length l (Nat.le_refl _)

theorem chunk_ind (least most mask : Nat) (h1 : 1 ≤ least) (h2 : least ≤ most) {P : List UInt8 → Prop} (h0 : P []) (hs : ∀ l, l ≠ [] → P (l.drop (chunk l least most mask)) → P l) : ∀ l, P l := by
  refine len_ind ?_
  intro l ih
  by_cases hl : l = []
  · subst hl; exact h0
  · have hlen : 0 < l.length := List.length_pos_iff.2 hl
    have hp := chunk_pos l least most mask h1 h2 hl
    exact hs l hl (ih _ (by rw [List.length_drop]; omega))

/-- rising, from a place on, up to the length -/
theorem ends_sorted (least most mask : Nat) (h1 : 1 ≤ least) (h2 : least ≤ most) : ∀ l, (ends least most mask l).Pairwise (· < ·) ∧ (∀ e ∈ ends least most mask l, 0 < e ∧ e ≤ l.length) := by
  refine chunk_ind least most mask h1 h2 ?_ ?_
  · rw [ends_nil]; exact ⟨List.Pairwise.nil, by simp⟩
  · intro l hl ih
    have hp := chunk_pos l least most mask h1 h2 hl
    have hc := chunk_le l least most mask
    rw [ends_cons least most mask h1 h2 l hl]
    generalize chunk l least most mask = c at *
    obtain ⟨i1, i2⟩ := ih
    constructor
    · rw [List.pairwise_cons]
      constructor
      · intro a ha
        rw [List.mem_map] at ha
        obtain ⟨x, hx, rfl⟩ := ha
        have := (i2 x hx).1; omega
      · rw [List.pairwise_map]
        exact i1.imp (fun h => by omega)
    · intro e he
      rw [List.mem_cons, List.mem_map] at he
      rcases he with rfl | ⟨x, hx, rfl⟩
      · exact ⟨hp, hc⟩
      · have := i2 x hx
        rw [List.length_drop] at this
        omega

theorem ends_empty_iff (least most mask : Nat) (h1 : 1 ≤ least) (h2 : least ≤ most) (l : List UInt8) : ends least most mask l = [] ↔ l = [] := by
  constructor
  · intro h
    apply Classical.byContradiction
    intro hl
    rw [ends_cons least most mask h1 h2 l hl] at h
    cases h
  · rintro rfl; rfl

theorem ends_last (least most mask : Nat) (h1 : 1 ≤ least) (h2 : least ≤ most) : ∀ l, l ≠ [] → ∃ pre, ends least most mask l = pre ++ [l.length] := by
  refine chunk_ind least most mask h1 h2 (fun h => absurd rfl h) ?_
  intro l hl ih _
  have hc := chunk_le l least most mask
  rw [ends_cons least most mask h1 h2 l hl]
  by_cases hd : l.drop (chunk l least most mask) = []
  · rw [hd, ends_nil]
    have := List.drop_eq_nil_iff.1 hd
    exact ⟨[], by rw [List.map_nil, List.nil_append]; congr 1; omega⟩
  · obtain ⟨pre, hpre⟩ := ih hd
    rw [hpre, List.length_drop, List.map_append]
    exact ⟨chunk l least most mask :: pre.map (chunk l least most mask + ·), by
      rw [List.cons_append, List.map_cons, List.map_nil, Nat.add_sub_cancel' hc]⟩

theorem ends_length (least most mask : Nat) (h1 : 1 ≤ least) (h2 : least ≤ most) : ∀ l, (ends least most mask l).length ≤ l.length := by
  refine chunk_ind least most mask h1 h2 (Nat.le_refl _) ?_
  intro l hl ih
  have hp := chunk_pos l least most mask h1 h2 hl
  have hc := chunk_le l least most mask
  rw [ends_cons least most mask h1 h2 l hl, List.length_cons, List.length_map]
  rw [List.length_drop] at ih
  omega

/-- behind a cut it goes on as at the beginning -/
theorem ends_local (least most mask : Nat) (h1 : 1 ≤ least) (h2 : least ≤ most) : ∀ (l : List UInt8) (i : Nat) (hi : i < (ends least most mask l).length),
    (ends least most mask l).drop (i + 1) = (ends least most mask (l.drop (ends least most mask l)[i])).map ((ends least most mask l)[i] + ·) := by
  refine chunk_ind least most mask h1 h2 (fun i hi => by simp [ends_nil] at hi) ?_
  intro l hl ih i hi
  have e := ends_cons least most mask h1 h2 l hl
  generalize chunk l least most mask = c at *
  generalize hE : ends least most mask l = E at *
  subst e
  cases i with
  | zero => rfl
  | succ i =>
    have hi' : i < (ends least most mask (l.drop c)).length := by simpa using hi
    have := ih i hi'
    rw [List.drop_succ_cons, List.getElem_cons_succ, List.getElem_map, ← List.map_drop, this, List.map_map, ← List.drop_drop]
    congr 1
    funext x
    show c + ((ends least most mask (l.drop c))[i] + x) = c + (ends least most mask (l.drop c))[i] + x
    omega

/-- with more behind it a text is cut as it was, but at its end -/
theorem ends_ahead (least most mask : Nat) (h1 : 1 ≤ least) (h2 : least ≤ most) (t : List UInt8) : ∀ s : List UInt8, ∃ pre more, (s ≠ [] → ends least most mask s = pre ++ [s.length]) ∧ (s = [] → pre = []) ∧ ends least most mask (s ++ t) = pre ++ more := by
  refine chunk_ind least most mask h1 h2 ⟨[], _, fun h => absurd rfl h, fun _ => rfl, rfl⟩ ?_
  intro s hs ih
  have hc := chunk_le s least most mask
  by_cases hlt : chunk s least most mask < s.length
  · obtain ⟨pre, more, i1, _, i3⟩ := ih
    have hd : s.drop (chunk s least most mask) ≠ [] := fun h => by have := List.drop_eq_nil_iff.1 h; omega
    have e1 := ends_cons least most mask h1 h2 s hs
    have e2 := ends_cons least most mask h1 h2 (s ++ t) (by simp [hs])
    rw [chunk_append s t least most mask hlt, List.drop_append_of_le_length hc, i3] at e2
    rw [i1 hd, List.length_drop] at e1
    refine ⟨chunk s least most mask :: pre.map (chunk s least most mask + ·), more.map (chunk s least most mask + ·), fun _ => ?_, fun h => absurd h hs, ?_⟩
    · rw [e1, List.map_append, List.cons_append, List.map_cons, List.map_nil, Nat.add_sub_cancel' hc]
    · rw [e2, List.map_append, List.cons_append]
  · have hce : chunk s least most mask = s.length := by omega
    refine ⟨[], ends least most mask (s ++ t), fun _ => ?_, fun _ => rfl, rfl⟩
    rw [ends_cons least most mask h1 h2 s hs, hce, List.drop_length, ends_nil]
    rfl

theorem ends_cut (least most mask : Nat) (h1 : 1 ≤ least) (h2 : least ≤ most) (l : List UInt8) (p q : Nat) (hp : p ∈ ends least most mask l) (hq : p < q) :
    q ∈ ends least most mask l ↔ q - p ∈ ends least most mask (l.drop p) := by
  obtain ⟨i, hi, rfl⟩ := List.mem_iff_getElem.1 hp
  have hloc := ends_local least most mask h1 h2 l i hi
  have hsort := (ends_sorted least most mask h1 h2 l).1
  generalize hE : ends least most mask l = E at *
  have hmem : q ∈ E ↔ q ∈ E.drop (i + 1) := by
    constructor
    · intro h
      obtain ⟨j, hj, rfl⟩ := List.mem_iff_getElem.1 h
      rcases Nat.lt_or_ge i j with hij | hij
      · rw [List.mem_iff_getElem]
        exact ⟨j - (i + 1), by rw [List.length_drop]; omega, by rw [List.getElem_drop]; congr 1; omega⟩
      · rcases Nat.lt_or_ge j i with hji | hji
        · have := List.pairwise_iff_getElem.1 hsort j i hj hi hji
          omega
        · have : i = j := by omega
          subst this; omega
    · exact List.mem_of_mem_drop
  rw [hmem, hloc, List.mem_map]
  constructor
  · rintro ⟨x, hx, rfl⟩
    rwa [Nat.add_sub_cancel_left]
  · intro h
    exact ⟨q - E[i], h, by omega⟩

theorem ends_again (least most mask : Nat) (h1 : 1 ≤ least) (h2 : least ≤ most) (a b s : List UInt8) (i j : Nat) (hij : i ≤ j)
    (ha : a.length + i ∈ ends least most mask (a ++ s)) (hb : b.length + i ∈ ends least most mask (b ++ s)) :
    a.length + j ∈ ends least most mask (a ++ s) ↔ b.length + j ∈ ends least most mask (b ++ s) := by
  rcases Nat.lt_or_ge i j with h | h
  · rw [ends_cut least most mask h1 h2 _ _ _ ha (by omega), ends_cut least most mask h1 h2 _ _ _ hb (by omega)]
    have ea : (a ++ s).drop (a.length + i) = s.drop i := by rw [← List.drop_drop, List.drop_left]
    have eb : (b ++ s).drop (b.length + i) = s.drop i := by rw [← List.drop_drop, List.drop_left]
    rw [ea, eb, show a.length + j - (a.length + i) = j - i by omega, show b.length + j - (b.length + i) = j - i by omega]
  · have : i = j := by omega
    subst this
    exact ⟨fun _ => hb, fun _ => ha⟩

/-- the sizes of the pieces: each end and the one ahead of it -/
theorem ends_sizes (least most mask : Nat) (h1 : 1 ≤ least) (h2 : least ≤ most) : ∀ (l : List UInt8) (i : Nat) (hi : i < (ends least most mask l).length),
    (ends least most mask l)[i] - (if i = 0 then 0 else (ends least most mask l).getD (i - 1) 0) ≤ most ∧
      (i + 1 < (ends least most mask l).length → least ≤ (ends least most mask l)[i] - (if i = 0 then 0 else (ends least most mask l).getD (i - 1) 0)) := by
  refine chunk_ind least most mask h1 h2 (fun i hi => by simp [ends_nil] at hi) ?_
  intro l hl ih i hi
  have e := ends_cons least most mask h1 h2 l hl
  have hm := chunk_most l least most mask
  have hls := chunk_least l least most mask h2
  have hle := chunk_le l least most mask
  generalize chunk l least most mask = c at *
  generalize hE : ends least most mask l = E at *
  have hdrop : ∀ x, x ∈ ends least most mask (l.drop c) → c < l.length := by
    intro x hx
    have := (ends_sorted least most mask h1 h2 (l.drop c)).2 x hx
    rw [List.length_drop] at this
    omega
  subst e
  cases i with
  | zero =>
    rw [if_pos rfl, List.getElem_cons_zero]
    refine ⟨by omega, fun h => ?_⟩
    rw [List.length_cons, List.length_map] at h
    have : 0 < (ends least most mask (l.drop c)).length := by omega
    have := hls (hdrop _ (List.getElem_mem this))
    omega
  | succ i =>
    have hi' : i < (ends least most mask (l.drop c)).length := by simpa using hi
    obtain ⟨i1, i2⟩ := ih i hi'
    rw [if_neg (by omega), List.getElem_cons_succ, List.getElem_map, Nat.add_sub_cancel]
    cases i with
    | zero =>
      rw [if_pos rfl] at i1 i2
      rw [show (c :: (ends least most mask (l.drop c)).map (c + ·)).getD 0 0 = c from rfl]
      refine ⟨by omega, fun h => ?_⟩
      rw [List.length_cons, List.length_map] at h
      have := i2 (by omega)
      omega
    | succ i =>
      rw [if_neg (by omega), Nat.add_sub_cancel] at i1 i2
      have hg : (c :: (ends least most mask (l.drop c)).map (c + ·)).getD (i + 1) 0 = c + (ends least most mask (l.drop c)).getD i 0 := by
        rw [List.getD_eq_getElem?_getD, List.getElem?_cons_succ, List.getElem?_map, List.getD_eq_getElem?_getD, List.getElem?_eq_getElem (by omega)]
        rfl
      rw [hg]
      refine ⟨by omega, fun h => ?_⟩
      rw [List.length_cons, List.length_map] at h
      have := i2 (by omega)
      omega

/-- without a mask -/
theorem ends_even (least most : Nat) (h1 : 1 ≤ least) (h2 : least ≤ most) : ∀ (l : List UInt8), (ends least most 0 l).length = (l.length + least - 1) / least ∧ ∀ i (hi : i < (ends least most 0 l).length), (ends least most 0 l)[i] = min l.length ((i + 1) * least) := by
  refine chunk_ind least most 0 h1 h2 ?_ ?_
  · refine ⟨?_, fun i hi => by simp [ends_nil] at hi⟩
    rw [ends_nil]
    show 0 = (0 + least - 1) / least
    rw [Nat.div_eq_of_lt (by omega)]
  · intro l hl ih
    have hlen : 0 < l.length := List.length_pos_iff.2 hl
    have e := ends_cons least most 0 h1 h2 l hl
    rw [chunk_zero l least most h2] at e ih
    rw [List.length_drop] at ih
    obtain ⟨i1, i2⟩ := ih
    generalize hE : ends least most 0 l = E at *
    subst e
    constructor
    · rw [List.length_cons, List.length_map, i1]
      rcases Nat.lt_or_ge least l.length with h | h
      rotate_left
      · rw [Nat.min_eq_left h, Nat.sub_self, Nat.zero_add, Nat.div_eq_of_lt (show least - 1 < least by omega)]
        have : l.length + least - 1 = (l.length - 1) + least := by omega
        rw [this, Nat.add_div_right _ (by omega), Nat.div_eq_of_lt (by omega)]
      · rw [Nat.min_eq_right (by omega)]
        have : l.length + least - 1 = (l.length - least + least - 1) + least := by omega
        rw [this, Nat.add_div_right _ (by omega)]
    · intro i hi
      cases i with
      | zero => simp
      | succ i =>
        have hi' : i < (ends least most 0 (l.drop (min l.length least))).length := by simpa using hi
        rw [List.getElem_cons_succ, List.getElem_map, i2 i hi']
        rw [Nat.add_mul (i + 1) 1, Nat.one_mul]
        generalize (i + 1) * least = z
        omega

end Go.Proofs.YtcbppfndlagodaaGreat
