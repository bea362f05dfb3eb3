/-
  Plain mathematics of frames: numbers as bytes, the most significant first, and back; a frame, and what is read off a text. No condition but those that each says.
-/
import Derived.Test.YtbeigaanlhaolaaDoorPrintM
namespace Go.Proofs.YtbeigaanlhaolaaDoor

/-- n in k bytes, the most significant first -/
def nb (n : Nat) : Nat → List UInt8
  | 0 => []
  | k + 1 => nb (n / 256) k ++ [UInt8.ofNat n]

theorem nb_length (k : Nat) : ∀ n, (nb n k).length = k := by
  induction k with
  | zero => intro n; rfl
  | succ k ih => intro n; rw [nb, List.length_append, ih]; rfl

/-- the number whose bytes are l -/
def nv (l : List UInt8) : Nat := l.foldl (fun a c => a * 256 + c.toNat) 0

theorem nv_nil : nv [] = 0 := rfl
theorem nv_snoc (l : List UInt8) (c : UInt8) : nv (l ++ [c]) = nv l * 256 + c.toNat := by
  unfold nv
  rw [List.foldl_append]
  rfl

theorem nv_nb (k : Nat) : ∀ n, n < 256 ^ k → nv (nb n k) = n := by
  induction k with
  | zero => intro n h; simp at h; subst h; rfl
  | succ k ih =>
    intro n h
    rw [nb, nv_snoc, ih _ (by rw [Nat.pow_succ] at h; omega)]
    have : (UInt8.ofNat n).toNat = n % 256 := UInt8.toNat_ofNat'
    omega

theorem nv_lt (l : List UInt8) : nv l < 256 ^ l.length := by
  induction l using snoc_ind with
  | h0 => decide
  | hs l c ih =>
    rw [nv_snoc, List.length_append, List.length_singleton, Nat.pow_succ]
    have : c.toNat < 256 := c.toNat_lt
    omega

theorem nb_nv (l : List UInt8) : nb (nv l) l.length = l := by
  induction l using snoc_ind with
  | h0 => rfl
  | hs l c ih =>
    rw [nv_snoc, List.length_append, List.length_singleton, nb]
    have h : c.toNat < 256 := c.toNat_lt
    have h1 : (nv l * 256 + c.toNat) / 256 = nv l := by omega
    have h2 : UInt8.ofNat (nv l * 256 + c.toNat) = c := by
      apply UInt8.toNat_inj.1
      rw [UInt8.toNat_ofNat']
      omega
    rw [h1, h2, ih]

/-- the bytes of a frame ahead of its print -/
def hb (K : Nat) (b : List UInt8) : List UInt8 := nb K 1 ++ (nb b.length 2 ++ b)

/-- a frame -/
def frm (K : Nat) (b : List UInt8) : List UInt8 := hb K b ++ nb (fp 1073741907 (hb K b)) 4

theorem hb_length (K : Nat) (b : List UInt8) : (hb K b).length = b.length + 3 := by
  unfold hb
  rw [List.length_append, List.length_append, nb_length, nb_length]
  omega

theorem frm_length (K : Nat) (b : List UInt8) : (frm K b).length = b.length + 7 := by
  unfold frm
  rw [List.length_append, hb_length, nb_length]

/-- what Put answers: the bytes and the error -/
def putV (k : Int) (b : List UInt8) : List UInt8 × Nat :=
  if k < 1 ∨ 255 < k then ([], 1) else if 700 < b.length then ([], 2) else (frm k.toNat b, 0)

/-- how long the body is, as the text says -/
def bl (s : List UInt8) : Nat := nv ((s.drop 1).take 2)

/-- what Get answers: kind and body, how many bytes, the error -/
def getV (s : List UInt8) : (Nat × List UInt8) × Nat × Nat :=
  if s.length < 3 then ((0, []), 0, 7)
  else if nv (s.take 1) = 0 ∨ 700 < bl s then ((0, []), 0, 3)
  else if s.length < bl s + 7 then ((0, []), 0, 7)
  else if nv ((s.drop (3 + bl s)).take 4) ≠ fp 1073741907 (s.take (3 + bl s)) then ((0, []), 0, 6)
  else ((nv (s.take 1), (s.drop 3).take (bl s)), bl s + 7, 0)

theorem fp30 (l : List UInt8) : fp 1073741907 l < 1073741824 := fp_le _ (by omega) (by omega) l

theorem bl_lt (s : List UInt8) : bl s < 65536 := by
  have := nv_lt ((s.drop 1).take 2)
  have h : ((s.drop 1).take 2).length ≤ 2 := by rw [List.length_take]; omega
  have h2 : 256 ^ ((s.drop 1).take 2).length ≤ 256 ^ 2 := Nat.pow_le_pow_right (by omega) h
  exact Nat.lt_of_lt_of_le this h2

theorem kind_lt (s : List UInt8) : nv (s.take 1) < 256 := by
  have := nv_lt (s.take 1)
  have h : (s.take 1).length ≤ 1 := by rw [List.length_take]; omega
  have h2 : 256 ^ (s.take 1).length ≤ 256 ^ 1 := Nat.pow_le_pow_right (by omega) h
  exact Nat.lt_of_lt_of_le this h2

/-- the head and the body of a text that is long enough -/
theorem hb_of (s : List UInt8) (h : 3 + bl s ≤ s.length) : hb (nv (s.take 1)) ((s.drop 3).take (bl s)) = s.take (3 + bl s) := by
  have h1 : nb (nv (s.take 1)) 1 = s.take 1 := by
    have := nb_nv (s.take 1)
    rwa [show (s.take 1).length = 1 by rw [List.length_take]; omega] at this
  have h2 : nb (bl s) 2 = (s.drop 1).take 2 := by
    have := nb_nv ((s.drop 1).take 2)
    rwa [show ((s.drop 1).take 2).length = 2 by rw [List.length_take, List.length_drop]; omega] at this
  have h3 : ((s.drop 3).take (bl s)).length = bl s := by rw [List.length_take, List.length_drop]; omega
  unfold hb
  rw [h3, h1, h2, show 3 + bl s = 1 + (2 + bl s) by omega, List.take_add, List.take_add, List.drop_drop]

/-- the whole frame is there just if its last four bytes are the print -/
theorem frm_of (s : List UInt8) (h : 7 + bl s ≤ s.length) : frm (nv (s.take 1)) ((s.drop 3).take (bl s)) = s.take (bl s + 7) ↔ nv ((s.drop (3 + bl s)).take 4) = fp 1073741907 (s.take (3 + bl s)) := by
  have hl : ((s.drop (3 + bl s)).take 4).length = 4 := by rw [List.length_take, List.length_drop]; omega
  have hs : s.take (bl s + 7) = s.take (3 + bl s) ++ (s.drop (3 + bl s)).take 4 := by
    rw [show bl s + 7 = (3 + bl s) + 4 by omega, List.take_add]
  unfold frm
  rw [hb_of s (by omega), hs, List.append_cancel_left_eq]
  constructor
  · intro e
    rw [← e]
    exact nv_nb 4 _ (Nat.lt_of_lt_of_le (fp30 _) (by decide))
  · intro e
    have := nb_nv ((s.drop (3 + bl s)).take 4)
    rw [hl, e] at this
    exact this

/-- the head of a frame, whatever stands behind it -/
theorem frm_head (K : Nat) (b more : List UInt8) (hK : K < 256) (hb' : b.length < 65536) : nv ((frm K b ++ more).take 1) = K ∧ bl (frm K b ++ more) = b.length ∧ ((frm K b ++ more).drop 3).take b.length = b ∧
    (frm K b ++ more).take (3 + b.length) = hb K b ∧ ((frm K b ++ more).drop (3 + b.length)).take 4 = nb (fp 1073741907 (hb K b)) 4 := by
  have e1 : frm K b ++ more = nb K 1 ++ (nb b.length 2 ++ (b ++ (nb (fp 1073741907 (hb K b)) 4 ++ more))) := by
    unfold frm
    conv => lhs; lhs; lhs; unfold hb
    simp only [List.append_assoc]
  have e2 : frm K b ++ more = hb K b ++ (nb (fp 1073741907 (hb K b)) 4 ++ more) := by unfold frm; rw [List.append_assoc]
  have t1 : (frm K b ++ more).take 1 = nb K 1 := by rw [e1]; exact List.take_left' (nb_length 1 K)
  have d1 : (frm K b ++ more).drop 1 = nb b.length 2 ++ (b ++ (nb (fp 1073741907 (hb K b)) 4 ++ more)) := by rw [e1]; exact List.drop_left' (nb_length 1 K)
  have t2 : ((frm K b ++ more).drop 1).take 2 = nb b.length 2 := by rw [d1]; exact List.take_left' (nb_length 2 _)
  have d3 : (frm K b ++ more).drop 3 = b ++ (nb (fp 1073741907 (hb K b)) 4 ++ more) := by
    rw [show 3 = 1 + 2 from rfl, ← List.drop_drop, d1]; exact List.drop_left' (nb_length 2 _)
  refine ⟨by rw [t1]; exact nv_nb 1 K (by omega), by unfold bl; rw [t2]; exact nv_nb 2 _ (by omega), by rw [d3]; exact List.take_left' rfl, ?_, ?_⟩
  · rw [e2]; exact List.take_left' (by rw [hb_length]; omega)
  · rw [e2, List.drop_left' (by rw [hb_length]; omega)]; exact List.take_left' (nb_length 4 _)

theorem get_put (K : Nat) (b more : List UInt8) (h0 : 1 ≤ K) (h1 : K ≤ 255) (h2 : b.length ≤ 700) : getV (frm K b ++ more) = ((K, b), b.length + 7, 0) := by
  obtain ⟨a1, a2, a3, a4, a5⟩ := frm_head K b more (by omega) (by omega)
  have hl : (frm K b ++ more).length = b.length + 7 + more.length := by rw [List.length_append, frm_length]
  unfold getV
  rw [a1, a2, a3, a4, a5, nv_nb 4 _ (Nat.lt_of_lt_of_le (fp30 _) (by decide)), hl, if_neg (by omega), if_neg (by omega), if_neg (by omega), if_neg (by simp)]

theorem get_cut (K : Nat) (b : List UInt8) (k : Nat) (h0 : 1 ≤ K) (h1 : K ≤ 255) (h2 : b.length ≤ 700) (hk : k < b.length + 7) : getV ((frm K b).take k) = ((0, []), 0, 7) := by
  obtain ⟨a1, a2, _⟩ := frm_head K b [] (by omega) (by omega)
  rw [List.append_nil] at a1 a2
  have hl : ((frm K b).take k).length = k := by rw [List.length_take, frm_length]; omega
  unfold getV
  rw [hl]
  by_cases h3 : k < 3
  · rw [if_pos h3]
  · have b1 : ((frm K b).take k).take 1 = (frm K b).take 1 := by rw [List.take_take]; congr 1; omega
    have b2 : bl ((frm K b).take k) = bl (frm K b) := by
      unfold bl
      rw [List.drop_take, List.take_take]
      congr 2
      omega
    rw [if_neg h3, b1, b2, a1, a2, if_neg (by omega), if_pos (by omega)]

theorem get_err (s : List UInt8) (h : (getV s).2.2 ≠ 0) : (getV s).1 = (0, []) ∧ (getV s).2.1 = 0 := by
  unfold getV at h ⊢
  repeat' split
  all_goals first | exact ⟨rfl, rfl⟩ | skip
  simp_all

theorem get_ok (s : List UInt8) (h : (getV s).2.2 = 0) : ∃ K b, 1 ≤ K ∧ K ≤ 255 ∧ b.length ≤ 700 ∧ b.length + 7 ≤ s.length ∧ getV s = ((K, b), b.length + 7, 0) ∧ s.take (b.length + 7) = frm K b := by
  by_cases h1 : s.length < 3
  · unfold getV at h; rw [if_pos h1] at h; simp at h
  by_cases h2 : nv (s.take 1) = 0 ∨ 700 < bl s
  · unfold getV at h; rw [if_neg h1, if_pos h2] at h; simp at h
  by_cases h3 : s.length < bl s + 7
  · unfold getV at h; rw [if_neg h1, if_neg h2, if_pos h3] at h; simp at h
  by_cases h4 : nv ((s.drop (3 + bl s)).take 4) ≠ fp 1073741907 (s.take (3 + bl s))
  · unfold getV at h; rw [if_neg h1, if_neg h2, if_neg h3, if_pos h4] at h; simp at h
  have hlen : ((s.drop 3).take (bl s)).length = bl s := by rw [List.length_take, List.length_drop]; omega
  have hk := kind_lt s
  refine ⟨nv (s.take 1), (s.drop 3).take (bl s), by omega, by omega, by omega, by omega, ?_, ?_⟩
  · rw [hlen]; unfold getV; rw [if_neg h1, if_neg h2, if_neg h3, if_neg h4]
  · rw [hlen]; exact ((frm_of s (by omega)).2 (by simpa using h4)).symm

theorem frm_inj {K J : Nat} {b c : List UInt8} (h0 : 1 ≤ K) (h1 : K ≤ 255) (h2 : b.length ≤ 700) (h3 : 1 ≤ J) (h4 : J ≤ 255) (h5 : c.length ≤ 700) (h : frm K b = frm J c) : K = J ∧ b = c := by
  have g1 := get_put K b [] h0 h1 h2
  have g2 := get_put J c [] h3 h4 h5
  rw [h, g2] at g1
  simp at g1
  exact ⟨g1.1.1.symm, g1.1.2.symm⟩

end Go.Proofs.YtbeigaanlhaolaaDoor
