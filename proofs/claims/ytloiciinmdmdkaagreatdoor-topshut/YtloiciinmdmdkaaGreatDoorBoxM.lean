/-
  Plain mathematics of boxes: a text compressed, or as it is where that is not longer; and back. No condition but those that each says.
-/
import Derived.Test.YtloiciinmdmdkaaGreatDoorPackM
import Derived.Test.YtloiciinmdmdkaaGreatDoorBytM
namespace WoolBox
open WoolLz WoolBits WoolPack

/-- the tokens that bits stand for, and the error -/
def toksM (s : List UInt8) : List Tok × Int :=
  if isB s = false then ([], 3) else if (rall s).2 ≠ 0 then ([], ((rall s).2 : Int)) else if (exp [] (rall s).1).1 ≠ 0 then ([], (exp [] (rall s).1).1) else ((rall s).1, 0)

/-- the bytes of a text's parse -/
def shv (s : List UInt8) : List UInt8 := byts (pack (par s 256 0))

/-- what Shut answers of a text that is not too long -/
def shut (s : List UInt8) : List UInt8 := if (shv s).length < s.length then 1 :: shv s else 0 :: s

/-- what unpack answers -/
def unpk (t : List UInt8) : List UInt8 × Int :=
  if (unb t).2 ≠ 0 then ([], ((unb t).2 : Int)) else if (toksM (unb t).1).2 ≠ 0 then ([], (toksM (unb t).1).2) else ((exp [] (toksM (unb t).1).1).2, 0)

/-- what read answers -/
def readV (b : List UInt8) : List UInt8 × Int :=
  if 601 < b.length then ([], 3) else if b.head? = some 0 then (b.drop 1, 0) else if b.head? = some 1 then unpk (b.drop 1) else ([], 3)

/-- what Open answers -/
def openV (b : List UInt8) : List UInt8 × Nat :=
  if (readV b).2 ≠ 0 then ([], 3) else if 600 < (readV b).1.length then ([], 3) else if shut (readV b).1 = b then ((readV b).1, 0) else ([], 3)

theorem par_good (s : List UInt8) (h : s.length ≤ 600) : exp [] (par s 256 0) = (0, s) := by
  have := exp_par s 256 h (by omega) (s.length - 0) 0 (Nat.le_refl _) (by omega)
  rwa [List.take_zero] at this

theorem toks_pack (l : List Tok) (h : (exp [] l).1 = 0) : toksM (pack l) = (l, 0) := by
  unfold toksM
  rw [rall_pack l (exp_good l [] h), if_neg (by rw [isB_pack]; simp), if_neg (by simp), if_neg (by simpa using h)]

theorem unpk_shv (s : List UInt8) (h : s.length ≤ 600) : unpk (shv s) = (s, 0) := by
  have hp := par_good s h
  have h0 : (exp [] (par s 256 0)).1 = 0 := by rw [hp]
  unfold unpk shv
  rw [unb_byts _ (isB_pack _), if_neg (by simp), toks_pack _ h0, if_neg (by simp), hp]

theorem shut_len (s : List UInt8) : (shut s).length ≤ s.length + 1 := by
  unfold shut
  split
  · rw [List.length_cons]; omega
  · rw [List.length_cons]; omega

theorem read_shut (s : List UInt8) (h : s.length ≤ 600) : readV (shut s) = (s, 0) := by
  have hl := shut_len s
  unfold readV
  rw [if_neg (by omega)]
  unfold shut
  split
  · rw [if_neg (by simp), if_pos (by simp)]
    exact unpk_shv s h
  · rw [if_pos (by simp)]
    rfl

theorem open_shut (s : List UInt8) (h : s.length ≤ 600) : openV (shut s) = (s, 0) := by
  unfold openV
  rw [read_shut s h, if_neg (by simp), if_neg (by simpa using h), if_pos rfl]

theorem open_ok (b : List UInt8) (h : (openV b).2 = 0) : shut (openV b).1 = b ∧ (openV b).1.length ≤ 600 := by
  unfold openV at h ⊢
  split at h
  · simp at h
  · rename_i h1
    split at h
    · simp at h
    · rename_i h2
      split at h
      · rename_i h3
        rw [if_neg h1, if_neg h2, if_pos h3]
        exact ⟨h3, by simpa using h2⟩
      · simp at h

theorem open_err (b : List UInt8) (h : (openV b).2 ≠ 0) : openV b = ([], 3) := by
  unfold openV at h ⊢
  split
  · rfl
  · rename_i h1
    rw [if_neg h1] at h
    split
    · rfl
    · rename_i h2
      rw [if_neg h2] at h
      split
      · rename_i h3
        rw [if_pos h3] at h
        simp at h
      · rfl

theorem shv_len (s : List UInt8) : (shv s).length = (pack (par s 256 0)).length / 8 + 1 := by
  unfold shv
  rw [byts_length]
  have := pad_mod (pack (par s 256 0)).length
  have := pad_lt (pack (par s 256 0)).length
  omega

end WoolBox
