/-
  A copy is a piece of the text said over and over. Conditions: as each says.
-/
import Derived.Test.YtloiciinmdmdkaaGreatDoorLzM
import Derived.Lib.Repeat
namespace WoolLz
open WoolMatch

theorem cpy_get (b : List UInt8) (d : Nat) (hd : 1 ≤ d) (hdb : d ≤ b.length) (k : Nat) : ∀ (f j : Nat), j ≤ f → j < k → (cpy b d k)[b.length + j]? = b[b.length - d + j % d]? := by
  intro f
  induction f with
  | zero =>
    intro j hj hk
    obtain rfl : j = 0 := by omega
    rw [cpy_same b d hd hdb k 0 hk, Nat.zero_mod]
    have ht := cpy_take b d k
    have : (cpy b d k)[b.length + 0 - d]? = ((cpy b d k).take b.length)[b.length + 0 - d]? := by rw [List.getElem?_take, if_pos (by omega)]
    rw [this, ht]
    congr 1
  | succ f ih =>
    intro j hj hk
    rw [cpy_same b d hd hdb k j hk]
    by_cases hjd : j < d
    · have ht := cpy_take b d k
      have : (cpy b d k)[b.length + j - d]? = ((cpy b d k).take b.length)[b.length + j - d]? := by rw [List.getElem?_take, if_pos (by omega)]
      rw [this, ht, Nat.mod_eq_of_lt hjd]
      congr 1
      omega
    · have := ih (j - d) (by omega) (by omega)
      rw [show b.length + j - d = b.length + (j - d) by omega, this, Nat.mod_eq_sub_mod (a := j) (by omega)]

theorem repeat_get (F : List UInt8) (hF : 0 < F.length) : ∀ (q j : Nat), j < q * F.length → (Go.Lib.repeatL F q)[j]? = F[j % F.length]?
  | 0, j, h => by omega
  | q + 1, j, h => by
    unfold Go.Lib.repeatL
    by_cases hj : j < F.length
    · rw [List.getElem?_append_left hj, Nat.mod_eq_of_lt hj]
    · rw [List.getElem?_append_right (by omega), repeat_get F hF q (j - F.length) (by rw [Nat.succ_mul] at h; omega), Nat.mod_eq_sub_mod (a := j) (by omega)]

/-- a copy, said by pieces -/
theorem cpy_repeat (b : List UInt8) (d n : Nat) (hd : 1 ≤ d) (hdb : d ≤ b.length) : cpy b d n = b ++ (Go.Lib.repeatL (b.drop (b.length - d)) (n / d + 1)).take n := by
  have hF : (b.drop (b.length - d)).length = d := by rw [List.length_drop]; omega
  apply List.ext_getElem?
  intro j
  by_cases hj : j < b.length
  · rw [List.getElem?_append_left hj]
    have ht := cpy_take b d n
    have : (cpy b d n)[j]? = ((cpy b d n).take b.length)[j]? := by rw [List.getElem?_take, if_pos hj]
    rw [this, ht]
  · rw [List.getElem?_append_right (by omega)]
    by_cases hn : j - b.length < n
    · have h1 := cpy_get b d hd hdb n (j - b.length) (j - b.length) (Nat.le_refl _) hn
      rw [show b.length + (j - b.length) = j by omega] at h1
      have hq : j - b.length < (n / d + 1) * (b.drop (b.length - d)).length := by
        rw [hF, Nat.add_mul, Nat.one_mul]
        have := Nat.div_add_mod n d
        have := Nat.mod_lt n (show 0 < d by omega)
        have := Nat.mul_comm d (n / d)
        omega
      rw [h1, List.getElem?_take, if_pos hn, repeat_get _ (by omega) _ _ hq, hF, List.getElem?_drop]
    · have hl := cpy_length b d n
      rw [List.getElem?_eq_none (by omega), List.getElem?_take, if_neg hn]

end WoolLz
