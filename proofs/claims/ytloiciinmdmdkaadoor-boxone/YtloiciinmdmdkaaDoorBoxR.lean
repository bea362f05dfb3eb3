/-
  Plain mathematics: how long a box is: of one byte, of a run, of a text that repeats itself. No condition but those that each says.
-/
import Derived.Test.YtloiciinmdmdkaaDoorBoxM
namespace WoolBox
open WoolLz WoolBits WoolPack WoolMatch

theorem pack_cons (t : Tok) (l : List Tok) : (pack (t :: l)).length = (enc t).length + (pack l).length := by
  show (enc t ++ pack l).length = _
  rw [List.length_append]

theorem shut_plain (s : List UInt8) (h : ¬ (shv s).length < s.length) : shut s = 0 :: s := by unfold shut; rw [if_neg h]
theorem shut_packed (s : List UInt8) (h : (shv s).length < s.length) : shut s = 1 :: shv s := by unfold shut; rw [if_pos h]

theorem lit_len (t : Tok) (h : good t) (h0 : t.l = 0) : (enc t).length = 9 := by rw [enc_length t h, if_pos h0]

theorem tok_start (L : List UInt8) : tokAt L 0 256 = ⟨0, 0, byt L 0⟩ ∧ WoolLz.stp L 0 256 = 1 := by
  unfold tokAt WoolLz.stp
  rw [long_start]
  exact ⟨rfl, rfl⟩

theorem shut_one (c : UInt8) : shut [c] = [0, c] := by
  have hp : par [c] 256 0 = [tokAt [c] 0 256] := by
    rw [par_step _ _ _ (by simp), (tok_start [c]).2, par_end _ _ _ (by simp)]
  have hl : (pack (par [c] 256 0)).length = 9 := by
    rw [hp, pack_cons, lit_len _ (tokAt_good _ _ _ (by omega)) (by rw [(tok_start [c]).1])]
    rfl
  exact shut_plain _ (by rw [shv_len, hl]; simp)

theorem shut_nil : shut [] = [0] := shut_plain _ (by simp)

/-- a run of sixty bytes takes three -/
theorem shv_run60 (c : UInt8) : (shv (List.replicate 60 c)).length = 3 := by
  have h1 : par (List.replicate 60 c) 256 0 = tokAt (List.replicate 60 c) 0 256 :: par (List.replicate 60 c) 256 1 := by
    rw [par_step _ _ _ (by simp), (tok_start _).2]
  have hr := run_long c 60 1 256 (by omega) (by omega) (by omega)
  have ht : tokAt (List.replicate 60 c) 1 256 = ⟨1, 59, 0⟩ := by
    unfold tokAt
    rw [hr]
    rfl
  have hs : WoolLz.stp (List.replicate 60 c) 1 256 = 59 := by
    unfold WoolLz.stp
    rw [hr]
    rfl
  have h2 : par (List.replicate 60 c) 256 1 = [⟨1, 59, 0⟩] := by
    rw [par_step _ _ _ (by simp), ht, hs, par_end _ _ _ (by simp)]
  have g : good ⟨1, 59, 0⟩ := .inr (by decide)
  have l1 : len 1 = 1 := len_small 1 (by omega)
  have l59 : len 59 = 6 := Nat.le_antisymm (len_lt 6 59 (by decide) (by omega)) (len_ge 5 59 (by decide))
  have e59 : (enc ⟨1, 59, 0⟩).length = 13 := by
    rw [enc_length _ g, if_neg (by decide)]
    show 1 + (2 * len 1 - 1) + (2 * len 59 - 1) = 13
    rw [l1, l59]
  rw [shv_len, h1, h2, pack_cons, pack_cons, e59, lit_len _ (tokAt_good _ _ _ (by omega)) (by rw [(tok_start _).1])]
  rfl

/-- what a copy takes -/
theorem copy_len (t : Tok) (h : good t) (h0 : t.l ≠ 0) : (enc t).length = 2 * len t.d.toNat + 2 * len t.l.toNat - 1 := by
  rw [enc_length t h, if_neg h0]
  have := len_pos t.d.toNat
  have := len_pos t.l.toNat
  omega

theorem len_4 (n : Nat) (h : n ≤ 8) : len n ≤ 4 := len_lt 4 n (by omega) (by omega)
theorem len_3 (n : Nat) (h : n ≤ 7) : len n ≤ 3 := len_lt 3 n (by omega) (by omega)
theorem len_7 (n : Nat) (h : n ≤ 64) : len n ≤ 7 := len_lt 7 n (by omega) (by omega)
theorem len_2 (n : Nat) (h : n ≤ 3) : len n ≤ 2 := len_lt 2 n (by omega) (by omega)

/-- behind its first p bytes a text that repeats itself is copies of 64 bytes -/
theorem per_tail (T : List UInt8) (p : Nat) (h1 : 1 ≤ p) (h8 : p ≤ 8) (hper : ∀ j, p ≤ j → j < T.length → T[j]? = T[j - p]?) :
    ∀ (k i : Nat), T.length - i ≤ k → p ≤ i → (pack (par T 256 i)).length ≤ 21 * ((T.length - i + 63) / 64) := by
  intro k
  induction k with
  | zero =>
    intro i hk hi
    rw [par_end _ _ _ (by omega)]
    simp [pack]
  | succ k ih =>
    intro i hk hi
    by_cases hlt : i < T.length
    · have hmost : com T i p = most T i := by
        have := com_ge T i p (most T i) (Nat.le_refl _) (fun j hj => hper (i + j) (by omega) (by unfold most at hj; omega))
        have := com_le T i p
        omega
      have hbest := long_best T i 256 p h1 (by omega) hi
      have hl2 : (long T i 256).2 = most T i := by
        have := long_most T i 256
        omega
      have hd := hbest.2 (by rw [hmost, hl2])
      have hst : WoolLz.stp T i 256 = most T i := by
        unfold WoolLz.stp
        rw [hl2]
        unfold most
        omega
      rw [par_step _ _ _ hlt, pack_cons, hst]
      have hih := ih (i + most T i) (by unfold most; omega) (by omega)
      have hcost : (enc (tokAt T i 256)).length ≤ 21 := by
        have hg := tokAt_good T i 256 (by omega)
        by_cases h0 : (tokAt T i 256).l = 0
        · rw [lit_len _ hg h0]; omega
        · rw [copy_len _ hg h0]
          have e : tokAt T i 256 = ⟨(long T i 256).1, (long T i 256).2, 0⟩ := by
            unfold tokAt at h0 ⊢
            split at h0
            · exact absurd rfl h0
            · rename_i h2; rw [if_neg h2]
          rw [e]
          show 2 * len (Int.toNat ((long T i 256).1 : Int)) + 2 * len (Int.toNat ((long T i 256).2 : Int)) - 1 ≤ 21
          rw [Int.toNat_natCast, Int.toNat_natCast]
          have := len_4 (long T i 256).1 (by omega)
          have := len_7 (long T i 256).2 (long_64 _ _ _)
          omega
      have hm : most T i = min (T.length - i) 64 := rfl
      omega
    · rw [par_end _ _ _ (by omega)]
      simp [pack]

/-- and its first p bytes take nine bits each at most, and ten more -/
theorem per_head (T : List UInt8) (p : Nat) (h1 : 1 ≤ p) (h8 : p ≤ 8) (hpT : p ≤ T.length) (hper : ∀ j, p ≤ j → j < T.length → T[j]? = T[j - p]?) :
    ∀ (k i : Nat), p - i ≤ k → i ≤ p → (pack (par T 256 i)).length ≤ 9 * (p - i) + 10 + 21 * ((T.length - p + 63) / 64) := by
  intro k
  induction k with
  | zero =>
    intro i hk hi
    have := per_tail T p h1 h8 hper (T.length - i) i (Nat.le_refl _) (by omega)
    rw [show T.length - i = T.length - p by omega] at this
    omega
  | succ k ih =>
    intro i hk hi
    by_cases hlt : i < p
    · rw [par_step _ _ _ (by omega), pack_cons]
      have hg := tokAt_good T i 256 (by omega)
      have hsp := stp_pos T i 256
      have hbig : p ≤ i + WoolLz.stp T i 256 → (pack (par T 256 (i + WoolLz.stp T i 256))).length ≤ 21 * ((T.length - p + 63) / 64) := by
        intro h
        have := per_tail T p h1 h8 hper _ (i + WoolLz.stp T i 256) (Nat.le_refl _) h
        have h2 : (T.length - (i + WoolLz.stp T i 256) + 63) / 64 ≤ (T.length - p + 63) / 64 := Nat.div_le_div_right (by omega)
        omega
      by_cases h0 : (tokAt T i 256).l = 0
      · rw [lit_len _ hg h0]
        have hs1 : WoolLz.stp T i 256 = 1 := by
          have := siz_tokAt T i 256
          unfold siz at this
          rw [h0] at this
          rw [← this]
          rfl
        rw [hs1]
        have := ih (i + 1) (by omega) (by omega)
        omega
      · have e : tokAt T i 256 = ⟨(long T i 256).1, (long T i 256).2, 0⟩ ∧ 2 ≤ (long T i 256).2 := by
          unfold tokAt at h0 ⊢
          split at h0
          · exact absurd rfl h0
          · rename_i h2; rw [if_neg h2]; exact ⟨rfl, by omega⟩
        obtain ⟨e, e2⟩ := e
        have hst : WoolLz.stp T i 256 = (long T i 256).2 := by unfold WoolLz.stp; omega
        rw [copy_len _ hg h0]
        have hcd : 2 * len (tokAt T i 256).d.toNat + 2 * len (tokAt T i 256).l.toNat - 1 = 2 * len (long T i 256).1 + 2 * len (long T i 256).2 - 1 := by
          rw [e]
          show 2 * len (Int.toNat ((long T i 256).1 : Int)) + 2 * len (Int.toNat ((long T i 256).2 : Int)) - 1 = _
          rw [Int.toNat_natCast, Int.toNat_natCast]
        rw [hcd]
        have hd3 := len_3 (long T i 256).1 (by have := (long_dist T i 256).2; omega)
        have hl7 := len_7 (long T i 256).2 (long_64 _ _ _)
        by_cases hin : i + WoolLz.stp T i 256 ≤ p
        · have := ih (i + WoolLz.stp T i 256) (by omega) hin
          have hc : 2 * len (long T i 256).1 + 2 * len (long T i 256).2 - 1 ≤ 9 * WoolLz.stp T i 256 := by
            rw [hst] at hin ⊢
            by_cases h3 : (long T i 256).2 ≤ 3
            · have := len_2 (long T i 256).2 h3
              omega
            · omega
          omega
        · have := hbig (by omega)
          omega
    · have := per_tail T p h1 h8 hper (T.length - i) i (Nat.le_refl _) (by omega)
      rw [show T.length - i = T.length - p by omega] at this
      omega

/-- a text that repeats its first p bytes is short when it is shut -/
theorem shut_per (T : List UInt8) (p : Nat) (h8 : p ≤ 8) (hpT : p ≤ T.length) (h0 : p = 0 → T = []) (hper : ∀ j, p ≤ j → j < T.length → T[j]? = T[j - p]?) :
    (shut T).length ≤ 1 + p * 9 / 8 + 2 + 4 * (1 + T.length / 64) := by
  have hmin : (shut T).length ≤ 1 + (shv T).length := by
    unfold shut
    split
    · rw [List.length_cons]; omega
    · rw [List.length_cons]; omega
  by_cases hp : p = 0
  · rw [h0 hp, shut_nil]
    simp
  · have := per_head T p (by omega) h8 hpT hper p 0 (by omega) (by omega)
    rw [shv_len] at hmin
    omega

end WoolBox
