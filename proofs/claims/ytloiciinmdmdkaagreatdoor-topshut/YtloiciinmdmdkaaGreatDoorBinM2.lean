/-
  Plain mathematics: what a gamma code that was read is: at least 1, below 2^31, within the text. Nothing of the program.
-/
import Derived.Test.YtloiciinmdmdkaaGreatDoorBinM
namespace WoolBits

theorem zs_cons_zero (l : List UInt8) : zs (48 :: l) = zs l + 1 := by
  unfold zs
  rw [List.takeWhile_cons, if_pos (by decide), List.length_cons]

theorem at_zs : ∀ (l : List UInt8), isB l = true → zs l < l.length → ∃ r, l.drop (zs l) = 49 :: r
  | [], _, h => by simp at h
  | c :: l, hb, h => by
    rcases (isB_iff _).1 hb c (List.mem_cons_self ..) with rfl | rfl
    · rw [zs_cons_zero] at h ⊢
      exact at_zs l ((isB_iff _).2 fun x hx => (isB_iff _).1 hb x (List.mem_cons_of_mem _ hx)) (by simpa using h)
    · exact ⟨l, by unfold zs; rw [List.takeWhile_cons, if_neg (by decide)]; rfl⟩

theorem val_le : ∀ (l : List UInt8) (a : Nat), a ≤ val a l
  | [], a => Nat.le_refl a
  | c :: l, a => Nat.le_trans (by omega) (val_le l (2 * a + (c.toNat - 48)))

theorem rg_ok (l : List UInt8) (h : (rg l).2.2 = 0) : isB l = true ∧ zs l < 31 ∧ 2 * zs l + 1 ≤ l.length ∧ rg l = (val 0 ((l.drop (zs l)).take (zs l + 1)), 2 * zs l + 1, 0) := by
  unfold rg at h ⊢
  split at h
  · cases h
  · rename_i h1
    split at h
    · cases h
    · rename_i h2
      split at h
      · cases h
      · rename_i h3
        rw [if_neg h1, if_neg h2, if_neg h3]
        exact ⟨by simpa using h1, by omega, by omega, rfl⟩

theorem rg_pos (l : List UInt8) (h : (rg l).2.2 = 0) : 1 ≤ (rg l).1 ∧ (rg l).1 < 2147483648 ∧ 1 ≤ (rg l).2.1 ∧ (rg l).2.1 ≤ 61 ∧ (rg l).2.1 ≤ l.length := by
  obtain ⟨hb, hz, hl, e⟩ := rg_ok l h
  obtain ⟨r, hr⟩ := at_zs l hb (by omega)
  rw [e]
  refine ⟨?_, ?_, by simp, by simp; omega, hl⟩
  · show 1 ≤ val 0 ((l.drop (zs l)).take (zs l + 1))
    rw [hr, List.take_succ_cons]
    exact val_le _ 1
  · show val 0 ((l.drop (zs l)).take (zs l + 1)) < 2147483648
    have h1 := val_bound ((l.drop (zs l)).take (zs l + 1)) 0 ((isB_iff _).1 (isB_take _ _ (isB_drop _ _ hb)))
    have h2 : 2 ^ ((l.drop (zs l)).take (zs l + 1)).length ≤ 2 ^ 31 := Nat.pow_le_pow_right (by omega) (by rw [List.length_take]; omega)
    have h3 : (2 : Nat) ^ 31 = 2147483648 := by decide
    omega

end WoolBits
