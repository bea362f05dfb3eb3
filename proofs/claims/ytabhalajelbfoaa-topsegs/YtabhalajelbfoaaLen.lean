/-
  What bits.Len64, bits.Len and poly.degree return: for every uint64 how many bits it has (one less for the degree). Conditions: none but the kind's own bounds.
-/
import Derived.Test.YtabhalajelbfoaaChecked
import Derived.Test.YtabhalajelbfoaaMath
import Derived.WalkKit
import Derived.WalkSpells
import Derived.Lib.Walk
import Derived.Lib.Tables
namespace Go.Proofs.Ytabhalajelbfoaa
open Go.RowKit
open Go.Proofs

theorem tab_size : Lib.len8tab.size = 256 := by decide +kernel

theorem tab_all : ∀ n : Fin 256, ((Lib.len8tab[n.val]?).map UInt8.toNat) = some (WoolMath.blen n.val) := by decide +kernel

theorem tab_get (n : Nat) (h : n < Lib.len8tab.size) : (Lib.len8tab[n]'h).toNat = WoolMath.blen n := by
  have e := tab_all ⟨n, by rw [← tab_size]; exact h⟩
  simp only [getElem?_pos Lib.len8tab n h, Option.map_some, Option.some.injEq] at e
  exact e

theorem blen_shift (k : Nat) : ∀ x : Nat, 2 ^ k ≤ x → WoolMath.blen x = k + WoolMath.blen (x / 2 ^ k) := by
  induction k with
  | zero => intro x _; simp
  | succ k ih =>
    intro x h
    rw [Nat.pow_succ] at h
    have hp : 0 < 2 ^ k := Nat.pow_pos (by omega)
    rw [WoolMath.blen_half x (by omega), ih (x / 2) (by omega), Nat.div_div_eq_div_mul, Nat.pow_succ, Nat.mul_comm 2]
    omega

theorem len_close (k : Nat) (x y : Int) (hx1 : x ≤ 18446744073709551615) (h : y.toNat < Lib.len8tab.size)
    (hy : y.toNat = x.toNat / 2 ^ k) (hk : k = 0 ∨ 2 ^ k ≤ x.toNat) :
    (k : Int) + ((Lib.len8tab[y.toNat]'h).toNat : Int) = (WoolMath.blen x.toNat : Int) ∧ WoolMath.blen x.toNat ≤ 64 := by
  have h64 : x.toNat < 2 ^ 64 := by omega
  have hl := WoolMath.blen_le x.toNat 64 h64
  refine ⟨?_, hl⟩
  rw [tab_get, hy]
  rcases hk with rfl | hk
  · simp
  · rw [blen_shift k _ hk]; omega

theorem len_wrap (k : Nat) (x y : Int) (hx1 : x ≤ 18446744073709551615) (h : y.toNat < Lib.len8tab.size)
    (hy : y.toNat = x.toNat / 2 ^ k) (hk : k = 0 ∨ 2 ^ k ≤ x.toNat) :
    Ending.returned (.int .i64 (wrap64 ((k : Int) + wrap64 ((Lib.len8tab[y.toNat]'h).toNat : Int)))) = .returned (.int .i64 (WoolMath.blen x.toNat : Int)) := by
  obtain ⟨e, l⟩ := len_close k x y hx1 h hy hk
  have e1 : wrap64 ((Lib.len8tab[y.toNat]'h).toNat : Int) = ((Lib.len8tab[y.toNat]'h).toNat : Int) := by
    unfold wrap64; omega
  rw [e1, e]
  have e2 : wrap64 (WoolMath.blen x.toNat : Int) = (WoolMath.blen x.toNat : Int) := by unfold wrap64; omega
  rw [e2]

theorem len_wrap0 (x : Int) (hx1 : x ≤ 18446744073709551615) (h : x.toNat < Lib.len8tab.size) :
    Ending.returned (.int .i64 (wrap64 (wrap64 ((Lib.len8tab[x.toNat]'h).toNat : Int)))) = .returned (.int .i64 (WoolMath.blen x.toNat : Int)) := by
  have := len_wrap 0 x x hx1 h (by simp) (.inl rfl)
  simpa using this

set_option maxHeartbeats 4000000 in
set_option maxRecDepth 100000 in
theorem len64 (x : Int) (w : World) (h0 : 0 ≤ x) (h1 : x ≤ 18446744073709551615) :
    Calls Try.prog 54 #[.int .u64 x] w fun e w' => e = .returned (.int .i64 (WoolMath.blen x.toNat)) ∧ w = w' := by
  have hz : (Lib.len8tab.size : Int) = 256 := by rw [tab_size]; rfl
  go_enter Try.func54, Try.ntmps54
  go_wp2
  all_goals go_ret
  · exact ⟨len_wrap 56 x _ h1 _ (by omega) (.inr (by omega)), rfl⟩
  · exact ⟨len_wrap 48 x _ h1 _ (by omega) (.inr (by omega)), rfl⟩
  · exact ⟨len_wrap 40 x _ h1 _ (by omega) (.inr (by omega)), rfl⟩
  · exact ⟨len_wrap 32 x _ h1 _ (by omega) (.inr (by omega)), rfl⟩
  · exact ⟨len_wrap 24 x _ h1 _ (by omega) (.inr (by omega)), rfl⟩
  · exact ⟨len_wrap 16 x _ h1 _ (by omega) (.inr (by omega)), rfl⟩
  · exact ⟨len_wrap 8 x _ h1 _ (by omega) (.inr (by omega)), rfl⟩
  · exact ⟨len_wrap0 x h1 _, rfl⟩

/-- poly.degree: one less than the bits -/
theorem degree_any (x : Int) (w : World) (h0 : 0 ≤ x) (h1 : x ≤ 18446744073709551615) :
    Calls Try.prog 37 #[.int .u64 x] w fun e w' => e = .returned (.int .i64 ((WoolMath.blen x.toNat : Int) - 1)) ∧ w = w' := by
  have hl := WoolMath.blen_le x.toNat 64 (by omega)
  go_enter Try.func37, Try.ntmps37
  go_wp2_with (go_at_call 54; refine (len64 _ _ h0 h1).mono ?_; rintro e w' ⟨rfl, rfl⟩)
  go_ret
  exact ⟨rfl, rfl⟩

end Go.Proofs.Ytabhalajelbfoaa
