/-
  Plain mathematics: Kraft's sum of the gamma codes of all numbers of at most K digits. Nothing of the program.
-/
import Derived.Test.YtjbedphofjdfkaaDoorBinM
namespace WoolBits

/-- the sum over the numbers from 1 to N - 1 -/
def kr (K : Nat) : Nat → Nat
  | 0 => 0
  | N + 1 => if N = 0 then 0 else kr K N + 2 ^ (2 * K - (gam N).length)

theorem kr_step (K N : Nat) (h : 1 ≤ N) : kr K (N + 1) = kr K N + 2 ^ (2 * K - (gam N).length) := by
  rw [kr, if_neg (by omega)]

theorem kr_bound (K N : Nat) (hK : K ≤ 8) : kr K N ≤ N * 65536 := by
  induction N with
  | zero => simp [kr]
  | succ N ih =>
    rw [kr]
    split
    · omega
    · have : 2 ^ (2 * K - (gam N).length) ≤ 2 ^ 16 := Nat.pow_le_pow_right (by omega) (by omega)
      omega

theorem len_of (L n : Nat) (h1 : 2 ^ L ≤ n) (h2 : n < 2 ^ (L + 1)) : len n = L + 1 :=
  Nat.le_antisymm (len_lt _ _ h2 (by omega)) (len_ge _ _ h1)

theorem kr_more (K L t : Nat) (ht : t ≤ 2 ^ L) : kr K (2 ^ L + t) = kr K (2 ^ L) + t * 2 ^ (2 * K - 2 * L - 1) := by
  induction t with
  | zero => simp
  | succ t ih =>
    have hp := Nat.two_pow_pos L
    rw [← Nat.add_assoc, kr_step K (2 ^ L + t) (by omega), ih (by omega), gam_length, len_of L (2 ^ L + t) (by omega) (by rw [Nat.pow_succ]; omega), show 2 * K - (2 * (L + 1) - 1) = 2 * K - 2 * L - 1 by omega]
    rw [Nat.add_mul t 1, Nat.one_mul]
    omega

theorem kr_pow (K : Nat) : ∀ L, L ≤ K → kr K (2 ^ L) + 2 ^ (2 * K - L) = 2 ^ (2 * K)
  | 0, _ => by simp [kr]
  | L + 1, h => by
    have ih := kr_pow K L (by omega)
    have e := kr_more K L (2 ^ L) (Nat.le_refl _)
    have e1 : 2 ^ (L + 1) = 2 ^ L + 2 ^ L := by rw [Nat.pow_succ]; omega
    have e2 : 2 ^ L * 2 ^ (2 * K - 2 * L - 1) = 2 ^ (2 * K - L - 1) := by rw [← Nat.pow_add]; congr 1; omega
    have e3 : 2 ^ (2 * K - L) = 2 * 2 ^ (2 * K - L - 1) := by
      rw [show 2 * K - L = (2 * K - L - 1) + 1 by omega, Nat.pow_succ]; simp; omega
    rw [e1, e, e2, show 2 * K - (L + 1) = 2 * K - L - 1 by omega]
    omega

theorem kr_all (K : Nat) : kr K (2 ^ K) + 2 ^ K = 2 ^ (2 * K) := by
  have := kr_pow K K (Nat.le_refl _)
  rw [show 2 * K - K = K by omega] at this
  exact this

end WoolBits
