/-
  What the functions of package print return, at every argument: the error that the document lists first, else the fingerprint by the plain mathematics of polynomials. Conditions: the arguments are ints and strings.
-/
import Derived.Test.YtbeigaanlhaolaaDoorKeep
import Derived.Deep.RegionHeld3
namespace Go.Proofs.YtbeigaanlhaolaaDoor
open Go.RowKit
open Go.Proofs

/-- a text as a polynomial: a 1, and its bits behind it -/
def sp (l : List UInt8) : Nat := l.foldl (fun p c => WoolMath.mul p 256 ^^^ c.toNat) 1

theorem sp_nil : sp [] = 1 := rfl
theorem sp_snoc (l : List UInt8) (c : UInt8) : sp (l ++ [c]) = WoolMath.mul (sp l) 256 ^^^ c.toNat := by
  unfold sp; rw [List.foldl_append]; rfl

/-- the fingerprint -/
def fp (M : Nat) (l : List UInt8) : Nat := WoolMath.pmod (sp l) M

theorem fp_nil (M : Nat) (h : 2 ≤ M) : fp M [] = 1 := by
  unfold fp
  rw [sp_nil]
  refine WoolMath.pmod_small _ _ (by omega) ?_
  have h1 : 1 ≤ M.log2 := (Nat.le_log2 (by omega)).2 h
  exact Nat.one_lt_two_pow (by omega)

theorem fp_snoc (M : Nat) (h : 2 ≤ M) (l : List UInt8) (c : UInt8) :
    fp M (l ++ [c]) = WoolMath.pmod (WoolMath.mul (fp M l) 256) M ^^^ WoolMath.pmod c.toNat M := by
  unfold fp
  rw [sp_snoc, WoolMath.pmod_xor _ _ _ (by omega), WoolMath.pmod_mul_left _ _ _ (by omega)]

theorem fp_lt (M : Nat) (h : 2 ≤ M) (l : List UInt8) : fp M l < 2 ^ M.log2 := WoolMath.pmod_lt _ _ (by omega)
theorem fp_le (M : Nat) (h : 2 ≤ M) (h2 : M ≤ 2147483647) (l : List UInt8) : fp M l < 1073741824 := pmod_le _ _ (by omega) h2

/-! ytbeigaanlhaolaadoor# Of -/

def OfRel (M : Nat) (s : ByteArray) (w : World) (p i : Value) (wr : World) : Prop :=
  ∃ k : Nat, k ≤ s.size ∧ i = .int .i64 k ∧ p = .int .i64 (fp M (s.data.toList.take k) : Nat) ∧ Up w wr

/-- Of, whatever it answers -/
def OfPost (w : World) (e : Ending) (w' : World) : Prop := ∃ V E : Int, e = .returned (.tuple #[.int .i64 V, .int .i64 E]) ∧ Up w w'

/-! ytbeigaanlhaolaadoor# Join, Roll -/

/-- is a a rest by m? -/
def isRest (a : Int) (M : Nat) : Prop := 0 ≤ a ∧ a < ((2 ^ M.log2 : Nat) : Int)

theorem pow_log2_le (M : Nat) (h0 : M ≠ 0) (h : M ≤ 2147483647) : 2 ^ M.log2 ≤ 1073741824 := by
  have := (Nat.log2_lt h0).2 (show M < 2 ^ 31 by omega)
  exact Nat.pow_le_pow_right (n := 2) (by omega) (show M.log2 ≤ 30 by omega)

theorem rest_blen (A M : Nat) (h : 2 ≤ M) : A < 2 ^ M.log2 ↔ WoolMath.blen A < WoolMath.blen M := by
  rw [WoolMath.blen_pos M (by omega)]
  constructor
  · intro h1
    have := WoolMath.blen_le A _ h1
    omega
  · intro h1
    exact Nat.lt_of_lt_of_le (WoolMath.lt_blen A) (Nat.pow_le_pow_right (by omega) (by omega))

/-- what Join answers -/
def joinV (M A B N : Nat) : Nat := WoolMath.pmod (WoolMath.mul A (WoolMath.pmod (WoolMath.pw 256 N) M)) M ^^^ B ^^^ WoolMath.pmod (WoolMath.pw 256 N) M

theorem lt63 (a : Nat) (h : a < 1073741824) : a < 9223372036854775808 := by omega

end Go.Proofs.YtbeigaanlhaolaaDoor
