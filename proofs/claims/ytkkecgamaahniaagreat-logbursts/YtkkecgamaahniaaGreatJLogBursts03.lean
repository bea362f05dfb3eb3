/-
  Slices of bytes that the call owns, and what the laws' helpers xor and burst return. Conditions: as each says.
-/
import Derived.Test.YtkkecgamaahniaaGreatJB42
import Derived.Test.YtkkecgamaahniaaGreatJB40
import Derived.OwnWalk
import Derived.Laws.OwnMore
import Derived.BigRegion
import Derived.Deep.RegionLaw
import Derived.Deep.AppendLies
namespace Go.Proofs.YtkkecgamaahniaaGreat
open Go.RowKit
open Go.Proofs

theorem u8_xor (a b : UInt8) : bits .xor .u8 (a.toNat : Int) (b.toNat : Int) = ((a ^^^ b).toNat : Int) := by
  have ha : a.toNat < 256 := UInt8.toNat_lt _
  have hb : b.toNat < 256 := UInt8.toNat_lt _
  have hx : (a ^^^ b).toNat < 256 := UInt8.toNat_lt _
  have e : ∀ n : Nat, n < 256 → (BitVec.ofInt 8 (n : Int)).toNat = n := by
    intro n hn
    rw [BitVec.ofInt_natCast, BitVec.toNat_ofNat]; exact Nat.mod_eq_of_lt hn
  show IntKind.u8.wrap ((BitVec.ofInt 8 (a.toNat : Int) ^^^ BitVec.ofInt 8 (b.toNat : Int)).toNat : Int) = _
  rw [BitVec.toNat_xor, e _ ha, e _ hb, ← UInt8.toNat_xor]
  generalize (a ^^^ b).toNat = n at *
  simp only [IntKind.wrap, IntKind.bits, IntKind.signed]
  simp
  omega

/-! ytkkecgamaahniaagreat# xor -/

def XorRel (s t u : ByteArray) (w : World) (out i : Value) (wr : World) : Prop :=
  ∃ k : Nat, k ≤ s.size ∧ i = .int .i64 k ∧ Bytes wr w.heap.size out (xor3 (s.data.toList.take k) (t.data.toList.take k) (u.data.toList.take k)) ∧ Up w wr

end Go.Proofs.YtkkecgamaahniaaGreat
