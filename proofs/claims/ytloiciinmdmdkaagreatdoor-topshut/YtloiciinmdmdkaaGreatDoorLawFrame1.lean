/-
  The law FrameOne, walked: for every text the Go text returns true; nothing that was there turns. Condition: a text that came in has at most 2^47 - 4096 bytes.
-/
import Derived.Test.YtloiciinmdmdkaaGreatDoorFrame2
import Derived.Test.YtloiciinmdmdkaaGreatDoorFrame3
namespace Go.Proofs.YtloiciinmdmdkaaGreatDoor
open Go.RowKit
open Go.Proofs

theorem get_const : getR [1, 0, 0, 0, 0, 0, 0] = .tuple #[.agg #[.int .i64 0, .string (bs [])], .int .i64 0, .int .i64 6] := by
  have : getV [1, 0, 0, 0, 0, 0, 0] = ((0, []), 0, 6) := by decide +kernel
  unfold getR
  rw [this]
  rfl

theorem getR_of {s : List UInt8} {K : Nat} {b : List UInt8} {n e : Nat} (h : getV s = ((K, b), n, e)) : getR s = .tuple #[.agg #[.int .i64 (K : Int), .string (bs b)], .int .i64 (n : Int), .int .i64 (e : Int)] := by
  unfold getR
  rw [h]
  rfl

theorem putR_ok {K : Nat} {b : List UInt8} (h0 : 1 ≤ K) (h1 : K ≤ 255) (h2 : b.length ≤ 700) : putR (K : Int) b = .tuple #[.string (bs (frm K b)), .int .i64 0] := by
  unfold putR putV
  rw [if_neg (by omega), if_neg (by omega)]
  rfl

theorem wf_small (K : Nat) (h : K ≤ 9223372036854775807) : (Lit.int .i64 (K : Int)).wf = true := by
  simp only [Lit.wf, Bool.and_eq_true, decide_eq_true_eq]
  exact ⟨by show (-9223372036854775808 : Int) ≤ _; omega, by show _ ≤ (9223372036854775807 : Int); omega⟩

end Go.Proofs.YtloiciinmdmdkaaGreatDoor
