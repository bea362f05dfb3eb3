/-
  The law FrameRow, walked: for every two frames and every text the Go text returns true; nothing that was there turns. Condition: a text that came in has at most 2^47 - 4096 bytes.
-/
import Derived.Test.YtloiciinmdmdkaaGreatDoorLawFrame1
namespace Go.Proofs.YtloiciinmdmdkaaGreatDoor
open Go.RowKit
open Go.Proofs

/-- Put answers an error and no bytes, or the frame -/
theorem put_cases (k : Int) (b : List UInt8) : (∃ e : Nat, e ≠ 0 ∧ putR k b = .tuple #[.string ⟨#[]⟩, .int .i64 (e : Int)]) ∨ (∃ K : Nat, k = (K : Int) ∧ 1 ≤ K ∧ K ≤ 255 ∧ b.length ≤ 700 ∧ putR k b = .tuple #[.string (bs (frm K b)), .int .i64 0]) := by
  unfold putR putV
  split
  · exact .inl ⟨1, by omega, rfl⟩
  · split
    · exact .inl ⟨2, by omega, rfl⟩
    · exact .inr ⟨k.toNat, by omega, by omega, by omega, by omega, rfl⟩

theorem Box2.lt {W : World} {B : Nat} {t : TypeId} {x y : Value} (h : Box2 W B t x y) : B < W.heap.size := (Array.getElem?_eq_some_iff.1 h).1
theorem Box2.up {W W' : World} {B : Nat} {t : TypeId} {x y : Value} (h : Box2 W B t x y) (u : Up W W') : Box2 W' B t x y := h.below u h.lt

theorem put_x : putR 1 [120] = .tuple #[.string (bs [1, 0, 1, 120, 1, 0, 0, 52]), .int .i64 0] := by
  have : putV 1 [120] = ([1, 0, 1, 120, 1, 0, 0, 52], 0) := by decide +kernel
  unfold putR
  rw [this]
  rfl

end Go.Proofs.YtloiciinmdmdkaaGreatDoor
