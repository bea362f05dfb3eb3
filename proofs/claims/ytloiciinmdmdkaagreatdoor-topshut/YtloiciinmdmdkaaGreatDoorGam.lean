/-
  What the functions of package gamma return. Conditions: of those that write digits: one cell of the table deBruijn64tab (Tab); of those that read: a text of at most 2^48 bytes.
-/
import Derived.Test.YtloiciinmdmdkaaGreatDoorFmt1
import Derived.Test.YtloiciinmdmdkaaGreatDoorBs
import Derived.Test.YtloiciinmdmdkaaGreatDoorShelf
import Derived.Deep.RegionHeld3
import Derived.BigRegion
namespace Go.Proofs.YtloiciinmdmdkaaGreatDoor
open Go.RowKit
open Go.Proofs

theorem digits_any (n : Nat) (w : World) (h1 : 1 ≤ n) (h2 : n < 4294967296) (hT : Tab w) :
    Calls Tryz.prog 99 #[.int .i64 (n : Int)] w fun e w' => e = .returned (.string (bs (WoolBits.dg n))) ∧ Up w w' := by
  go_enter Tryz.func99, Tryz.ntmps99
  go_wp2_with (go_at_call 83; refine (format2 n _ h1 h2 hT).mono ?_; rintro e w' ⟨rfl, u⟩)
  go_ret
  exact ⟨rfl, u⟩

theorem zeros_text (c : Nat) : (⟨(Lib.repeatL (⟨#[48]⟩ : ByteArray).data.toList c).toArray⟩ : ByteArray) = bs (List.replicate c 48) := by
  have : ∀ c : Nat, Lib.repeatL [48] c = List.replicate c (48 : UInt8) := by
    intro c
    induction c with
    | zero => rfl
    | succ c ih => simp [Lib.repeatL]; rw [ih, List.replicate_succ]
  show bs (Lib.repeatL [48] c) = _
  rw [this]

theorem gammaOf_any (n : Nat) (w : World) (h1 : 1 ≤ n) (h2 : n < 4294967296) (hT : Tab w) :
    Calls Tryz.prog 85 #[.int .i64 (n : Int)] w fun e w' => e = .returned (.string (bs (WoolBits.gam n))) ∧ Up w w' := by
  obtain ⟨m, hm⟩ : ∃ m, WoolBits.len n = m + 1 := ⟨WoolBits.len n - 1, by have := WoolBits.len_pos n; omega⟩
  have hm32 : m ≤ 31 := by have := WoolBits.len_lt 32 n (by simpa using h2) (by omega); omega
  have hsz : (bs (WoolBits.dg n)).size = m + 1 := by rw [bs_size]; exact hm
  have HM := Lib.hid hm
  clear hm
  go_enter Tryz.func85, Tryz.ntmps85
  go_wp2_with fail
  refine (digits_any n _ h1 h2 hT).mono ?_
  rintro e w1 ⟨rfl, u1⟩
  go_wp2_with fail
  refine (Tryz.strings_Repeat ⟨#[48]⟩ m _ (by omega) (by show 1 * m ≤ _; omega)).mono ?_
  rintro e w2 ⟨rfl, u2⟩
  rw [zeros_text]
  have hadd := add_bs (List.replicate m 48) (WoolBits.dg n) (by rw [List.length_replicate]; have := HM.out; unfold WoolBits.len at this; omega)
  go_wp2
  go_ret
  refine ⟨?_, Up.trans u1 u2⟩
  unfold WoolBits.gam
  rw [HM.out]
  rfl

theorem isNumber_yes (n : Nat) (w : World) (h1 : 1 ≤ n) (h2 : n ≤ 2147483647) :
    Calls Tryz.prog 84 #[.int .i64 (n : Int)] w fun e w' => e = .returned (.bool true) ∧ w = w' := by
  have hd : decide ((n : Int) ≤ 2147483647) = true := by rw [decide_eq_true_iff]; omega
  go_enter Tryz.func84, Tryz.ntmps84
  go_wp2
  go_ret
  exact ⟨rfl, rfl⟩

theorem isNumber_no (n : Int) (w : World) (h : n < 1 ∨ 2147483647 < n) :
    Calls Tryz.prog 84 #[.int .i64 n] w fun e w' => e = .returned (.bool false) ∧ w = w' := by
  by_cases h1 : n < 1
  · have h1' : ¬ 1 ≤ n := by omega
    clear h
    go_enter Tryz.func84, Tryz.ntmps84
    go_wp2
    go_ret
    exact ⟨rfl, rfl⟩
  · have h1' : 1 ≤ n := by omega
    have h2' : ¬ n ≤ 2147483647 := by omega
    clear h
    go_enter Tryz.func84, Tryz.ntmps84
    go_wp2
    go_ret
    exact ⟨rfl, rfl⟩

theorem gamma_yes (n : Nat) (w : World) (h1 : 1 ≤ n) (h2 : n ≤ 2147483647) (hT : Tab w) :
    Calls Tryz.prog 61 #[.int .i64 (n : Int)] w fun e w' => e = .returned (.tuple #[.string (bs (WoolBits.gam n)), .int .i64 0]) ∧ Up w w' := by
  go_enter Tryz.func61, Tryz.ntmps61
  go_wp2_with fail
  refine (isNumber_yes n _ h1 h2).mono ?_
  rintro e w1 ⟨rfl, rfl⟩
  go_wp2_with fail
  refine (gammaOf_any n _ h1 (by omega) hT).mono ?_
  rintro e w2 ⟨rfl, u2⟩
  go_wp2
  go_ret2
  exact ⟨rfl, u2⟩

theorem gamma_no (n : Int) (w : World) (h : n < 1 ∨ 2147483647 < n) :
    Calls Tryz.prog 61 #[.int .i64 n] w fun e w' => e = .returned (.tuple #[.string (bs []), .int .i64 1]) ∧ w = w' := by
  go_enter Tryz.func61, Tryz.ntmps61
  go_wp2_with fail
  refine (isNumber_no n _ h).mono ?_
  rintro e w1 ⟨rfl, rfl⟩
  clear h
  go_wp2
  go_ret2
  exact ⟨rfl, rfl⟩

end Go.Proofs.YtloiciinmdmdkaaGreatDoor
