/-
  What the functions of package gamma return. Conditions: of those that write digits: one cell of the table deBruijn64tab (Tab); of those that read: a text of at most 2^48 bytes.
-/
import Derived.Test.YtjbedphofjdfkaaDoorFmt1
import Derived.Test.YtjbedphofjdfkaaDoorShelf
import Derived.Deep.RegionHeld3
import Derived.BigRegion
namespace Go.Proofs.YtjbedphofjdfkaaDoor
open Go.RowKit
open Go.Proofs

/-- a list of bytes as a text -/
def bs (l : List UInt8) : ByteArray := ⟨l.toArray⟩

theorem bs_size (l : List UInt8) : (bs l).size = l.length := by simp [bs, ByteArray.size]
theorem bs_list (l : List UInt8) : (bs l).data.toList = l := by simp [bs]
theorem bs_append (a b : List UInt8) : bs a ++ bs b = bs (a ++ b) := by
  apply ByteArray.ext
  apply Array.toList_inj.1
  rw [ba_append_list, bs_list, bs_list, bs_list]
theorem bs_of (s : ByteArray) : bs s.data.toList = s := by
  apply ByteArray.ext
  simp [bs]
theorem bs_inj {a b : List UInt8} (h : bs a = bs b) : a = b := by
  have := congrArg (fun s : ByteArray => s.data.toList) h
  simpa [bs_list] using this
theorem bs_extract (l : List UInt8) (a b : Nat) : (bs l).extract a b = bs ((l.drop a).take (b - a)) := by
  apply ByteArray.ext
  apply Array.toList_inj.1
  rw [ByteArray.data_extract, Array.toList_extract, List.extract_eq_take_drop, bs_list, bs_list]

theorem add_bs (a b : List UInt8) (h : a.length + b.length ≤ 9223372036854775807) : ∀ v : World, (Op.stringOp .add (bs a) (bs b)).run Tryd.prog v = .ok (.string (bs (a ++ b))) v := fun v => by
  rw [← bs_append]
  exact run_string_add_sum v _ _ (by rw [bs_size, bs_size]; exact h)

/-- a piece of a text -/
theorem slice_bs (l : List UInt8) (a b : Int) (m n : Nat) (ha : a = (m : Int)) (hb : b = (n : Int)) (h1 : m ≤ n) (h2 : n ≤ l.length) :
    ∀ W : World, (Instr.slice 9 (.string (bs l)) (some (.int .i64 a)) (some (.int .i64 b)) none).run Tryd.prog W = .ok (.string (bs ((l.drop m).take (n - m)))) W := fun W => by
  rw [str_slice (bs l) a b m n ha hb h1 (by rw [bs_size]; exact h2) W, bs_extract]

/-- a text from a place on -/
theorem from_bs (l : List UInt8) (a : Int) (m : Nat) (ha : a = (m : Int)) (h1 : m ≤ l.length) :
    ∀ W : World, (Instr.slice 9 (.string (bs l)) (some (.int .i64 a)) none none).run Tryd.prog W = .ok (.string (bs (l.drop m))) W := fun W => by
  subst ha
  rw [run_slice_string_l W 9 (bs l) Tryd.underlying9 .i64 (m : Int) (by omega) (by rw [bs_size]; omega), Int.toNat_natCast, bs_extract, bs_size, List.take_of_length_le (by rw [List.length_drop]; omega)]

theorem digits_any (n : Nat) (w : World) (h1 : 1 ≤ n) (h2 : n < 4294967296) (hT : Tab w) :
    Calls Tryd.prog 37 #[.int .i64 (n : Int)] w fun e w' => e = .returned (.string (bs (WoolBits.dg n))) ∧ Up w w' := by
  go_enter Tryd.func37, Tryd.ntmps37
  go_wp2_with (go_at_call 62; refine (format2 n _ h1 h2 hT).mono ?_; rintro e w' ⟨rfl, u⟩)
  go_ret
  exact ⟨rfl, u⟩

theorem zeros_text (c : Nat) : (⟨(Lib.repeatL (⟨#[48]⟩ : ByteArray).data.toList c).toArray⟩ : ByteArray) = bs (List.replicate c 48) := by
  have : ∀ c : Nat, Lib.repeatL [48] c = List.replicate c (48 : UInt8) := by
    intro c
    induction c with
    | zero => rfl
    | succ c ih => simp [Lib.repeatL]; rw [ih, List.replicate_succ]
  show bs (Lib.repeatL [48] c) = _
  rw [this]

theorem gammaOf_any (n : Nat) (w : World) (h1 : 1 ≤ n) (h2 : n < 4294967296) (hT : Tab w) :
    Calls Tryd.prog 36 #[.int .i64 (n : Int)] w fun e w' => e = .returned (.string (bs (WoolBits.gam n))) ∧ Up w w' := by
  obtain ⟨m, hm⟩ : ∃ m, WoolBits.len n = m + 1 := ⟨WoolBits.len n - 1, by have := WoolBits.len_pos n; omega⟩
  have hm32 : m ≤ 31 := by have := WoolBits.len_lt 32 n (by simpa using h2) (by omega); omega
  have hsz : (bs (WoolBits.dg n)).size = m + 1 := by rw [bs_size]; exact hm
  have HM := Lib.hid hm
  clear hm
  go_enter Tryd.func36, Tryd.ntmps36
  go_wp2_with fail
  refine (digits_any n _ h1 h2 hT).mono ?_
  rintro e w1 ⟨rfl, u1⟩
  go_wp2_with fail
  refine (Tryd.strings_Repeat ⟨#[48]⟩ m _ (by omega) (by show 1 * m ≤ _; omega)).mono ?_
  rintro e w2 ⟨rfl, u2⟩
  rw [zeros_text]
  have hadd := add_bs (List.replicate m 48) (WoolBits.dg n) (by rw [List.length_replicate]; have := HM.out; unfold WoolBits.len at this; omega)
  go_wp2
  go_ret
  refine ⟨?_, Up.trans u1 u2⟩
  unfold WoolBits.gam
  rw [HM.out]
  rfl

theorem isNumber_yes (n : Nat) (w : World) (h1 : 1 ≤ n) (h2 : n ≤ 2147483647) :
    Calls Tryd.prog 35 #[.int .i64 (n : Int)] w fun e w' => e = .returned (.bool true) ∧ w = w' := by
  have hd : decide ((n : Int) ≤ 2147483647) = true := by rw [decide_eq_true_iff]; omega
  go_enter Tryd.func35, Tryd.ntmps35
  go_wp2
  go_ret
  exact ⟨rfl, rfl⟩

theorem isNumber_no (n : Int) (w : World) (h : n < 1 ∨ 2147483647 < n) :
    Calls Tryd.prog 35 #[.int .i64 n] w fun e w' => e = .returned (.bool false) ∧ w = w' := by
  by_cases h1 : n < 1
  · have h1' : ¬ 1 ≤ n := by omega
    clear h
    go_enter Tryd.func35, Tryd.ntmps35
    go_wp2
    go_ret
    exact ⟨rfl, rfl⟩
  · have h1' : 1 ≤ n := by omega
    have h2' : ¬ n ≤ 2147483647 := by omega
    clear h
    go_enter Tryd.func35, Tryd.ntmps35
    go_wp2
    go_ret
    exact ⟨rfl, rfl⟩

theorem gamma_yes (n : Nat) (w : World) (h1 : 1 ≤ n) (h2 : n ≤ 2147483647) (hT : Tab w) :
    Calls Tryd.prog 12 #[.int .i64 (n : Int)] w fun e w' => e = .returned (.tuple #[.string (bs (WoolBits.gam n)), .int .i64 0]) ∧ Up w w' := by
  go_enter Tryd.func12, Tryd.ntmps12
  go_wp2_with fail
  refine (isNumber_yes n _ h1 h2).mono ?_
  rintro e w1 ⟨rfl, rfl⟩
  go_wp2_with fail
  refine (gammaOf_any n _ h1 (by omega) hT).mono ?_
  rintro e w2 ⟨rfl, u2⟩
  go_wp2
  go_ret2
  exact ⟨rfl, u2⟩

theorem gamma_no (n : Int) (w : World) (h : n < 1 ∨ 2147483647 < n) :
    Calls Tryd.prog 12 #[.int .i64 n] w fun e w' => e = .returned (.tuple #[.string (bs []), .int .i64 1]) ∧ w = w' := by
  go_enter Tryd.func12, Tryd.ntmps12
  go_wp2_with fail
  refine (isNumber_no n _ h).mono ?_
  rintro e w1 ⟨rfl, rfl⟩
  clear h
  go_wp2
  go_ret2
  exact ⟨rfl, rfl⟩

theorem delta_yes (n : Nat) (w : World) (h1 : 1 ≤ n) (h2 : n ≤ 2147483647) (hT : Tab w) :
    Calls Tryd.prog 13 #[.int .i64 (n : Int)] w fun e w' => e = .returned (.tuple #[.string (bs (WoolBits.del n)), .int .i64 0]) ∧ Up w w' := by
  have hL := WoolBits.len_pos n
  have hL2 : WoolBits.len n ≤ 31 := WoolBits.len_lt 31 n (by simp; omega) (by omega)
  have hsz : (bs (WoolBits.dg n)).size = WoolBits.len n := by rw [bs_size]; rfl
  have hsl := from_bs (WoolBits.dg n) 1 1 rfl hL
  have hadd := add_bs (WoolBits.gam (WoolBits.len n)) ((WoolBits.dg n).drop 1) (by
    have := WoolBits.del_length n
    have h3 := WoolBits.len_lt 5 (WoolBits.len n) (by simp; omega) (by omega)
    unfold WoolBits.del at this
    rw [List.length_append] at this
    omega)
  have HE := Lib.hid (show WoolBits.del n = WoolBits.gam (WoolBits.len n) ++ (WoolBits.dg n).drop 1 from rfl)
  generalize (WoolBits.dg n).drop 1 = D at *
  go_enter Tryd.func13, Tryd.ntmps13
  go_wp2_with fail
  refine (isNumber_yes n _ h1 h2).mono ?_
  rintro e w1 ⟨rfl, rfl⟩
  go_wp2_with fail
  refine (digits_any n _ h1 (by omega) hT).mono ?_
  rintro e w2 ⟨rfl, u2⟩
  go_wp2_with fail
  go_region_held3 (fun _ => True) (trivial) (first
    | (go_at_call 36; refine (gammaOf_any (WoolBits.len n) _ hL (by omega) ((hT.up u2).up (Up.drew _))).mono ?_; rintro e w3 ⟨rfl, u3⟩))
  all_goals
    go_wp2
    go_ret2
    exact ⟨by rw [HE.out]; rfl, (u2.trans (Up.drew _)).trans u3⟩

theorem delta_no (n : Int) (w : World) (h : n < 1 ∨ 2147483647 < n) :
    Calls Tryd.prog 13 #[.int .i64 n] w fun e w' => e = .returned (.tuple #[.string (bs []), .int .i64 1]) ∧ w = w' := by
  go_enter Tryd.func13, Tryd.ntmps13
  go_wp2_with fail
  refine (isNumber_no n _ h).mono ?_
  rintro e w1 ⟨rfl, rfl⟩
  clear h
  go_wp2
  go_ret2
  exact ⟨rfl, rfl⟩

end Go.Proofs.YtjbedphofjdfkaaDoor
