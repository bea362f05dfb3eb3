/-
  A list of bytes as a text (bs), and what the operations on texts make of it. Conditions: as each says.
-/
import Derived.Test.YtabhalajelbfoaaUp
namespace Go.Proofs.Ytabhalajelbfoaa
open Go.RowKit
open Go.Proofs

/-- a list of bytes as a text -/
def bs (l : List UInt8) : ByteArray := ⟨l.toArray⟩

theorem bs_size (l : List UInt8) : (bs l).size = l.length := by simp [bs, ByteArray.size]
theorem bs_list (l : List UInt8) : (bs l).data.toList = l := by simp [bs]
theorem bs_append (a b : List UInt8) : bs a ++ bs b = bs (a ++ b) := by
  apply ByteArray.ext
  apply Array.toList_inj.1
  rw [ba_append_list, bs_list, bs_list, bs_list]
theorem bs_of (s : ByteArray) : bs s.data.toList = s := by
  apply ByteArray.ext
  simp [bs]
theorem bs_inj {a b : List UInt8} (h : bs a = bs b) : a = b := by
  have := congrArg (fun s : ByteArray => s.data.toList) h
  simpa [bs_list] using this
theorem bs_extract (l : List UInt8) (a b : Nat) : (bs l).extract a b = bs ((l.drop a).take (b - a)) := by
  apply ByteArray.ext
  apply Array.toList_inj.1
  rw [ByteArray.data_extract, Array.toList_extract, List.extract_eq_take_drop, bs_list, bs_list]

theorem add_bs (a b : List UInt8) (h : a.length + b.length ≤ 9223372036854775807) : ∀ v : World, (Op.stringOp .add (bs a) (bs b)).run Try.prog v = .ok (.string (bs (a ++ b))) v := fun v => by
  rw [← bs_append]
  exact run_string_add_sum v _ _ (by rw [bs_size, bs_size]; exact h)

/-- a piece of a text -/
theorem slice_bs (l : List UInt8) (a b : Int) (m n : Nat) (ha : a = (m : Int)) (hb : b = (n : Int)) (h1 : m ≤ n) (h2 : n ≤ l.length) :
    ∀ W : World, (Instr.slice 9 (.string (bs l)) (some (.int .i64 a)) (some (.int .i64 b)) none).run Try.prog W = .ok (.string (bs ((l.drop m).take (n - m)))) W := fun W => by
  rw [str_slice (bs l) a b m n ha hb h1 (by rw [bs_size]; exact h2) W, bs_extract]

/-- a text from a place on -/
theorem from_bs (l : List UInt8) (a : Int) (m : Nat) (ha : a = (m : Int)) (h1 : m ≤ l.length) :
    ∀ W : World, (Instr.slice 9 (.string (bs l)) (some (.int .i64 a)) none none).run Try.prog W = .ok (.string (bs (l.drop m))) W := fun W => by
  subst ha
  rw [run_slice_string_l W 9 (bs l) Try.underlying9 .i64 (m : Int) (by omega) (by rw [bs_size]; omega), Int.toNat_natCast, bs_extract, bs_size, List.take_of_length_le (by rw [List.length_drop]; omega)]

theorem index_bs (l : List UInt8) (k : Nat) (h : k < l.length) : ∀ W : World, (Instr.index 9 (.string (bs l)) (.int .i64 (k : Int))).run Try.prog W = .ok (.int .u8 ((l[k].toNat : Nat) : Int)) W :=
  str_index (bs l) (k : Int) k l[k] rfl (by rw [bs_list]; exact List.getElem?_eq_getElem h)

/-- a text's beginning -/
theorem to_bs (l : List UInt8) (a : Int) (m : Nat) (ha : a = (m : Int)) (h1 : m ≤ l.length) :
    ∀ W : World, (Instr.slice 9 (.string (bs l)) none (some (.int .i64 a)) none).run Try.prog W = .ok (.string (bs (l.take m))) W := fun W => by
  subst ha
  rw [run_slice_string_h W 9 (bs l) Try.underlying9 .i64 (m : Int) (by omega) (by rw [bs_size]; omega), Int.toNat_natCast, bs_extract, List.drop_zero, Nat.sub_zero]

theorem not_empty (l : List UInt8) (h : 0 < l.length) : (bs l).toList.isEmpty = false := by
  rw [ByteArray.toList_eq, bs_list]
  cases l with
  | nil => simp at h
  | cons _ _ => rfl

end Go.Proofs.Ytabhalajelbfoaa
