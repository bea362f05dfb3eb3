/-
  The texts Up, Bs, one behind the other; each says below what it holds and on what conditions.
-/
import Derived.Test.YtemineffflodcaaChecked
import Derived.WalkKit
import Derived.WalkSpells
import Derived.Lib.Walk
import Derived.Lib.Hide
import Derived.Below
import Derived.Deep.Draws
import Derived.Laws.Concat
import Derived.Laws.IdiomStrings

/-
  Words that the walks share: nothing that was there has turned (Up); texts and their lists. Conditions: as each says.
-/
namespace Go.Proofs.Ytemineffflodcaa
open Go.RowKit
open Go.Proofs

/-- nothing that was there has turned -/
def Up (w w' : World) : Prop := Below w.heap.size w w'
theorem Up.refl (w : World) : Up w w := Below.refl _ _
theorem Up.trans {a b c : World} (h : Up a b) (k : Up b c) : Up a c := Below.trans h (Below.mono k h.size)
theorem Up.alloc (w : World) (o : Obj) : Up w (w.alloc o) := (Below.refl _ _).alloc (Nat.le_refl _) o
theorem Up.after (w w' : World) (o : Obj) (h : Up (w.alloc o) w') : Up w w' := (Up.alloc w o).trans h
theorem Up.of_eq {w w' : World} (h : w = w') : Up w w' := h ▸ Up.refl w
theorem Up.drew (w : World) : Up w w.drew := Below.drew (Up.refl w)
theorem Up.drewN (w : World) (n : Nat) : Up w (w.drewN n) := ⟨rfl, rfl, rfl, Nat.le_refl _, fun _ _ => rfl⟩

theorem ba_append_list (a b : ByteArray) : (a ++ b).data.toList = a.data.toList ++ b.data.toList := by
  rw [ByteArray.data_append, Array.toList_append]

theorem ba_length (a : ByteArray) : a.data.toList.length = a.size := by rw [Array.length_toList]; rfl

theorem take_snoc (s : ByteArray) (k : Nat) (h : k < s.size) : s.data.toList.take (k + 1) = s.data.toList.take k ++ [s[k]] := by
  rw [List.take_succ_eq_append_getElem (by simpa using h)]; rfl

theorem take_len (s : ByteArray) (k : Nat) (h : k ≤ s.size) : (s.data.toList.take k).length = k := by
  rw [List.length_take, ba_length]; omega

theorem extract_list (s : ByteArray) (n : Nat) : (s.extract 0 n).data.toList = s.data.toList.take n := by
  rw [ByteArray.data_extract, Array.toList_extract, List.extract_eq_take_drop, List.drop_zero, Nat.sub_zero]

theorem extract_size (s : ByteArray) (n : Nat) (h : n ≤ s.size) : (s.extract 0 n).size = n := by
  rw [ByteArray.size_extract]; omega

theorem list_at (s : ByteArray) (k : Nat) (h : k < s.size) : s.data.toList[k]? = some s[k] := by
  rw [List.getElem?_eq_getElem (by rw [ba_length]; exact h)]; rfl

/-- a text's byte at a number -/
theorem str_index (s : ByteArray) (n : Int) (m : Nat) (x : UInt8) (hn : n = (m : Int)) (hx : s.data.toList[m]? = some x) :
    ∀ W : World, (Instr.index 9 (.string s) (.int .i64 n)).run Try.prog W = .ok (.int .u8 (x.toNat : Int)) W := by
  intro W
  have hm : m < s.size := by
    rw [← ba_length]
    exact (List.getElem?_eq_some_iff.1 hx).1
  subst hn
  rw [run_index_string W 9 s .i64 (m : Int) Try.underlying9, dif_pos ⟨by omega, by omega⟩]
  rw [list_at s m hm] at hx
  cases hx
  rfl

/-- a piece of a text -/
theorem str_slice (s : ByteArray) (a b : Int) (m n : Nat) (ha : a = (m : Int)) (hb : b = (n : Int)) (h1 : m ≤ n) (h2 : n ≤ s.size) :
    ∀ W : World, (Instr.slice 9 (.string s) (some (.int .i64 a)) (some (.int .i64 b)) none).run Try.prog W = .ok (.string (s.extract m n)) W := by
  intro W
  subst ha hb
  rw [run_slice_string W 9 s .i64 .i64 (m : Int) (n : Int) Try.underlying9 (by omega) (by omega) (by omega)]
  rfl

theorem ext_list (s : ByteArray) (a b : Nat) : (s.extract a b).toList = (s.data.toList.drop a).take (b - a) := by
  rw [ByteArray.toList_eq, ByteArray.data_extract, Array.toList_extract, List.extract_eq_take_drop]

end Go.Proofs.Ytemineffflodcaa

/-
  A list of bytes as a text (bs), and what the operations on texts make of it. Conditions: as each says.
-/
namespace Go.Proofs.Ytemineffflodcaa
open Go.RowKit
open Go.Proofs

/-- a list of bytes as a text -/
def bs (l : List UInt8) : ByteArray := ⟨l.toArray⟩

theorem bs_size (l : List UInt8) : (bs l).size = l.length := by simp [bs, ByteArray.size]
theorem bs_list (l : List UInt8) : (bs l).data.toList = l := by simp [bs]
theorem bs_append (a b : List UInt8) : bs a ++ bs b = bs (a ++ b) := by
  apply ByteArray.ext
  apply Array.toList_inj.1
  rw [ba_append_list, bs_list, bs_list, bs_list]
theorem bs_of (s : ByteArray) : bs s.data.toList = s := by
  apply ByteArray.ext
  simp [bs]
theorem bs_inj {a b : List UInt8} (h : bs a = bs b) : a = b := by
  have := congrArg (fun s : ByteArray => s.data.toList) h
  simpa [bs_list] using this
theorem bs_extract (l : List UInt8) (a b : Nat) : (bs l).extract a b = bs ((l.drop a).take (b - a)) := by
  apply ByteArray.ext
  apply Array.toList_inj.1
  rw [ByteArray.data_extract, Array.toList_extract, List.extract_eq_take_drop, bs_list, bs_list]

theorem add_bs (a b : List UInt8) (h : a.length + b.length ≤ 9223372036854775807) : ∀ v : World, (Op.stringOp .add (bs a) (bs b)).run Try.prog v = .ok (.string (bs (a ++ b))) v := fun v => by
  rw [← bs_append]
  exact run_string_add_sum v _ _ (by rw [bs_size, bs_size]; exact h)

/-- a piece of a text -/
theorem slice_bs (l : List UInt8) (a b : Int) (m n : Nat) (ha : a = (m : Int)) (hb : b = (n : Int)) (h1 : m ≤ n) (h2 : n ≤ l.length) :
    ∀ W : World, (Instr.slice 9 (.string (bs l)) (some (.int .i64 a)) (some (.int .i64 b)) none).run Try.prog W = .ok (.string (bs ((l.drop m).take (n - m)))) W := fun W => by
  rw [str_slice (bs l) a b m n ha hb h1 (by rw [bs_size]; exact h2) W, bs_extract]

/-- a text from a place on -/
theorem from_bs (l : List UInt8) (a : Int) (m : Nat) (ha : a = (m : Int)) (h1 : m ≤ l.length) :
    ∀ W : World, (Instr.slice 9 (.string (bs l)) (some (.int .i64 a)) none none).run Try.prog W = .ok (.string (bs (l.drop m))) W := fun W => by
  subst ha
  rw [run_slice_string_l W 9 (bs l) Try.underlying9 .i64 (m : Int) (by omega) (by rw [bs_size]; omega), Int.toNat_natCast, bs_extract, bs_size, List.take_of_length_le (by rw [List.length_drop]; omega)]

theorem index_bs (l : List UInt8) (k : Nat) (h : k < l.length) : ∀ W : World, (Instr.index 9 (.string (bs l)) (.int .i64 (k : Int))).run Try.prog W = .ok (.int .u8 ((l[k].toNat : Nat) : Int)) W :=
  str_index (bs l) (k : Int) k l[k] rfl (by rw [bs_list]; exact List.getElem?_eq_getElem h)

/-- a text's beginning -/
theorem to_bs (l : List UInt8) (a : Int) (m : Nat) (ha : a = (m : Int)) (h1 : m ≤ l.length) :
    ∀ W : World, (Instr.slice 9 (.string (bs l)) none (some (.int .i64 a)) none).run Try.prog W = .ok (.string (bs (l.take m))) W := fun W => by
  subst ha
  rw [run_slice_string_h W 9 (bs l) Try.underlying9 .i64 (m : Int) (by omega) (by rw [bs_size]; omega), Int.toNat_natCast, bs_extract, List.drop_zero, Nat.sub_zero]

theorem not_empty (l : List UInt8) (h : 0 < l.length) : (bs l).toList.isEmpty = false := by
  rw [ByteArray.toList_eq, bs_list]
  cases l with
  | nil => simp at h
  | cons _ _ => rfl

end Go.Proofs.Ytemineffflodcaa
