/-
  Words that the walks share: nothing that was there has turned (Up); texts and their lists. Conditions: as each says.
-/
import Derived.Test.YtabhalajelbfoaaChecked
import Derived.WalkKit
import Derived.WalkSpells
import Derived.Lib.Walk
import Derived.Lib.Hide
import Derived.Below
import Derived.Deep.Draws
import Derived.Laws.Concat
import Derived.Laws.IdiomStrings
namespace Go.Proofs.Ytabhalajelbfoaa
open Go.RowKit
open Go.Proofs

/-- nothing that was there has turned -/
def Up (w w' : World) : Prop := Below w.heap.size w w'
theorem Up.refl (w : World) : Up w w := Below.refl _ _
theorem Up.trans {a b c : World} (h : Up a b) (k : Up b c) : Up a c := Below.trans h (Below.mono k h.size)
theorem Up.alloc (w : World) (o : Obj) : Up w (w.alloc o) := (Below.refl _ _).alloc (Nat.le_refl _) o
theorem Up.after (w w' : World) (o : Obj) (h : Up (w.alloc o) w') : Up w w' := (Up.alloc w o).trans h
theorem Up.of_eq {w w' : World} (h : w = w') : Up w w' := h ▸ Up.refl w
theorem Up.drew (w : World) : Up w w.drew := Below.drew (Up.refl w)
theorem Up.drewN (w : World) (n : Nat) : Up w (w.drewN n) := ⟨rfl, rfl, rfl, Nat.le_refl _, fun _ _ => rfl⟩

theorem ba_append_list (a b : ByteArray) : (a ++ b).data.toList = a.data.toList ++ b.data.toList := by
  rw [ByteArray.data_append, Array.toList_append]

theorem ba_length (a : ByteArray) : a.data.toList.length = a.size := by rw [Array.length_toList]; rfl

theorem take_snoc (s : ByteArray) (k : Nat) (h : k < s.size) : s.data.toList.take (k + 1) = s.data.toList.take k ++ [s[k]] := by
  rw [List.take_succ_eq_append_getElem (by simpa using h)]; rfl

theorem take_len (s : ByteArray) (k : Nat) (h : k ≤ s.size) : (s.data.toList.take k).length = k := by
  rw [List.length_take, ba_length]; omega

theorem extract_list (s : ByteArray) (n : Nat) : (s.extract 0 n).data.toList = s.data.toList.take n := by
  rw [ByteArray.data_extract, Array.toList_extract, List.extract_eq_take_drop, List.drop_zero, Nat.sub_zero]

theorem extract_size (s : ByteArray) (n : Nat) (h : n ≤ s.size) : (s.extract 0 n).size = n := by
  rw [ByteArray.size_extract]; omega

theorem list_at (s : ByteArray) (k : Nat) (h : k < s.size) : s.data.toList[k]? = some s[k] := by
  rw [List.getElem?_eq_getElem (by rw [ba_length]; exact h)]; rfl

/-- a text's byte at a number -/
theorem str_index (s : ByteArray) (n : Int) (m : Nat) (x : UInt8) (hn : n = (m : Int)) (hx : s.data.toList[m]? = some x) :
    ∀ W : World, (Instr.index 9 (.string s) (.int .i64 n)).run Try.prog W = .ok (.int .u8 (x.toNat : Int)) W := by
  intro W
  have hm : m < s.size := by
    rw [← ba_length]
    exact (List.getElem?_eq_some_iff.1 hx).1
  subst hn
  rw [run_index_string W 9 s .i64 (m : Int) Try.underlying9, dif_pos ⟨by omega, by omega⟩]
  rw [list_at s m hm] at hx
  cases hx
  rfl

/-- a piece of a text -/
theorem str_slice (s : ByteArray) (a b : Int) (m n : Nat) (ha : a = (m : Int)) (hb : b = (n : Int)) (h1 : m ≤ n) (h2 : n ≤ s.size) :
    ∀ W : World, (Instr.slice 9 (.string s) (some (.int .i64 a)) (some (.int .i64 b)) none).run Try.prog W = .ok (.string (s.extract m n)) W := by
  intro W
  subst ha hb
  rw [run_slice_string W 9 s .i64 .i64 (m : Int) (n : Int) Try.underlying9 (by omega) (by omega) (by omega)]
  rfl

theorem ext_list (s : ByteArray) (a b : Nat) : (s.extract a b).toList = (s.data.toList.drop a).take (b - a) := by
  rw [ByteArray.toList_eq, ByteArray.data_extract, Array.toList_extract, List.extract_eq_take_drop]

end Go.Proofs.Ytabhalajelbfoaa
