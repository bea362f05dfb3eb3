/-
  The texts Up, Bs, Fl, Math, one behind the other; each says below what it holds and on what conditions.
-/
import Derived.Test.YtbeigaanlhaolaaGreatDoorChecked
import Derived.WalkKit
import Derived.WalkSpells
import Derived.Lib.Walk
import Derived.Lib.Hide
import Derived.Below
import Derived.Deep.Draws
import Derived.Laws.Concat
import Derived.Laws.IdiomStrings
import Derived.Lib.SliceRun
import Derived.Maps.AppendAt

/-
  Words that the walks share: nothing that was there has turned (Up); texts and their lists. Conditions: as each says.
-/
namespace Go.Proofs.YtbeigaanlhaolaaGreatDoor
open Go.RowKit
open Go.Proofs

/-- nothing that was there has turned -/
def Up (w w' : World) : Prop := Below w.heap.size w w'
theorem Up.refl (w : World) : Up w w := Below.refl _ _
theorem Up.trans {a b c : World} (h : Up a b) (k : Up b c) : Up a c := Below.trans h (Below.mono k h.size)
theorem Up.alloc (w : World) (o : Obj) : Up w (w.alloc o) := (Below.refl _ _).alloc (Nat.le_refl _) o
theorem Up.after (w w' : World) (o : Obj) (h : Up (w.alloc o) w') : Up w w' := (Up.alloc w o).trans h
theorem Up.of_eq {w w' : World} (h : w = w') : Up w w' := h ▸ Up.refl w
theorem Up.drew (w : World) : Up w w.drew := Below.drew (Up.refl w)
theorem Up.drewN (w : World) (n : Nat) : Up w (w.drewN n) := ⟨rfl, rfl, rfl, Nat.le_refl _, fun _ _ => rfl⟩

theorem ba_append_list (a b : ByteArray) : (a ++ b).data.toList = a.data.toList ++ b.data.toList := by
  rw [ByteArray.data_append, Array.toList_append]

theorem ba_length (a : ByteArray) : a.data.toList.length = a.size := by rw [Array.length_toList]; rfl

theorem take_snoc (s : ByteArray) (k : Nat) (h : k < s.size) : s.data.toList.take (k + 1) = s.data.toList.take k ++ [s[k]] := by
  rw [List.take_succ_eq_append_getElem (by simpa using h)]; rfl

theorem extract_size (s : ByteArray) (n : Nat) (h : n ≤ s.size) : (s.extract 0 n).size = n := by
  rw [ByteArray.size_extract]; omega

theorem list_at (s : ByteArray) (k : Nat) (h : k < s.size) : s.data.toList[k]? = some s[k] := by
  rw [List.getElem?_eq_getElem (by rw [ba_length]; exact h)]; rfl

/-- a text's byte at a number -/
theorem str_index (s : ByteArray) (n : Int) (m : Nat) (x : UInt8) (hn : n = (m : Int)) (hx : s.data.toList[m]? = some x) :
    ∀ W : World, (Instr.index 9 (.string s) (.int .i64 n)).run Tryz.prog W = .ok (.int .u8 (x.toNat : Int)) W := by
  intro W
  have hm : m < s.size := by
    rw [← ba_length]
    exact (List.getElem?_eq_some_iff.1 hx).1
  subst hn
  rw [run_index_string W 9 s .i64 (m : Int) Tryz.underlying9, dif_pos ⟨by omega, by omega⟩]
  rw [list_at s m hm] at hx
  cases hx
  rfl

/-- a piece of a text -/
theorem str_slice (s : ByteArray) (a b : Int) (m n : Nat) (ha : a = (m : Int)) (hb : b = (n : Int)) (h1 : m ≤ n) (h2 : n ≤ s.size) :
    ∀ W : World, (Instr.slice 9 (.string s) (some (.int .i64 a)) (some (.int .i64 b)) none).run Tryz.prog W = .ok (.string (s.extract m n)) W := by
  intro W
  subst ha hb
  rw [run_slice_string W 9 s .i64 .i64 (m : Int) (n : Int) Tryz.underlying9 (by omega) (by omega) (by omega)]
  rfl

end Go.Proofs.YtbeigaanlhaolaaGreatDoor

/-
  A list of bytes as a text (bs), and what the operations on texts make of it. Conditions: as each says.
-/
namespace Go.Proofs.YtbeigaanlhaolaaGreatDoor
open Go.RowKit
open Go.Proofs

/-- a list of bytes as a text -/
def bs (l : List UInt8) : ByteArray := ⟨l.toArray⟩

theorem bs_size (l : List UInt8) : (bs l).size = l.length := by simp [bs, ByteArray.size]
theorem bs_list (l : List UInt8) : (bs l).data.toList = l := by simp [bs]
theorem bs_append (a b : List UInt8) : bs a ++ bs b = bs (a ++ b) := by
  apply ByteArray.ext
  apply Array.toList_inj.1
  rw [ba_append_list, bs_list, bs_list, bs_list]
theorem bs_of (s : ByteArray) : bs s.data.toList = s := by
  apply ByteArray.ext
  simp [bs]
theorem bs_inj {a b : List UInt8} (h : bs a = bs b) : a = b := by
  have := congrArg (fun s : ByteArray => s.data.toList) h
  simpa [bs_list] using this
theorem bs_extract (l : List UInt8) (a b : Nat) : (bs l).extract a b = bs ((l.drop a).take (b - a)) := by
  apply ByteArray.ext
  apply Array.toList_inj.1
  rw [ByteArray.data_extract, Array.toList_extract, List.extract_eq_take_drop, bs_list, bs_list]

theorem add_bs (a b : List UInt8) (h : a.length + b.length ≤ 9223372036854775807) : ∀ v : World, (Op.stringOp .add (bs a) (bs b)).run Tryz.prog v = .ok (.string (bs (a ++ b))) v := fun v => by
  rw [← bs_append]
  exact run_string_add_sum v _ _ (by rw [bs_size, bs_size]; exact h)

/-- a piece of a text -/
theorem slice_bs (l : List UInt8) (a b : Int) (m n : Nat) (ha : a = (m : Int)) (hb : b = (n : Int)) (h1 : m ≤ n) (h2 : n ≤ l.length) :
    ∀ W : World, (Instr.slice 9 (.string (bs l)) (some (.int .i64 a)) (some (.int .i64 b)) none).run Tryz.prog W = .ok (.string (bs ((l.drop m).take (n - m)))) W := fun W => by
  rw [str_slice (bs l) a b m n ha hb h1 (by rw [bs_size]; exact h2) W, bs_extract]

/-- a text from a place on -/
theorem from_bs (l : List UInt8) (a : Int) (m : Nat) (ha : a = (m : Int)) (h1 : m ≤ l.length) :
    ∀ W : World, (Instr.slice 9 (.string (bs l)) (some (.int .i64 a)) none none).run Tryz.prog W = .ok (.string (bs (l.drop m))) W := fun W => by
  subst ha
  rw [run_slice_string_l W 9 (bs l) Tryz.underlying9 .i64 (m : Int) (by omega) (by rw [bs_size]; omega), Int.toNat_natCast, bs_extract, bs_size, List.take_of_length_le (by rw [List.length_drop]; omega)]

theorem index_bs (l : List UInt8) (k : Nat) (h : k < l.length) : ∀ W : World, (Instr.index 9 (.string (bs l)) (.int .i64 (k : Int))).run Tryz.prog W = .ok (.int .u8 ((l[k].toNat : Nat) : Int)) W :=
  str_index (bs l) (k : Int) k l[k] rfl (by rw [bs_list]; exact List.getElem?_eq_getElem h)

/-- a text's beginning -/
theorem to_bs (l : List UInt8) (a : Int) (m : Nat) (ha : a = (m : Int)) (h1 : m ≤ l.length) :
    ∀ W : World, (Instr.slice 9 (.string (bs l)) none (some (.int .i64 a)) none).run Tryz.prog W = .ok (.string (bs (l.take m))) W := fun W => by
  subst ha
  rw [run_slice_string_h W 9 (bs l) Tryz.underlying9 .i64 (m : Int) (by omega) (by rw [bs_size]; omega), Int.toNat_natCast, bs_extract, List.drop_zero, Nat.sub_zero]

theorem not_empty (l : List UInt8) (h : 0 < l.length) : (bs l).toList.isEmpty = false := by
  rw [ByteArray.toList_eq, bs_list]
  cases l with
  | nil => simp at h
  | cons _ _ => rfl

end Go.Proofs.YtbeigaanlhaolaaGreatDoor

/-
  Lists of elements of several cells each, as rows of cells; slices that read as such rows (Sl), rows that are known whole (RowC). Conditions: as each says.
-/
namespace Go.Proofs.YtbeigaanlhaolaaGreatDoor
open Go.RowKit
open Go.Proofs

/-- elements as cells -/
def fl {α : Type} (f : α → List Value) : List α → List Value
  | [] => []
  | x :: r => f x ++ fl f r

section
variable {α : Type} {f : α → List Value} {m : Nat}

theorem fl_append : ∀ a b : List α, fl f (a ++ b) = fl f a ++ fl f b
  | [], _ => rfl
  | x :: r, b => by rw [List.cons_append]; show f x ++ fl f (r ++ b) = f x ++ fl f r ++ fl f b; rw [fl_append r b, List.append_assoc]

theorem fl_length (hf : ∀ x, (f x).length = m) : ∀ l : List α, (fl f l).length = l.length * m
  | [] => by simp [fl]
  | x :: r => by show (f x ++ fl f r).length = _; rw [List.length_append, fl_length hf r, List.length_cons, hf, Nat.add_mul]; omega

theorem fl_take (hf : ∀ x, (f x).length = m) : ∀ (l : List α) (k : Nat), fl f (l.take k) = (fl f l).take (k * m)
  | [], k => by simp [fl]
  | x :: r, 0 => by simp [fl]
  | x :: r, k + 1 => by
    show f x ++ fl f (r.take k) = (f x ++ fl f r).take ((k + 1) * m)
    have e : (k + 1) * m = m + k * m := by rw [Nat.add_mul]; omega
    rw [fl_take hf r k, List.take_append, hf, List.take_of_length_le (l := f x) (by rw [hf, e]; omega), e, Nat.add_sub_cancel_left]

theorem fl_drop (hf : ∀ x, (f x).length = m) : ∀ (l : List α) (k : Nat), fl f (l.drop k) = (fl f l).drop (k * m)
  | [], k => by simp [fl]
  | x :: r, 0 => by simp
  | x :: r, k + 1 => by
    show fl f (r.drop k) = (f x ++ fl f r).drop ((k + 1) * m)
    have e : (k + 1) * m = m + k * m := by rw [Nat.add_mul]; omega
    rw [fl_drop hf r k, List.drop_append, hf, List.drop_of_length_le (l := f x) (by rw [hf, e]; omega), e, Nat.add_sub_cancel_left, List.nil_append]

theorem fl_get (hf : ∀ x, (f x).length = m) : ∀ (l : List α) (k : Nat) (h : k < l.length) (j : Nat) (_ : j < m), (fl f l)[k * m + j]? = (f l[k])[j]?
  | [], k, h, _, _ => by simp at h
  | x :: r, 0, h, j, hj => by
    show (f x ++ fl f r)[0 * m + j]? = (f x)[j]?
    rw [Nat.zero_mul, Nat.zero_add, List.getElem?_append_left (by rw [hf]; exact hj)]
  | x :: r, k + 1, h, j, hj => by
    have hk : k < r.length := by simpa using h
    show (f x ++ fl f r)[(k + 1) * m + j]? = (f r[k])[j]?
    have e : (k + 1) * m + j = m + (k * m + j) := by rw [Nat.add_mul]; omega
    rw [e, List.getElem?_append_right (by rw [hf]; omega), hf, Nat.add_sub_cancel_left]
    exact fl_get hf r k hk j hj

theorem fl_one (h1 : ∀ x, ∀ u ∈ f x, u.oneCell' = true) : ∀ (l : List α), ∀ u ∈ fl f l, u.oneCell' = true
  | [], u, h => by simp [fl] at h
  | x :: r, u, h => by
    change u ∈ f x ++ fl f r at h
    rw [List.mem_append] at h
    rcases h with h | h
    · exact h1 x u h
    · exact fl_one h1 r u h

end

/-- a slice that reads as n elements of m cells each -/
def Sl (w : World) (m : Nat) (v : Value) (n : Nat) (L : List Value) : Prop :=
  L.length = n * m ∧ ∃ o c, v = .slice o n c ∧ n ≤ c ∧ c ≤ maxLen ∧ (n = 0 ∨ ∃ b off, o = some ⟨b, off, none⟩ ∧ ∀ (j : Nat) (u : Value), L[j]? = some u → w.cell? ⟨b, off + j, none⟩ = some u)

theorem Sl.below {w w' : World} {m n N : Nat} {v : Value} {L : List Value} (h : Sl w m v n L) (hu : Below N w w') (hn : ∀ b, v.ownBlock = some b → b < N) : Sl w' m v n L := by
  obtain ⟨h0, o, c, rfl, h2, h3, h4⟩ := h
  refine ⟨h0, o, c, rfl, h2, h3, ?_⟩
  rcases h4 with h4 | ⟨b, off, rfl, h6⟩
  · exact .inl h4
  · exact .inr ⟨b, off, rfl, fun j u hj => (hu.cell (p := ⟨b, _, none⟩) (hn b rfl)).trans (h6 j u hj)⟩

theorem Sl.up {w w' : World} {m n : Nat} {v : Value} {L : List Value} (h : Sl w m v n L) (hu : Up w w') : Sl w' m v n L := by
  obtain ⟨h0, o, c, h1, h2, h3, h4⟩ := h
  refine ⟨h0, o, c, h1, h2, h3, ?_⟩
  rcases h4 with h4 | ⟨b, off, h5, h6⟩
  · exact .inl h4
  · exact .inr ⟨b, off, h5, fun j u hj => (hu.cell (World.block_lt_of_cell? w _ (h6 j u hj))).trans (h6 j u hj)⟩

/-- kept by whatever leaves its block as it is -/
theorem Sl.kept {w w' : World} {m n : Nat} {v : Value} {L : List Value} {row : Option Nat} (h : Sl w m v n L) (hg : w.grownBy w' row) (hne : ∀ b, v.ownBlock = some b → row ≠ some b) : Sl w' m v n L := by
  obtain ⟨h0, o, c, rfl, h2, h3, h4⟩ := h
  refine ⟨h0, o, c, rfl, h2, h3, ?_⟩
  rcases h4 with h4 | ⟨b, off, rfl, h6⟩
  · exact .inl h4
  · refine .inr ⟨b, off, rfl, fun j u hj => ?_⟩
    have hc := h6 j u hj
    have hlt := World.block_lt_of_cell? w _ hc
    have hb := hg.block b hlt (fun e => hne b rfl e.symm)
    unfold World.cell? at hc ⊢
    rw [hb]; exact hc

theorem Sl.nil (w : World) (m : Nat) : Sl w m (.slice none 0 0) 0 [] := ⟨by simp, none, 0, rfl, Nat.le_refl _, by unfold maxLen; omega, .inl rfl⟩

theorem Sl.slice {w : World} {m n : Nat} {v : Value} {L : List Value} (h : Sl w m v n L) : ∃ o c, v = .slice o n c ∧ n ≤ c ∧ c ≤ maxLen := by
  obtain ⟨_, o, c, h1, h2, h3, _⟩ := h
  exact ⟨o, c, h1, h2, h3⟩

theorem Sl.cells {w : World} {m n : Nat} {o : Option Addr} {n' c : Nat} {L : List Value} (h : Sl w m (.slice o n' c) n L) (hne : n ≠ 0) : ∃ b off, o = some ⟨b, off, none⟩ ∧ ∀ (j : Nat) (u : Value), L[j]? = some u → w.cell? ⟨b, off + j, none⟩ = some u := by
  obtain ⟨_, o', c', h1, _, _, h4⟩ := h
  cases h1
  exact h4.resolve_left hne

theorem Sl.of_own {w : World} {base e m n : Nat} {v : Value} {L : List Value} (h : w.ownsRow base e m v n L) : Sl w m v n L := by
  refine ⟨h.1, ?_⟩
  rcases h.2 with ⟨rfl, h0⟩ | ⟨g, cap, cur, rfl, _, h2, h3, h4, h5, h6⟩
  · subst h0; exact ⟨none, 0, rfl, Nat.le_refl _, by unfold maxLen; omega, .inl rfl⟩
  · refine ⟨_, cap, rfl, h3, h4, .inr ⟨g, 0, rfl, fun j u hj => ?_⟩⟩
    have hlt : j < n * m := by rw [← h.1]; exact (List.getElem?_eq_some_iff.1 hj).1
    rw [Nat.zero_add, cell_of_row _ _ j _ _ _ h2]
    rw [← h6, List.getElem?_take_of_lt hlt] at hj
    rw [← hj]; simp

/-- a block that is a row of cells, known whole -/
def RowC (w : World) (g : Nat) (T : TypeId) (L : List Value) : Prop := w.heap[g]? = some (.cells L.toArray T (0, 0))

theorem RowC.lt {w : World} {g T : Nat} {L : List Value} (h : RowC w g T L) : g < w.heap.size := (Array.getElem?_eq_some_iff.1 h).1
theorem RowC.at {w : World} {g T : Nat} {L : List Value} (h : RowC w g T L) (j : Nat) : w.cell? ⟨g, j, none⟩ = L[j]? := by
  rw [cell_of_row _ _ j _ _ _ h, List.getElem?_toArray]
theorem RowC.cell {w : World} {g T : Nat} {L : List Value} {j : Nat} {v : Value} (h : RowC w g T L) (hj : L[j]? = some v) : w.cell? ⟨g, j, none⟩ = some v := (h.at j).trans hj
theorem RowC.frozen {w : World} {g T : Nat} {L : List Value} (h : RowC w g T L) (j : Nat) : w.frozen? ⟨g, j, none⟩ = false := by
  unfold RowC at h; simp [World.frozen?, h]
theorem RowC.set {w : World} {g T : Nat} {L : List Value} (h : RowC w g T L) (j : Nat) (v : Value) : RowC (w.setCell ⟨g, j, none⟩ v) g T (L.set j v) := by
  unfold RowC at h ⊢
  simp [World.setCell, Array.getElem?_modify, h]
theorem RowC.other {w : World} {g T g' : Nat} {L : List Value} (h : RowC w g T L) (hne : g ≠ g') (j : Nat) (v : Value) : RowC (w.setCell ⟨g', j, none⟩ v) g T L := by
  unfold RowC at h ⊢
  simp [World.setCell, Array.getElem?_modify, h, Ne.symm hne]
theorem RowC.below {w w' : World} {g T n : Nat} {L : List Value} (h : RowC w g T L) (hb : Below n w w') (hg : g < n) : RowC w' g T L := (hb.block g hg).trans h
theorem RowC.up {w w' : World} {g T : Nat} {L : List Value} (h : RowC w g T L) (hb : Up w w') : RowC w' g T L := h.below hb h.lt
theorem RowC.kept {w w' : World} {g T : Nat} {L : List Value} {row : Option Nat} (h : RowC w g T L) (hg : w.grownBy w' row) (hne : row ≠ some g) : RowC w' g T L := (hg.block g h.lt (fun e => hne e.symm)).trans h
theorem RowC.apart {w : World} {g T g' T' : Nat} {L L' : List Value} (h : RowC w g T L) (h' : RowC w g' T' L') (hne : T ≠ T') : g ≠ g' := by
  rintro rfl
  unfold RowC at h h'
  rw [h] at h'
  simp at h'
  exact hne h'.2

theorem own_mk {w : World} {base g T m n cap : Nat} {L sp : List Value} (hb : base ≤ g) (h : RowC w g T (L ++ sp)) (h0 : L.length = n * m) (h1 : n ≤ cap) (h2 : cap ≤ maxLen) (h3 : n * m + sp.length = cap * m) :
    w.ownsRow base T m (.slice (some ⟨g, 0, none⟩) n cap) n L := by
  refine ⟨h0, .inr ⟨g, cap, (L ++ sp).toArray, rfl, hb, h, h1, h2, ?_, ?_⟩⟩
  · rw [List.size_toArray, List.length_append, h0]; exact h3
  · rw [← h0]; simp

theorem own_row {w : World} {base T m n : Nat} {v : Value} {L : List Value} (h : w.ownsRow base T m v n L) :
    (v = .slice none 0 0 ∧ n = 0 ∧ L = []) ∨ ∃ g cap sp, v = .slice (some ⟨g, 0, none⟩) n cap ∧ base ≤ g ∧ RowC w g T (L ++ sp) ∧ n ≤ cap ∧ cap ≤ maxLen ∧ n * m + sp.length = cap * m := by
  have h0 := h.1
  rcases h.2 with ⟨h1, h2⟩ | ⟨g, cap, cur, h1, h2, h3, h4, h5, h6, h7⟩
  · subst h2; exact .inl ⟨h1, rfl, List.eq_nil_of_length_eq_zero (by simpa using h0)⟩
  · refine .inr ⟨g, cap, cur.toList.drop (n * m), h1, h2, ?_, h4, h5, ?_⟩
    · unfold RowC
      rw [h3, ← h7, List.take_append_drop]
    · have hs : cur.toList.length = cur.size := Array.length_toList
      have hm : n * m ≤ cap * m := Nat.mul_le_mul_right m h4
      rw [List.length_drop, hs, h6]
      omega

end Go.Proofs.YtbeigaanlhaolaaGreatDoor

/-
  Plain mathematics of polynomials over two elements, written as natural numbers: products without carries, division, the greatest common divisor, irreducible ones, factors, powers. Nothing of any program.
-/
namespace WoolMath


/-! Polynomials over two elements, as numbers: addition is xor, `mul` the product without carries. -/

theorem two_mul_xor (a b : Nat) : 2 * (a ^^^ b) = (2 * a) ^^^ (2 * b) := by
  have h := Nat.shiftLeft_xor_distrib (a := a) (b := b) (i := 1)
  simp only [Nat.shiftLeft_eq, Nat.pow_one] at h
  rw [Nat.mul_comm 2, Nat.mul_comm 2, Nat.mul_comm 2]; exact h

theorem two_mul_xor_one (a : Nat) : (2 * a) ^^^ 1 = 2 * a + 1 := by
  apply Nat.eq_of_testBit_eq
  intro i
  cases i with
  | zero => simp
  | succ i =>
    rw [Nat.testBit_xor, Nat.testBit_succ, Nat.testBit_succ, Nat.testBit_succ]
    have e1 : (2 * a + 1) / 2 = 2 * a / 2 := by omega
    have e2 : 1 / 2 = 0 := by omega
    rw [e1, e2, Nat.zero_testBit, Bool.xor_false]

theorem xor_cancel_left (a b : Nat) : a ^^^ (a ^^^ b) = b := by
  rw [← Nat.xor_assoc, Nat.xor_self, Nat.zero_xor]

theorem xor_eq_zero (a b : Nat) (h : a ^^^ b = 0) : a = b := by
  have := xor_cancel_left a b
  rw [h, Nat.xor_zero] at this; exact this

theorem xor_left_comm (a b c : Nat) : a ^^^ (b ^^^ c) = b ^^^ (a ^^^ c) := by
  rw [← Nat.xor_assoc, Nat.xor_comm a b, Nat.xor_assoc]

theorem xor_swap (a b c d : Nat) : (a ^^^ b) ^^^ (c ^^^ d) = (a ^^^ c) ^^^ (b ^^^ d) := by
  rw [Nat.xor_assoc, Nat.xor_assoc, xor_left_comm b c d]

theorem xor_top (n x y : Nat) (hx : 2 ^ n ≤ x) (hx' : x < 2 ^ (n + 1)) (hy : y < 2 ^ n) :
    2 ^ n ≤ x ^^^ y ∧ x ^^^ y < 2 ^ (n + 1) := by
  have h2 : 2 ^ (n + 1) = 2 ^ n * 2 := Nat.pow_succ ..
  refine ⟨?_, Nat.xor_lt_two_pow hx' (by omega)⟩
  apply Nat.le_of_not_lt
  intro h
  have := Nat.xor_lt_two_pow h hy
  rw [Nat.xor_assoc, Nat.xor_self, Nat.xor_zero] at this
  omega

/-- the product, by the bits of the second factor, so many of them -/
def mulF : Nat → Nat → Nat → Nat
  | 0, _, _ => 0
  | k + 1, a, b => (if b % 2 = 1 then a else 0) ^^^ (2 * mulF k a (b / 2))

/-- the product of two polynomials -/
def mul (a b : Nat) : Nat := mulF (b.log2 + 1) a b

theorem mulF_zero (k a : Nat) : mulF k a 0 = 0 := by
  induction k with
  | zero => rfl
  | succ k ih => simp [mulF, ih]

theorem mulF_enough (k : Nat) : ∀ (j a b : Nat), b < 2 ^ k → b < 2 ^ j → mulF k a b = mulF j a b := by
  induction k with
  | zero => intro j a b h _; have : b = 0 := by simpa using h
            subst this; rw [mulF_zero, mulF_zero]
  | succ k ih =>
    intro j a b h1 h2
    cases j with
    | zero => have : b = 0 := by simpa using h2
              subst this; rw [mulF_zero, mulF_zero]
    | succ j =>
      simp only [mulF]
      rw [ih j a (b / 2) (by rw [Nat.pow_succ] at h1; omega) (by rw [Nat.pow_succ] at h2; omega)]

theorem lt_log2 (b : Nat) : b < 2 ^ (b.log2 + 1) := Nat.lt_log2_self

theorem mul_eq (k a b : Nat) (h : b < 2 ^ k) : mul a b = mulF k a b :=
  mulF_enough _ _ _ _ (lt_log2 b) h

theorem mul_zero (a : Nat) : mul a 0 = 0 := mulF_zero _ _

theorem mul_step (a b : Nat) : mul a b = (if b % 2 = 1 then a else 0) ^^^ (2 * mul a (b / 2)) := by
  have h : b < 2 ^ ((b.log2 + 1) + 1) := by
    have := lt_log2 b
    rw [Nat.pow_succ]; omega
  rw [mul_eq _ a b h]
  have h2 : b / 2 < 2 ^ (b.log2 + 1) := by
    have := lt_log2 b; omega
  rw [mul_eq _ a (b / 2) h2]; rfl

theorem mul_even (a b : Nat) : mul a (2 * b) = 2 * mul a b := by
  rw [mul_step]
  have h1 : 2 * b % 2 = 0 := by omega
  have h2 : 2 * b / 2 = b := by omega
  simp [h2]

theorem mul_odd (a b : Nat) : mul a (2 * b + 1) = a ^^^ (2 * mul a b) := by
  rw [mul_step]
  have h1 : (2 * b + 1) % 2 = 1 := by omega
  have h2 : (2 * b + 1) / 2 = b := by omega
  simp [h1, h2]

theorem mul_one (a : Nat) : mul a 1 = a := by
  have := mul_odd a 0
  simpa [mul_zero] using this

/-- induction by bits -/
theorem bits_ind {P : Nat → Prop} (h0 : P 0) (he : ∀ b, P b → P (2 * b)) (ho : ∀ b, P b → P (2 * b + 1)) : ∀ b, P b := by
  intro b
  induction b using Nat.strongRecOn with
  | ind b ih =>
    by_cases hb : b = 0
    · subst hb; exact h0
    · have := ih (b / 2) (by omega)
      by_cases hp : b % 2 = 1
      · have e : b = 2 * (b / 2) + 1 := by omega
        rw [e]; exact ho _ this
      · have e : b = 2 * (b / 2) := by omega
        rw [e]; exact he _ this

theorem zero_mul (b : Nat) : mul 0 b = 0 := by
  refine bits_ind (P := fun b => mul 0 b = 0) (mul_zero 0) ?_ ?_ b
  · intro b ih; simp only [mul_even, ih]
  · intro b ih; simp only [mul_odd, ih]; rfl

theorem even_mul (a b : Nat) : mul (2 * a) b = 2 * mul a b := by
  refine bits_ind (P := fun b => mul (2 * a) b = 2 * mul a b) ?_ ?_ ?_ b
  · simp [mul_zero]
  · intro b ih; simp only [mul_even, ih]
  · intro b ih; simp only [mul_odd, ih, two_mul_xor]

theorem xor_mul (a b c : Nat) : mul (a ^^^ b) c = mul a c ^^^ mul b c := by
  refine bits_ind (P := fun c => mul (a ^^^ b) c = mul a c ^^^ mul b c) ?_ ?_ ?_ c
  · simp [mul_zero]
  · intro c ih; simp only [mul_even, ih, two_mul_xor]
  · intro c ih; simp only [mul_odd, ih, two_mul_xor]; exact xor_swap _ _ _ _

theorem one_mul (b : Nat) : mul 1 b = b := by
  refine bits_ind (P := fun b => mul 1 b = b) (mul_zero 1) ?_ ?_ b
  · intro b ih; simp only [mul_even, ih]
  · intro b ih; simp only [mul_odd, ih]; rw [Nat.xor_comm]; exact two_mul_xor_one b

theorem mul_comm (a b : Nat) : mul a b = mul b a := by
  refine bits_ind (P := fun b => mul a b = mul b a) ?_ ?_ ?_ b
  · rw [mul_zero, zero_mul]
  · intro b ih; rw [mul_even, even_mul, ih]
  · intro b ih; rw [mul_odd, ih, ← two_mul_xor_one, xor_mul, even_mul, one_mul, Nat.xor_comm]

theorem mul_xor (a b c : Nat) : mul a (b ^^^ c) = mul a b ^^^ mul a c := by
  rw [mul_comm, xor_mul, mul_comm b, mul_comm c]

theorem mul_assoc (a b c : Nat) : mul (mul a b) c = mul a (mul b c) := by
  refine bits_ind (P := fun c => mul (mul a b) c = mul a (mul b c)) ?_ ?_ ?_ c
  · simp [mul_zero]
  · intro c ih; simp only [mul_even, ih]
  · intro c ih; simp only [mul_odd, mul_xor, mul_even, ih]

theorem mul_left_comm (a b c : Nat) : mul a (mul b c) = mul b (mul a c) := by
  rw [← mul_assoc, mul_comm a b, mul_assoc]

theorem mul_right_comm (a b c : Nat) : mul (mul a b) c = mul (mul a c) b := by
  rw [mul_assoc, mul_comm b c, mul_assoc]

theorem mul_pow (a k : Nat) : mul a (2 ^ k) = a * 2 ^ k := by
  induction k with
  | zero => simp [mul_one]
  | succ k ih => rw [Nat.pow_succ, Nat.mul_comm (2 ^ k) 2, mul_even, ih, Nat.mul_left_comm]

theorem mul_shift (a k : Nat) : a <<< k = mul a (2 ^ k) := by rw [mul_pow, Nat.shiftLeft_eq]

/-- where the leading bit of a product stands -/
theorem mul_top (k : Nat) : ∀ (n a b : Nat), 2 ^ n ≤ a → a < 2 ^ (n + 1) → 2 ^ k ≤ b → b < 2 ^ (k + 1) →
    2 ^ (n + k) ≤ mul a b ∧ mul a b < 2 ^ (n + k + 1) := by
  induction k with
  | zero =>
    intro n a b h1 h2 h3 h4
    have : b = 1 := by simp at h3 h4; omega
    subst this; rw [mul_one]; exact ⟨h1, h2⟩
  | succ k ih =>
    intro n a b h1 h2 h3 h4
    have p1 : 2 ^ (k + 1) = 2 ^ k * 2 := Nat.pow_succ ..
    have p2 : 2 ^ (k + 1 + 1) = 2 ^ (k + 1) * 2 := Nat.pow_succ ..
    have p3 : 2 ^ (n + (k + 1)) = 2 ^ (n + k) * 2 := Nat.pow_succ ..
    have p4 : 2 ^ (n + (k + 1) + 1) = 2 ^ (n + (k + 1)) * 2 := Nat.pow_succ ..
    have p5 : 2 ^ (n + k + 1) = 2 ^ (n + k) * 2 := Nat.pow_succ ..
    obtain ⟨q1, q2⟩ := ih n a (b / 2) h1 h2 (by omega) (by omega)
    have hle : 2 ^ (n + 1) ≤ 2 ^ (n + (k + 1)) := Nat.pow_le_pow_right (by omega) (by omega)
    rw [mul_step, Nat.xor_comm]
    refine xor_top _ _ _ (by omega) (by omega) ?_
    by_cases hb : b % 2 = 1
    · rw [if_pos hb]; omega
    · rw [if_neg hb]; exact Nat.pow_pos (by omega)

theorem top_of (a : Nat) (h : a ≠ 0) : 2 ^ a.log2 ≤ a ∧ a < 2 ^ (a.log2 + 1) := ⟨Nat.log2_self_le h, lt_log2 a⟩

theorem log2_of (n a : Nat) (h1 : 2 ^ n ≤ a) (h2 : a < 2 ^ (n + 1)) : a.log2 = n := by
  have h0 : a ≠ 0 := by have := Nat.pow_pos (n := n) (show 0 < 2 by omega); omega
  have l1 : n ≤ a.log2 := (Nat.le_log2 h0).2 h1
  have l2 : a.log2 < n + 1 := (Nat.log2_lt h0).2 h2
  omega

theorem mul_log2 (a b : Nat) (ha : a ≠ 0) (hb : b ≠ 0) : mul a b ≠ 0 ∧ (mul a b).log2 = a.log2 + b.log2 := by
  obtain ⟨a1, a2⟩ := top_of a ha
  obtain ⟨b1, b2⟩ := top_of b hb
  obtain ⟨c1, c2⟩ := mul_top _ _ _ _ a1 a2 b1 b2
  have := Nat.pow_pos (n := a.log2 + b.log2) (show 0 < 2 by omega)
  exact ⟨by omega, log2_of _ _ c1 c2⟩

theorem mul_lt (a b n k : Nat) (ha : a < 2 ^ n) (hb : b < 2 ^ (k + 1)) : mul a b < 2 ^ (n + k) := by
  by_cases h1 : a = 0
  · subst h1; rw [zero_mul]; exact Nat.pow_pos (by omega)
  by_cases h2 : b = 0
  · subst h2; rw [mul_zero]; exact Nat.pow_pos (by omega)
  obtain ⟨m1, m2⟩ := mul_log2 a b h1 h2
  have la : a.log2 < n := (Nat.log2_lt h1).2 ha
  have lb : b.log2 < k + 1 := (Nat.log2_lt h2).2 hb
  exact (Nat.log2_lt m1).1 (by omega)

/-! Division -/

/-- what is left, so many turns -/
def modF : Nat → Nat → Nat → Nat
  | 0, a, _ => a
  | k + 1, a, b => if a < 2 ^ b.log2 then a else modF k (a ^^^ (b <<< (a.log2 - b.log2))) b

def pmod (a b : Nat) : Nat := modF (a.log2 + 1) a b

theorem top_bit (n a : Nat) (h1 : 2 ^ n ≤ a) (h2 : a < 2 ^ (n + 1)) : a.testBit n = true := by
  rw [Nat.testBit_eq_decide_div_mod_eq]
  have p := Nat.pow_succ (n := 2) (m := n)
  have e : a / 2 ^ n = 1 := by
    have l : 1 ≤ a / 2 ^ n := (Nat.le_div_iff_mul_le (Nat.pow_pos (by omega))).2 (by omega)
    have u : a / 2 ^ n < 2 := (Nat.div_lt_iff_lt_mul (Nat.pow_pos (by omega))).2 (by omega)
    omega
  rw [e]; rfl

/-- one turn of the division -/
theorem turn (a b : Nat) (hb : b ≠ 0) (h : ¬ a < 2 ^ b.log2) :
    b.log2 ≤ a.log2 ∧ a ^^^ (b <<< (a.log2 - b.log2)) < 2 ^ a.log2 := by
  have ha : a ≠ 0 := by intro e; subst e; exact h (Nat.pow_pos (by omega))
  have hl : b.log2 ≤ a.log2 := (Nat.le_log2 ha).2 (by omega)
  refine ⟨hl, ?_⟩
  obtain ⟨b1, b2⟩ := top_of b hb
  obtain ⟨a1, a2⟩ := top_of a ha
  have e : b <<< (a.log2 - b.log2) = b * 2 ^ (a.log2 - b.log2) := Nat.shiftLeft_eq ..
  have s1 : 2 ^ a.log2 ≤ b <<< (a.log2 - b.log2) := by
    rw [e]; calc 2 ^ a.log2 = 2 ^ b.log2 * 2 ^ (a.log2 - b.log2) := by rw [← Nat.pow_add]; congr 1; omega
      _ ≤ _ := Nat.mul_le_mul_right _ b1
  have s2 : b <<< (a.log2 - b.log2) < 2 ^ (a.log2 + 1) := by
    rw [e]; calc b * 2 ^ (a.log2 - b.log2) < 2 ^ (b.log2 + 1) * 2 ^ (a.log2 - b.log2) := Nat.mul_lt_mul_of_pos_right b2 (Nat.pow_pos (by omega))
      _ = 2 ^ (a.log2 + 1) := by rw [← Nat.pow_add]; congr 1; omega
  generalize b <<< (a.log2 - b.log2) = c at *
  generalize a.log2 = n at *
  apply Nat.lt_pow_two_of_testBit
  intro j hj
  rw [Nat.testBit_xor]
  by_cases hjn : j = n
  · subst hjn
    have t1 : a.testBit j = true := top_bit j a a1 a2
    have t2 : c.testBit j = true := top_bit j c s1 s2
    rw [t1, t2]; rfl
  · have t1 : a.testBit j = false := Nat.testBit_lt_two_pow (Nat.lt_of_lt_of_le a2 (Nat.pow_le_pow_right (by omega) (by omega)))
    have t2 : c.testBit j = false := Nat.testBit_lt_two_pow (Nat.lt_of_lt_of_le s2 (Nat.pow_le_pow_right (by omega) (by omega)))
    rw [t1, t2]; rfl



theorem modF_lt (k : Nat) : ∀ a b : Nat, b ≠ 0 → a < 2 ^ k → modF k a b < 2 ^ b.log2 := by
  induction k with
  | zero => intro a b hb h; simp at h; subst h; simp only [modF]; exact Nat.pow_pos (by omega)
  | succ k ih =>
    intro a b hb h
    simp only [modF]
    split
    · assumption
    · rename_i h1
      obtain ⟨t1, t2⟩ := turn a b hb h1
      refine ih _ _ hb (Nat.lt_of_lt_of_le t2 (Nat.pow_le_pow_right (by omega) ?_))
      have ha : a ≠ 0 := by intro e; subst e; exact h1 (Nat.pow_pos (by omega))
      have := (Nat.log2_lt ha).2 h
      omega

theorem modF_eq (k : Nat) : ∀ a b : Nat, ∃ q, a = mul q b ^^^ modF k a b := by
  induction k with
  | zero => intro a b; exact ⟨0, by simp [modF, zero_mul]⟩
  | succ k ih =>
    intro a b
    simp only [modF]
    split
    · exact ⟨0, by simp [zero_mul]⟩
    · obtain ⟨q, hq⟩ := ih (a ^^^ b <<< (a.log2 - b.log2)) b
      refine ⟨q ^^^ 2 ^ (a.log2 - b.log2), ?_⟩
      rw [xor_mul, Nat.xor_assoc, Nat.xor_comm (mul (2 ^ _) b), ← Nat.xor_assoc, ← hq, mul_comm (2 ^ _) b, ← mul_shift, Nat.xor_assoc, Nat.xor_self, Nat.xor_zero]

/-- how often it goes, so many turns -/
def divF : Nat → Nat → Nat → Nat
  | 0, _, _ => 0
  | k + 1, a, b => if a < 2 ^ b.log2 then 0 else divF k (a ^^^ (b <<< (a.log2 - b.log2))) b ^^^ 2 ^ (a.log2 - b.log2)

def pdiv (a b : Nat) : Nat := divF (a.log2 + 1) a b

theorem divF_eq (k : Nat) : ∀ a b : Nat, a = mul (divF k a b) b ^^^ modF k a b := by
  induction k with
  | zero => intro a b; simp [modF, divF, zero_mul]
  | succ k ih =>
    intro a b
    simp only [modF, divF]
    split
    · simp [zero_mul]
    · have hq := ih (a ^^^ b <<< (a.log2 - b.log2)) b
      rw [xor_mul, Nat.xor_assoc, Nat.xor_comm (mul (2 ^ _) b), ← Nat.xor_assoc, ← hq, mul_comm (2 ^ _) b, ← mul_shift, Nat.xor_assoc, Nat.xor_self, Nat.xor_zero]

theorem pdiv_eq (a b : Nat) : a = mul (pdiv a b) b ^^^ pmod a b := divF_eq _ _ _

theorem pmod_lt (a b : Nat) (hb : b ≠ 0) : pmod a b < 2 ^ b.log2 := modF_lt _ _ _ hb (lt_log2 a)

theorem pmod_eq (a b : Nat) : ∃ q, a = mul q b ^^^ pmod a b := modF_eq _ _ _

/-- b divides a -/
def dvd (b a : Nat) : Prop := ∃ q, a = mul q b

theorem small_zero (q b r : Nat) (h : mul q b = r) (hr : r < 2 ^ b.log2) : r = 0 ∧ (b ≠ 0 → q = 0) := by
  by_cases hb : b = 0
  · subst hb; rw [mul_zero] at h; exact ⟨h.symm, fun h => absurd rfl h⟩
  by_cases hq : q = 0
  · subst hq; rw [zero_mul] at h; exact ⟨h.symm, fun _ => rfl⟩
  obtain ⟨m1, m2⟩ := mul_log2 q b hq hb
  rw [h] at m1 m2
  have := (Nat.log2_lt m1).2 hr
  omega

/-- Euclid: there is one quotient and one remainder -/
theorem div_unique (q1 q2 r1 r2 b : Nat) (hb : b ≠ 0) (h : mul q1 b ^^^ r1 = mul q2 b ^^^ r2) (h1 : r1 < 2 ^ b.log2) (h2 : r2 < 2 ^ b.log2) :
    q1 = q2 ∧ r1 = r2 := by
  have e : mul (q1 ^^^ q2) b = r1 ^^^ r2 := by
    rw [xor_mul]
    have := congrArg (fun t => t ^^^ (r1 ^^^ mul q2 b)) h
    have l : mul q1 b ^^^ r1 ^^^ (r1 ^^^ mul q2 b) = mul q1 b ^^^ mul q2 b := by
      rw [Nat.xor_assoc, xor_cancel_left]
    have r : mul q2 b ^^^ r2 ^^^ (r1 ^^^ mul q2 b) = r1 ^^^ r2 := by
      rw [Nat.xor_comm r1, Nat.xor_assoc, xor_left_comm r2, xor_cancel_left, Nat.xor_comm]
    rw [l, r] at this; exact this
  obtain ⟨z1, z2⟩ := small_zero _ _ _ e (Nat.xor_lt_two_pow h1 h2)
  exact ⟨xor_eq_zero _ _ (z2 hb), xor_eq_zero _ _ z1⟩

theorem pmod_of (a b q r : Nat) (hb : b ≠ 0) (h : a = mul q b ^^^ r) (hr : r < 2 ^ b.log2) : pmod a b = r := by
  obtain ⟨q', h'⟩ := pmod_eq a b
  exact (div_unique q' q _ _ b hb (h'.symm.trans h) (pmod_lt a b hb) hr).2

theorem pdiv_of (a b q r : Nat) (hb : b ≠ 0) (h : a = mul q b ^^^ r) (hr : r < 2 ^ b.log2) : pdiv a b = q :=
  (div_unique _ q _ _ b hb ((pdiv_eq a b).symm.trans h) (pmod_lt a b hb) hr).1

theorem pmod_small (a b : Nat) (hb : b ≠ 0) (h : a < 2 ^ b.log2) : pmod a b = a :=
  pmod_of a b 0 a hb (by rw [zero_mul, Nat.zero_xor]) h

theorem dvd_iff (a b : Nat) (hb : b ≠ 0) : dvd b a ↔ pmod a b = 0 := by
  constructor
  · rintro ⟨q, rfl⟩
    exact pmod_of _ _ q 0 hb (by rw [Nat.xor_zero]) (Nat.pow_pos (by omega))
  · intro h
    obtain ⟨q, hq⟩ := pmod_eq a b
    rw [h, Nat.xor_zero] at hq
    exact ⟨q, hq⟩

/-! Remainders -/

theorem pmod_xor (a b m : Nat) (hm : m ≠ 0) : pmod (a ^^^ b) m = pmod a m ^^^ pmod b m := by
  obtain ⟨q, hq⟩ := pmod_eq a m
  obtain ⟨s, hs⟩ := pmod_eq b m
  refine pmod_of _ _ (q ^^^ s) _ hm ?_ (Nat.xor_lt_two_pow (pmod_lt a m hm) (pmod_lt b m hm))
  rw [xor_mul, xor_swap, ← hq, ← hs]

theorem pmod_add_mul (a q m : Nat) (hm : m ≠ 0) : pmod (a ^^^ mul q m) m = pmod a m := by
  have : pmod (mul q m) m = 0 := (dvd_iff _ _ hm).1 ⟨q, rfl⟩
  rw [pmod_xor _ _ _ hm, this, Nat.xor_zero]

theorem pmod_idem (a m : Nat) (hm : m ≠ 0) : pmod (pmod a m) m = pmod a m := pmod_small _ _ hm (pmod_lt a m hm)

theorem pmod_mul_left (a b m : Nat) (hm : m ≠ 0) : pmod (mul (pmod a m) b) m = pmod (mul a b) m := by
  obtain ⟨q, hq⟩ := pmod_eq a m
  have e : mul a b = mul (pmod a m) b ^^^ mul (mul q b) m := by
    rw [mul_right_comm, ← xor_mul, Nat.xor_comm, ← hq]
  rw [e, pmod_add_mul _ _ _ hm]

theorem pmod_mul_right (a b m : Nat) (hm : m ≠ 0) : pmod (mul a (pmod b m)) m = pmod (mul a b) m := by
  rw [mul_comm, pmod_mul_left _ _ _ hm, mul_comm]

/-! The greatest common divisor -/

/-! Irreducible polynomials -/



/-! Powers -/

def pw (a : Nat) : Nat → Nat
  | 0 => 1
  | n + 1 => mul (pw a n) a

theorem pw_zero (a : Nat) : pw a 0 = 1 := rfl
theorem pw_succ (a n : Nat) : pw a (n + 1) = mul (pw a n) a := rfl
theorem pw_one (a : Nat) : pw a 1 = a := one_mul a
theorem pw_two (a : Nat) : pw a 2 = mul a a := by rw [pw_succ, pw_one]

theorem pw_add (a m n : Nat) : pw a (m + n) = mul (pw a m) (pw a n) := by
  induction n with
  | zero => rw [Nat.add_zero, pw_zero, mul_one]
  | succ n ih => rw [← Nat.add_assoc, pw_succ, ih, pw_succ, mul_assoc]

theorem pw_double (a n : Nat) : pw a (2 * n) = pw (mul a a) n := by
  induction n with
  | zero => rfl
  | succ n ih =>
    have e : 2 * (n + 1) = 2 * n + 2 := by omega
    rw [e, pw_add, ih, pw_two, pw_succ (mul a a)]

theorem pmod_pw (a n m : Nat) (hm : m ≠ 0) : pmod (pw (pmod a m) n) m = pmod (pw a n) m := by
  induction n with
  | zero => rfl
  | succ n ih =>
    rw [pw_succ, pw_succ, pmod_mul_right _ _ _ hm, ← pmod_mul_left _ _ _ hm, ih, pmod_mul_left _ _ _ hm]

/-! Products of lists -/

/-! Fermat -/


theorem or_bit (q s : Nat) (h : q.testBit s = false) : q ||| 2 ^ s = q ^^^ 2 ^ s := by
  apply Nat.eq_of_testBit_eq
  intro i
  rw [Nat.testBit_or, Nat.testBit_xor, Nat.testBit_two_pow]
  by_cases e : s = i
  · subst e; rw [h]; simp
  · simp [e]

/-! How many bits a number has -/

def blen (x : Nat) : Nat := if x = 0 then 0 else x.log2 + 1

theorem blen_zero : blen 0 = 0 := rfl
theorem blen_pos (x : Nat) (h : x ≠ 0) : blen x = x.log2 + 1 := by rw [blen, if_neg h]
theorem lt_blen (x : Nat) : x < 2 ^ blen x := by
  unfold blen; split
  · subst x; decide
  · exact lt_log2 x
theorem blen_le (x k : Nat) (h : x < 2 ^ k) : blen x ≤ k := by
  unfold blen; split
  · omega
  · rename_i h0; exact (Nat.log2_lt h0).2 h
theorem blen_half (x : Nat) (h : x ≠ 0) : blen x = 1 + blen (x / 2) := by
  rw [blen_pos x h]
  by_cases h1 : x / 2 = 0
  · have : x = 1 := by omega
    subst this; decide
  · rw [blen_pos _ h1]
    obtain ⟨t1, t2⟩ := top_of _ h1
    have : x.log2 = (x / 2).log2 + 1 := log2_of _ _ (by rw [Nat.pow_succ]; omega) (by rw [Nat.pow_succ]; omega)
    omega

/-- one turn of the division, by the numbers of bits -/
theorem turn_blen (a b : Nat) (hb : b ≠ 0) (h : blen b ≤ blen a) :
    blen (a ^^^ (b <<< (blen a - blen b))) < blen a ∧ a ^^^ (b <<< (blen a - blen b)) < 2 ^ (blen a) := by
  have ha : a ≠ 0 := by
    intro e; subst e
    rw [blen_zero, blen_pos b hb] at h; omega
  rw [blen_pos a ha, blen_pos b hb] at h ⊢
  have e : a.log2 + 1 - (b.log2 + 1) = a.log2 - b.log2 := by omega
  rw [e]
  have hn : ¬ a < 2 ^ b.log2 := by
    have := Nat.pow_le_pow_right (n := 2) (by omega) (show b.log2 ≤ a.log2 by omega)
    have := (top_of a ha).1
    omega
  have t := (turn a b hb hn).2
  have := blen_le _ _ t
  have p := Nat.pow_succ (n := 2) (m := a.log2)
  omega

theorem lt_of_blen (a b : Nat) (hb : b ≠ 0) (h : blen a < blen b) : a < 2 ^ b.log2 := by
  rw [blen_pos b hb] at h
  exact Nat.lt_of_lt_of_le (lt_blen a) (Nat.pow_le_pow_right (by omega) (by omega))

end WoolMath
