/-
  The texts Lz1, ByteS, one behind the other; each says below what it holds and on what conditions.
-/
import Derived.Test.YtemineffflodcaaJListsOwn01
import Derived.Test.YtemineffflodcaaJListsOwn32
import Derived.Laws.Rows
import Derived.Laws.OwnMore
import Derived.OwnWalk
import Derived.BigRegion
import Derived.Deep.RegionLaw
import Derived.Deep.AppendLies

/-
  What size, isLiteral, isCopy and check of package lz return, for every token. Conditions: the token's numbers are ints.
-/
namespace Go.Proofs.Ytemineffflodcaa
open Go.RowKit
open Go.Proofs
open WoolLz

theorem size_any (d l b : Int) (w : World) :
    Calls Try.prog 50 #[.agg #[.int .i64 d, .int .i64 l, .int .i64 b]] w fun e w' => e = .returned (.int .i64 (max l 1)) ∧ Up w w' := by
  go_enter Try.func50, Try.ntmps50
  go_wp2_with fail
  go_ret
  exact ⟨rfl, Up.alloc _ _⟩

theorem err_eq (d l b : Int) (n : Nat) : err ⟨d, l, b⟩ n = if litB ⟨d, l, b⟩ = false ∧ copB ⟨d, l, b⟩ = false then 1 else if (n : Int) < d then 3 else if 600 < (n : Int) + max l 1 then 2 else 0 := rfl

/-- old cells read as before -/
theorem Up.same {w w1 : World} (hb : Up w w1) : (∀ b o, b < w.heap.size → w1.cell? ⟨b, o, none⟩ = w.cell? ⟨b, o, none⟩) :=
  fun b o h => Below.cell hb (p := ⟨b, o, none⟩) h

theorem new_cells (w : World) (x y z : Value) (t : TypeId) (w1 : World) (hb : Up (w.alloc (.cells #[x, y, z] t)) w1) :
    w1.cell? ⟨w.heap.size, 0, none⟩ = some x ∧ w1.cell? ⟨w.heap.size, 1, none⟩ = some y ∧ w1.cell? ⟨w.heap.size, 2, none⟩ = some z := by
  have hlt : w.heap.size < (w.alloc (.cells #[x, y, z] t)).heap.size := by simp
  have h : ∀ k, (w.alloc (.cells #[x, y, z] t)).cell? ⟨w.heap.size, k, none⟩ = #[x, y, z][k]? := fun k => cell_of_row _ _ k _ _ _ (heap_alloc_new w _)
  refine ⟨?_, ?_, ?_⟩
  · rw [hb.same _ _ hlt, h]; rfl
  · rw [hb.same _ _ hlt, h]; rfl
  · rw [hb.same _ _ hlt, h]; rfl

end Go.Proofs.Ytemineffflodcaa

/-
  Slices of bytes that the call owns, and the string of one. Conditions: as each says.
-/
namespace Go.Proofs.Ytemineffflodcaa
open Go.RowKit
open Go.Proofs

/-- bytes as cells -/
def byteL (l : List UInt8) : List Value := l.map fun c : UInt8 => .int .u8 (c.toNat : Int)

theorem byteL_length (l : List UInt8) : (byteL l).length = l.length := by simp [byteL]
theorem byteL_get (l : List UInt8) (j : Nat) (h : j < l.length) : (byteL l)[j]? = some (.int .u8 ((l[j].toNat : Nat) : Int)) := by
  simp [byteL, h]
theorem byteL_snoc (l : List UInt8) (x : UInt8) : byteL (l ++ [x]) = byteL l ++ [.int .u8 (x.toNat : Int)] := by simp [byteL]

theorem byteInfo : (Try.prog.info? 5).map (fun i => (i.zero, i.size, i.bytes)) = some (some (.int .u8 0), 1, 1) := by kernel_rfl

/-- a slice of bytes that reads as a list -/
def Bytes (w : World) (base : Nat) (v : Value) (l : List UInt8) : Prop := w.ownsRow base 5 1 v l.length (byteL l)

theorem Bytes.up {w w' : World} {base : Nat} {v : Value} {l : List UInt8} (h : Bytes w base v l) (hu : Up w w') : Bytes w' base v l := by
  refine ⟨h.1, ?_⟩
  rcases h.2 with h | ⟨g, cap, cur, h1, h2, h3, h4⟩
  · exact .inl h
  · refine .inr ⟨g, cap, cur, h1, h2, ?_, h4⟩
    have hg : g < w.heap.size := by
      rcases Nat.lt_or_ge g w.heap.size with hlt | hge
      · exact hlt
      · rw [Array.getElem?_eq_none hge] at h3; cases h3
    rw [← h3]; exact hu.block g hg

theorem Bytes.nil (w : World) (base : Nat) : Bytes w base (.slice none 0 0) [] := World.ownsRow_nil _ _ _ _

theorem conv_none (w : World) : (convert 94 9 (.slice none 0 0)).run Try.prog w = .ok (.string ⟨#[]⟩) w := by
  rw [run_convert_bytes_string w 94 9 5 none 0 0 Try.underlying94 Try.underlying5 Try.underlying9]
  rfl

theorem Bytes.conv {w : World} {base : Nat} {v : Value} {l : List UInt8} (h : Bytes w base v l) : (convert 94 9 v).run Try.prog w = .ok (.string ⟨l.toArray⟩) w := by
  rcases h.2 with ⟨rfl, h0⟩ | ⟨g, cap, cur, rfl, _⟩
  · have : l = [] := List.eq_nil_of_length_eq_zero h0
    subst this
    exact conv_none w
  · refine run_convert_bytes_back (P := Try.prog) _ 94 9 5 _ cap l Try.underlying94 Try.underlying5 Try.underlying9 ?_
    intro j hj
    have := (World.ownsRow.cellAt h j (by omega)).trans (byteL_get l j hj)
    rw [← this]
    congr 1
    unfold Addr.add
    split
    · rename_i e; subst e; rfl
    · simp

theorem one_memB (x : Value) (h : x.oneCell' = true) : ∀ u ∈ [x], u.oneCell' = true := by
  intro u hu; rw [List.mem_singleton] at hu; rw [hu]; exact h

theorem grown_upB {w wr w' : World} {v : Value} {n : Nat} {xs : List Value} {e : TypeId} (hu : Up w wr) (hown : wr.ownsRow w.heap.size e 1 v n xs) (hg : wr.grownBy w' v.ownBlock) : Up w w' :=
  Below.grown hu hg hu.size (fun k hk => (hown.lt k hk).1)

theorem conv_byte (c : UInt8) (v : World) : (convert 94 9 (.slice (some ⟨v.heap.size, 0, none⟩) 1 1)).run Try.prog (v.alloc (.cells #[.int .u8 (c.toNat : Int)] 5)) = .ok (.string ⟨#[c]⟩) (v.alloc (.cells #[.int .u8 (c.toNat : Int)] 5)) := by
  refine run_convert_bytes_back (P := Try.prog) _ 94 9 5 _ 1 [c] Try.underlying94 Try.underlying5 Try.underlying9 ?_
  intro j hj
  have : j = 0 := by simpa using hj
  subst this
  exact World.cell?_alloc_mark _ _ _ _ 0

theorem byte_of (a : Int) (h : (Lit.int .u8 a).wf = true) : ∃ c : UInt8, a = (c.toNat : Int) := by
  have h1 : 0 ≤ a ∧ a < 256 := by
    simp [Lit.wf] at h
    have e1 : IntKind.u8.min = 0 := by decide
    have e2 : IntKind.u8.max = 255 := by decide
    omega
  obtain ⟨n, rfl⟩ := Int.eq_ofNat_of_zero_le h1.1
  refine ⟨UInt8.ofNat n, ?_⟩
  have : n < 256 := by omega
  rw [UInt8.toNat_ofNat_of_lt' this]

theorem one_byte (c : UInt8) : (⟨#[c]⟩ : ByteArray).data.toList = [c] := rfl

end Go.Proofs.Ytemineffflodcaa
