/-
  What Expand of package lz returns, for every row of tokens: the error of the first token that has one, else the text. Conditions: the row can be read.
-/
import Derived.Test.YtemineffflodcaaJListsOwn34
namespace Go.Proofs.Ytemineffflodcaa
open Go.RowKit
open Go.Proofs
open WoolLz

/-- a slice that reads as tokens -/
def Toks (w : World) (v : Value) (l : List Tok) : Prop :=
  ∃ o c, v = .slice o l.length c ∧ l.length ≤ c ∧ c ≤ maxLen ∧ (l = [] ∨ ∃ b off, o = some ⟨b, off, none⟩ ∧ ∀ k (h : k < l.length),
    w.cell? ⟨b, off + k * 3, none⟩ = some (.int .i64 l[k].d) ∧ w.cell? ⟨b, off + k * 3 + 1, none⟩ = some (.int .i64 l[k].l) ∧ w.cell? ⟨b, off + k * 3 + 2, none⟩ = some (.int .i64 l[k].b))

theorem Toks.up {w w' : World} {v : Value} {l : List Tok} (h : Toks w v l) (hu : Up w w') : Toks w' v l := by
  obtain ⟨o, c, h1, h2, h3, h4⟩ := h
  refine ⟨o, c, h1, h2, h3, ?_⟩
  rcases h4 with h4 | ⟨b, off, h5, h6⟩
  · exact .inl h4
  · refine .inr ⟨b, off, h5, fun k hk => ?_⟩
    obtain ⟨a1, a2, a3⟩ := h6 k hk
    exact ⟨(hu.cell (World.block_lt_of_cell? w _ a1)).trans a1, (hu.cell (World.block_lt_of_cell? w _ a2)).trans a2, (hu.cell (World.block_lt_of_cell? w _ a3)).trans a3⟩

def ExpRel (l : List Tok) (R : Int × List UInt8) (w : World) (b i : Value) (wr : World) : Prop :=
  ∃ (k : Nat) (bl : List UInt8), k ≤ l.length ∧ i = .int .i64 k ∧ bl.length ≤ 600 ∧ Bytes wr w.heap.size b bl ∧ exp bl (l.drop k) = R ∧ Up w wr

theorem Bytes.slice {w : World} {base : Nat} {v : Value} {l : List UInt8} (h : Bytes w base v l) : ∃ o c, v = .slice o l.length c := by
  rcases h.2 with ⟨rfl, h0⟩ | ⟨g, cap, cur, rfl, _⟩
  · exact ⟨_, _, by rw [h0]⟩
  · exact ⟨_, _, rfl⟩

end Go.Proofs.Ytemineffflodcaa
