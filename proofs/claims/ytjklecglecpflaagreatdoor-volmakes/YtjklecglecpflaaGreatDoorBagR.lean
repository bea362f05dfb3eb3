/-
  What roomy, marked and spoil (of the laws on memory) do with rows of items. Conditions: as each says.
-/
import Derived.Test.YtjklecglecpflaaGreatDoorBagO
import Derived.OwnWalk
import Derived.Deep.Upon
namespace Go.Proofs.YtjklecglecpflaaGreatDoor
open Go.RowKit
open Go.Proofs
open WoolBag

theorem set4 (A R : List Value) (u0 u1 u2 u3 v0 v1 v2 v3 : Value) (a : Nat) (h : A.length = a) :
    ((((A ++ (u0 :: u1 :: u2 :: u3 :: R)).set a v0).set (a + 1) v1).set (a + 2) v2).set (a + 3) v3 = A ++ (v0 :: v1 :: v2 :: v3 :: R) := by
  subst h
  rw [List.set_append_right _ _ (Nat.le_refl _), List.set_append_right _ _ (by omega), List.set_append_right _ _ (by omega), List.set_append_right _ _ (by omega)]
  simp [show A.length + 1 - A.length = 1 by omega, show A.length + 2 - A.length = 2 by omega, show A.length + 3 - A.length = 3 by omega]

theorem split4 (L : List Value) (a : Nat) (h : a + 4 ≤ L.length) : ∃ A u0 u1 u2 u3 R, A.length = a ∧ L = A ++ (u0 :: u1 :: u2 :: u3 :: R) := by
  refine ⟨L.take a, L[a], L[a + 1], L[a + 2], L[a + 3], L.drop (a + 4), by rw [List.length_take]; omega, ?_⟩
  rw [← List.drop_eq_getElem_cons, ← List.drop_eq_getElem_cons, ← List.drop_eq_getElem_cons, ← List.drop_eq_getElem_cons, List.take_append_drop]

theorem cells4 {w : World} {g a : Nat} {A R : List Value} {u0 u1 u2 u3 : Value} (h : RowI w g (A ++ (u0 :: u1 :: u2 :: u3 :: R))) (ha : A.length = a) :
    w.cell? ⟨g, a, none⟩ = some u0 ∧ w.cell? ⟨g, a + 1, none⟩ = some u1 ∧ w.cell? ⟨g, a + 2, none⟩ = some u2 ∧ w.cell? ⟨g, a + 3, none⟩ = some u3 := by
  subst ha
  refine ⟨h.cell ?_, h.cell ?_, h.cell ?_, h.cell ?_⟩ <;> rw [List.getElem?_append_right (by omega)]
  · simp
  · simp [show A.length + 1 - A.length = 1 by omega]
  · simp [show A.length + 2 - A.length = 2 by omega]
  · simp [show A.length + 3 - A.length = 3 by omega]

theorem RowI.set4 {w : World} {g a : Nat} {A R : List Value} {u0 u1 u2 u3 : Value} (h : RowI w g (A ++ (u0 :: u1 :: u2 :: u3 :: R))) (ha : A.length = a) (v0 v1 v2 v3 : Value) :
    RowI ((((w.setCell ⟨g, a, none⟩ v0).setCell ⟨g, a + 1, none⟩ v1).setCell ⟨g, a + 2, none⟩ v2).setCell ⟨g, a + 3, none⟩ v3) g (A ++ (v0 :: v1 :: v2 :: v3 :: R)) := by
  have := (((h.set a v0).set (a + 1) v1).set (a + 2) v2).set (a + 3) v3
  rw [Go.Proofs.YtjklecglecpflaaGreatDoor.set4 A R u0 u1 u2 u3 v0 v1 v2 v3 a ha] at this
  exact this

/-- stores into one block -/
theorem grown_set4 {w w' : World} {g a : Nat} (h : w.grownBy w' (some g)) (v0 v1 v2 v3 : Value) :
    w.grownBy ((((w'.setCell ⟨g, a, none⟩ v0).setCell ⟨g, a + 1, none⟩ v1).setCell ⟨g, a + 2, none⟩ v2).setCell ⟨g, a + 3, none⟩ v3) (some g) := by
  have one : ∀ (W : World) (j : Nat) (v : Value), w.grownBy W (some g) → w.grownBy (W.setCell ⟨g, j, none⟩ v) (some g) := fun W j v hW =>
    ⟨hW.os, hW.tape, hW.output, by simpa [World.setCell] using hW.size, fun k hk hne => by
      have hkg : g ≠ k := fun e => hne (by rw [e])
      simp [World.setCell, Array.getElem?_modify, hkg]
      simpa using hW.block k hk hne⟩
  exact one _ _ _ (one _ _ _ (one _ _ _ (one _ _ _ h)))

theorem other_set4 (w : World) (g a b : Nat) (h : g ≠ b) (v0 v1 v2 v3 : Value) :
    ((((w.setCell ⟨g, a, none⟩ v0).setCell ⟨g, a + 1, none⟩ v1).setCell ⟨g, a + 2, none⟩ v2).setCell ⟨g, a + 3, none⟩ v3).heap[b]? = w.heap[b]? := by
  simp [World.setCell, Array.getElem?_modify, h]

/-! ytjklecglecpflaagreatdoor# spoil -/

def SpoilRel (cap g X : Nat) (x : Itm) (w : World) (i : Value) (wr : World) : Prop :=
  ∃ k : Nat, k ≤ cap ∧ i = .int .i64 k ∧ w.grownBy wr (some g) ∧ RowI wr X (itC x) ∧ ∃ L, RowI wr g L ∧ L.length = cap * 4

end Go.Proofs.YtjklecglecpflaaGreatDoor
