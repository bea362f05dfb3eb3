/-
  What slices.Sort (of ints) does to a row of the call's own: the same numbers, rising. Off the library's shelf: no walk.
-/
import Derived.Test.YtalkbjlbpbodfaaFacts
import Derived.Test.YtalkbjlbpbodfaaShelf
import Derived.Shelf.Sort.Plain
import Derived.Sort.OwnSortedInts
import Derived.Shelf.Slices.In.SortNone
namespace Go.Proofs.Ytalkbjlbpbodfaa
open Go.RowKit
open Go.Proofs

theorem sort_none (p : Option Addr) (cap : Nat) (w : World) :
    Calls Try.prog 9 #[.slice p 0 cap] w fun e w' => e = .returned (.tuple #[]) ∧ w' = w := Any.slices_Sort_int_none Try.lays189 p cap w

theorem intL_eq (l : List Nat) : intL l = (l.map fun x : Nat => (x : Int)).map (Value.int .i64) := by simp [intL]

/-- what Sort leaves -/
def SortPost (base : Nat) (l : List Nat) (v : Value) (w : World) (e : Ending) (w' : World) : Prop :=
  ∃ l2 : List Nat, l2.Perm l ∧ l2.Pairwise (· ≤ ·) ∧ e = .returned (.tuple #[]) ∧ Ints w' base v l2 ∧ w.grownBy w' v.ownBlock

theorem sorted_nat (l : List Nat) : ∃ l2 : List Nat, l2.Perm l ∧ l2.Pairwise (· ≤ ·) ∧ ((l.map fun x : Nat => (x : Int)).mergeSort fun x y => decide (x ≤ y)) = l2.map fun x : Nat => (x : Int) := by
  refine ⟨((l.map fun x : Nat => (x : Int)).mergeSort fun x y => decide (x ≤ y)).map Int.toNat, ?_, ?_, ?_⟩
  · have h1 := (List.mergeSort_perm (l.map fun x : Nat => (x : Int)) (fun x y => decide (x ≤ y))).map Int.toNat
    have h2 : (l.map fun x : Nat => (x : Int)).map Int.toNat = l := by
      rw [List.map_map]
      exact (List.map_congr_left (g := id) (fun x _ => Int.toNat_natCast x)).trans (List.map_id l)
    rw [h2] at h1
    exact h1
  · rw [List.pairwise_map]
    have hs := List.pairwise_mergeSort (le := fun x y : Int => decide (x ≤ y)) (by intro a b c; simp; omega) (by intro a b; simp; omega) (l.map fun x : Nat => (x : Int))
    refine List.Pairwise.imp ?_ hs
    intro a b hab
    simp at hab
    omega
  · have hp := List.mergeSort_perm (l.map fun x : Nat => (x : Int)) (fun x y => decide (x ≤ y))
    rw [List.map_map]
    symm
    have : ∀ x ∈ (l.map fun x : Nat => (x : Int)).mergeSort (fun x y => decide (x ≤ y)), ((fun x : Nat => (x : Int)) ∘ Int.toNat) x = x := by
      intro x hx
      have hx' := hp.mem_iff.1 hx
      rw [List.mem_map] at hx'
      obtain ⟨y, _, rfl⟩ := hx'
      simp
    rw [List.map_congr_left this]
    simp

theorem sort_any (v : Value) (base : Nat) (l : List Nat) (w : World) (hl : l.length ≤ 1000) (h : Ints w base v l) :
    Calls Try.prog 9 #[v] w (SortPost base l v w) := by
  rcases h.2 with ⟨rfl, h0⟩ | ⟨g, cap, cur, rfl, hbase, hb, h1, h2, h3, h4⟩
  · have hl0 : l = [] := List.eq_nil_of_length_eq_zero h0
    subst hl0
    refine (sort_none none 0 w).mono fun e w' hh => ?_
    obtain ⟨he, hw⟩ := hh
    subst hw
    exact ⟨[], List.Perm.refl _, List.Pairwise.nil, he, h, ⟨rfl, rfl, rfl, Nat.le_refl _, fun _ _ _ => rfl⟩⟩
  · obtain ⟨l2, p1, p2, p3⟩ := sorted_nat l
    have hlen : (l.map fun x : Nat => (x : Int)).length = l.length := by simp
    have hH : Go.Sort.Holds (Value.int .i64) w g 0 (l.map fun x : Nat => (x : Int)).toArray := holds_of_blockI hb (by rw [hlen, ← intL_eq, ← h4, Nat.mul_one])
    have hc := Any.slices_Sort_int Try.lays189 g 0 cap (l.map fun x : Nat => (x : Int)) w hH (Array.getElem?_eq_some_iff.1 hb).1 (by rw [hlen]; omega)
    rw [hlen] at hc
    refine hc.mono fun e w' hh => ?_
    obtain ⟨he, n, os, hw⟩ := hh
    rw [p3] at hw
    subst hw
    refine ⟨l2, p1, p2, he, ?_, grownBy_sortedI _⟩
    have := ownsRow_sortedI (w := w) (base := base) (n := n) (os := os) (ss := l.map fun x : Nat => (x : Int)) (ts := l2.map fun x : Nat => (x : Int)) (by simp [p1.length_eq]) hbase hb (by rw [hlen]; exact h1) h2 (by rw [h3])
    rw [hlen] at this
    unfold Ints
    rw [intL_eq, p1.length_eq]
    exact this

end Go.Proofs.Ytalkbjlbpbodfaa
