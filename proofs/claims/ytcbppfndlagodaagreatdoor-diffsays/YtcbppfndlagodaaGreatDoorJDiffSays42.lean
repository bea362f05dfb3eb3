/-
  The texts BagQ, BagO, BagR, one behind the other; each says below what it holds and on what conditions.
-/
import Derived.Test.YtcbppfndlagodaaGreatDoorJDiffSays03
import Derived.Test.YtcbppfndlagodaaGreatDoorJDiffSays38
import Derived.OwnWalk
import Derived.Deep.Upon

/-
  Bags as lists, against the reference: what is sorted is the inserted; which numbers are in use; what is struck. Conditions: as each says.
-/
namespace WoolBag

variable {F : List UInt8 → Int}

theorem ins_perm (x : Itm) (l : List Itm) : (ins x l).Perm (l ++ [x]) := by
  unfold ins
  have h1 : (l.take (place x l) ++ x :: l.drop (place x l)).Perm (x :: (l.take (place x l) ++ l.drop (place x l))) := List.perm_middle
  rw [List.take_append_drop] at h1
  exact h1.trans (List.perm_append_singleton x l).symm

theorem sort_ins {l d : List Itm} {x : Itm} (hb : Bag F (ins x l)) (hp : d.Perm (l ++ [x])) (hs : d.Pairwise (fun a b => behB b a = false)) : d = ins x l := by
  have hpp := hp.trans (ins_perm x l).symm
  refine List.Perm.eq_of_pairwise (le := fun a b => behB b a = false) ?_ hs ?_ hpp
  · intro a b ha hb' h1 h2
    have ha' : a ∈ ins x l := hpp.subset ha
    refine hb.id_mem ha' hb' (id_eq.2 ?_)
    rw [Bool.eq_false_iff, Ne, beh_iff] at h1 h2
    unfold Beh at h1 h2
    omega
  · refine hb.beh.imp ?_
    intro a b h
    rw [Bool.eq_false_iff, Ne, beh_iff]
    exact fun h' => h.asymm h'

/-- the numbers in use among those of a sum -/
def nums (l : List Itm) (σ : Int) : List Int := (l.filter fun y => y.s == σ).map (·.n)

theorem nums_contains (l : List Itm) (σ k : Int) : (nums l σ).contains k = l.any (idB (true, σ, k)) := by
  rw [Bool.eq_iff_iff, List.contains_iff_mem, List.any_eq_true]
  unfold nums
  simp only [List.mem_map, List.mem_filter, beq_iff_eq]
  constructor
  · rintro ⟨y, ⟨hy, hs⟩, hn⟩
    exact ⟨y, hy, by unfold idB; simp [hs, hn]⟩
  · rintro ⟨y, hy, e⟩
    unfold idB at e
    simp at e
    exact ⟨y, ⟨hy, e.1⟩, e.2⟩

theorem nums_length (l : List Itm) (σ : Int) : (nums l σ).length ≤ l.length := by
  unfold nums
  rw [List.length_map]
  exact List.length_filter_le _ _

theorem nums_hit {l : List Itm} {k : Nat} (hk : k < l.length) {σ : Int} (e : l[k].s = σ) : nums (l.take (k + 1)) σ = nums (l.take k) σ ++ [l[k].n] := by
  unfold nums
  rw [List.take_succ_eq_append_getElem hk, List.filter_append, List.map_append]
  simp [e]

theorem nums_miss {l : List Itm} {k : Nat} (hk : k < l.length) {σ : Int} (e : l[k].s ≠ σ) : nums (l.take (k + 1)) σ = nums (l.take k) σ := by
  unfold nums
  rw [List.take_succ_eq_append_getElem hk, List.filter_append, List.map_append]
  simp [e]

/-- one that is used once less, by striking what is not used -/
theorem less_filter {l : List Itm} (hb : Bag F l) {k : Nat} (hk : k < l.length) : ((l.set k (more l[k] (-1))).filter fun x => !(x.r == 0)) = less l k := by
  unfold less
  rw [getElem!_pos l k hk]
  have hpos : ∀ x ∈ l, (!(x.r == 0)) = true := fun x hx => by
    have := (hb.ok x hx).2.2.2.2.1
    simp; omega
  have hfl : ∀ m : List Itm, (∀ x ∈ m, (!(x.r == 0)) = true) → m.filter (fun x => !(x.r == 0)) = m := fun m hm => List.filter_eq_self.2 hm
  have hset : l.set k (more l[k] (-1)) = l.take k ++ more l[k] (-1) :: l.drop (k + 1) := by rw [List.set_eq_take_append_cons_drop, if_pos hk]
  rw [hset, List.filter_append, List.filter_cons, hfl _ (fun x hx => hpos x (List.mem_of_mem_take hx)), hfl _ (fun x hx => hpos x (List.mem_of_mem_drop hx))]
  have hmr : (more l[k] (-1)).r = l[k].r + -1 := rfl
  by_cases h1 : l[k].r = 1
  · rw [if_pos h1, if_neg (by rw [hmr, h1]; simp), List.eraseIdx_eq_take_drop_succ]
  · rw [if_neg h1, if_pos (by rw [hmr]; simp; omega)]

end WoolBag

/-
  What Put, Get, Drop, Check and two return, in the form that the laws' walks take. Conditions: as each says.
-/
namespace Go.Proofs.YtcbppfndlagodaaGreatDoor
open Go.RowKit
open Go.Proofs
open WoolBag

/-- what Put answers, opened -/
theorem put_open (v : Value) (l : List Itm) (t : List UInt8) (w : World) (h : Items w v l) (A : List Itm) (ib : Bool) (is iN E : Int) (hP : WoolBag.put FP l t = (A, (ib, is, iN), E)) :
    Calls Tryz.prog 38 #[v, .string (bs t)] w fun e w' => ∃ o c, e = .returned (.tuple #[.slice o A.length c, .agg #[.bool ib, .int .i64 is, .int .i64 iN], .int .i64 E]) ∧ OItems w' w.heap.size (.slice o A.length c) A ∧ Up w w' := by
  refine (put_any v l t w h).mono ?_
  rintro e w' ⟨v', rfl, ho, hu⟩
  rw [hP] at ho ⊢
  obtain ⟨o, c, rfl, _⟩ := ho.items.slice
  exact ⟨o, c, rfl, ho, hu⟩

theorem get_open (v : Value) (l : List Itm) (ib : Bool) (is iN : Int) (w : World) (h : Items w v l) (t : List UInt8) (E : Int) (hg : WoolBag.get FP l (ib, is, iN) = (t, E)) :
    Calls Tryz.prog 102 #[v, .agg #[.bool ib, .int .i64 is, .int .i64 iN]] w fun e w' => e = .returned (.tuple #[.string (bs t), .int .i64 E]) ∧ Up w w' := by
  have := get_any v l (ib, is, iN) w h
  unfold getBR at this
  rw [hg] at this
  exact this

theorem checkB_ok (v : Value) (l : List Itm) (w : World) (h : Items w v l) (hb : Bag FP l) :
    Calls Tryz.prog 48 #[v] w fun e w' => e = .returned (.int .i64 0) ∧ Up w w' := by
  have := check_any v l w h
  rw [(chk_zero FP).2 hb] at this
  exact this

theorem self_eq (s : List UInt8) : ((bs s).toList == (bs s).toList) = true := by rw [txt_eq]; simp

theorem drop_open (v : Value) (l : List Itm) (ib : Bool) (is iN : Int) (w : World) (h : Items w v l) (B : List Itm) (E : Int) (hd : WoolBag.drop FP l (ib, is, iN) = (B, E)) :
    Calls Tryz.prog 59 #[v, .agg #[.bool ib, .int .i64 is, .int .i64 iN]] w fun e w' => ∃ o c, e = .returned (.tuple #[.slice o B.length c, .int .i64 E]) ∧ OItems w' w.heap.size (.slice o B.length c) B ∧ Up w w' := by
  refine (drop_any v l (ib, is, iN) w h).mono ?_
  rintro e w' ⟨v', rfl, ho, hu⟩
  rw [hd] at ho ⊢
  obtain ⟨o, c, rfl, _⟩ := ho.items.slice
  exact ⟨o, c, rfl, ho, hu⟩

end Go.Proofs.YtcbppfndlagodaaGreatDoor

/-
  What roomy, marked and spoil (of the laws on memory) do with rows of items. Conditions: as each says.
-/
namespace Go.Proofs.YtcbppfndlagodaaGreatDoor
open Go.RowKit
open Go.Proofs
open WoolBag

theorem set4 (A R : List Value) (u0 u1 u2 u3 v0 v1 v2 v3 : Value) (a : Nat) (h : A.length = a) :
    ((((A ++ (u0 :: u1 :: u2 :: u3 :: R)).set a v0).set (a + 1) v1).set (a + 2) v2).set (a + 3) v3 = A ++ (v0 :: v1 :: v2 :: v3 :: R) := by
  subst h
  rw [List.set_append_right _ _ (Nat.le_refl _), List.set_append_right _ _ (by omega), List.set_append_right _ _ (by omega), List.set_append_right _ _ (by omega)]
  simp [show A.length + 1 - A.length = 1 by omega, show A.length + 2 - A.length = 2 by omega, show A.length + 3 - A.length = 3 by omega]

theorem split4 (L : List Value) (a : Nat) (h : a + 4 ≤ L.length) : ∃ A u0 u1 u2 u3 R, A.length = a ∧ L = A ++ (u0 :: u1 :: u2 :: u3 :: R) := by
  refine ⟨L.take a, L[a], L[a + 1], L[a + 2], L[a + 3], L.drop (a + 4), by rw [List.length_take]; omega, ?_⟩
  rw [← List.drop_eq_getElem_cons, ← List.drop_eq_getElem_cons, ← List.drop_eq_getElem_cons, ← List.drop_eq_getElem_cons, List.take_append_drop]

theorem cells4 {w : World} {g a : Nat} {A R : List Value} {u0 u1 u2 u3 : Value} (h : RowI w g (A ++ (u0 :: u1 :: u2 :: u3 :: R))) (ha : A.length = a) :
    w.cell? ⟨g, a, none⟩ = some u0 ∧ w.cell? ⟨g, a + 1, none⟩ = some u1 ∧ w.cell? ⟨g, a + 2, none⟩ = some u2 ∧ w.cell? ⟨g, a + 3, none⟩ = some u3 := by
  subst ha
  refine ⟨h.cell ?_, h.cell ?_, h.cell ?_, h.cell ?_⟩ <;> rw [List.getElem?_append_right (by omega)]
  · simp
  · simp [show A.length + 1 - A.length = 1 by omega]
  · simp [show A.length + 2 - A.length = 2 by omega]
  · simp [show A.length + 3 - A.length = 3 by omega]

theorem RowI.set4 {w : World} {g a : Nat} {A R : List Value} {u0 u1 u2 u3 : Value} (h : RowI w g (A ++ (u0 :: u1 :: u2 :: u3 :: R))) (ha : A.length = a) (v0 v1 v2 v3 : Value) :
    RowI ((((w.setCell ⟨g, a, none⟩ v0).setCell ⟨g, a + 1, none⟩ v1).setCell ⟨g, a + 2, none⟩ v2).setCell ⟨g, a + 3, none⟩ v3) g (A ++ (v0 :: v1 :: v2 :: v3 :: R)) := by
  have := (((h.set a v0).set (a + 1) v1).set (a + 2) v2).set (a + 3) v3
  rw [Go.Proofs.YtcbppfndlagodaaGreatDoor.set4 A R u0 u1 u2 u3 v0 v1 v2 v3 a ha] at this
  exact this

/-- stores into one block -/
theorem grown_set4 {w w' : World} {g a : Nat} (h : w.grownBy w' (some g)) (v0 v1 v2 v3 : Value) :
    w.grownBy ((((w'.setCell ⟨g, a, none⟩ v0).setCell ⟨g, a + 1, none⟩ v1).setCell ⟨g, a + 2, none⟩ v2).setCell ⟨g, a + 3, none⟩ v3) (some g) := by
  have one : ∀ (W : World) (j : Nat) (v : Value), w.grownBy W (some g) → w.grownBy (W.setCell ⟨g, j, none⟩ v) (some g) := fun W j v hW =>
    ⟨hW.os, hW.tape, hW.output, by simpa [World.setCell] using hW.size, fun k hk hne => by
      have hkg : g ≠ k := fun e => hne (by rw [e])
      simp [World.setCell, Array.getElem?_modify, hkg]
      simpa using hW.block k hk hne⟩
  exact one _ _ _ (one _ _ _ (one _ _ _ (one _ _ _ h)))

theorem other_set4 (w : World) (g a b : Nat) (h : g ≠ b) (v0 v1 v2 v3 : Value) :
    ((((w.setCell ⟨g, a, none⟩ v0).setCell ⟨g, a + 1, none⟩ v1).setCell ⟨g, a + 2, none⟩ v2).setCell ⟨g, a + 3, none⟩ v3).heap[b]? = w.heap[b]? := by
  simp [World.setCell, Array.getElem?_modify, h]

/-! ytcbppfndlagodaagreatdoor# spoil -/

def SpoilRel (cap g X : Nat) (x : Itm) (w : World) (i : Value) (wr : World) : Prop :=
  ∃ k : Nat, k ≤ cap ∧ i = .int .i64 k ∧ w.grownBy wr (some g) ∧ RowI wr X (itC x) ∧ ∃ L, RowI wr g L ∧ L.length = cap * 4

end Go.Proofs.YtcbppfndlagodaaGreatDoor
