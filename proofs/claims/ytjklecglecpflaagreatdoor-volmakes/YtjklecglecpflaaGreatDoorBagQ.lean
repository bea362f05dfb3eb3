/-
  Bags as lists, against the reference: what is sorted is the inserted; which numbers are in use; what is struck. Conditions: as each says.
-/
import Derived.Test.YtjklecglecpflaaGreatDoorBagP
namespace WoolBag

variable {F : List UInt8 → Int}

theorem ins_perm (x : Itm) (l : List Itm) : (ins x l).Perm (l ++ [x]) := by
  unfold ins
  have h1 : (l.take (place x l) ++ x :: l.drop (place x l)).Perm (x :: (l.take (place x l) ++ l.drop (place x l))) := List.perm_middle
  rw [List.take_append_drop] at h1
  exact h1.trans (List.perm_append_singleton x l).symm

theorem sort_ins {l d : List Itm} {x : Itm} (hb : Bag F (ins x l)) (hp : d.Perm (l ++ [x])) (hs : d.Pairwise (fun a b => behB b a = false)) : d = ins x l := by
  have hpp := hp.trans (ins_perm x l).symm
  refine List.Perm.eq_of_pairwise (le := fun a b => behB b a = false) ?_ hs ?_ hpp
  · intro a b ha hb' h1 h2
    have ha' : a ∈ ins x l := hpp.subset ha
    refine hb.id_mem ha' hb' (id_eq.2 ?_)
    rw [Bool.eq_false_iff, Ne, beh_iff] at h1 h2
    unfold Beh at h1 h2
    omega
  · refine hb.beh.imp ?_
    intro a b h
    rw [Bool.eq_false_iff, Ne, beh_iff]
    exact fun h' => h.asymm h'

/-- the numbers in use among those of a sum -/
def nums (l : List Itm) (σ : Int) : List Int := (l.filter fun y => y.s == σ).map (·.n)

theorem nums_contains (l : List Itm) (σ k : Int) : (nums l σ).contains k = l.any (idB (true, σ, k)) := by
  rw [Bool.eq_iff_iff, List.contains_iff_mem, List.any_eq_true]
  unfold nums
  simp only [List.mem_map, List.mem_filter, beq_iff_eq]
  constructor
  · rintro ⟨y, ⟨hy, hs⟩, hn⟩
    exact ⟨y, hy, by unfold idB; simp [hs, hn]⟩
  · rintro ⟨y, hy, e⟩
    unfold idB at e
    simp at e
    exact ⟨y, ⟨hy, e.1⟩, e.2⟩

theorem nums_length (l : List Itm) (σ : Int) : (nums l σ).length ≤ l.length := by
  unfold nums
  rw [List.length_map]
  exact List.length_filter_le _ _

theorem nums_hit {l : List Itm} {k : Nat} (hk : k < l.length) {σ : Int} (e : l[k].s = σ) : nums (l.take (k + 1)) σ = nums (l.take k) σ ++ [l[k].n] := by
  unfold nums
  rw [List.take_succ_eq_append_getElem hk, List.filter_append, List.map_append]
  simp [e]

theorem nums_miss {l : List Itm} {k : Nat} (hk : k < l.length) {σ : Int} (e : l[k].s ≠ σ) : nums (l.take (k + 1)) σ = nums (l.take k) σ := by
  unfold nums
  rw [List.take_succ_eq_append_getElem hk, List.filter_append, List.map_append]
  simp [e]

/-- one that is used once less, by striking what is not used -/
theorem less_filter {l : List Itm} (hb : Bag F l) {k : Nat} (hk : k < l.length) : ((l.set k (more l[k] (-1))).filter fun x => !(x.r == 0)) = less l k := by
  unfold less
  rw [getElem!_pos l k hk]
  have hpos : ∀ x ∈ l, (!(x.r == 0)) = true := fun x hx => by
    have := (hb.ok x hx).2.2.2.2.1
    simp; omega
  have hfl : ∀ m : List Itm, (∀ x ∈ m, (!(x.r == 0)) = true) → m.filter (fun x => !(x.r == 0)) = m := fun m hm => List.filter_eq_self.2 hm
  have hset : l.set k (more l[k] (-1)) = l.take k ++ more l[k] (-1) :: l.drop (k + 1) := by rw [List.set_eq_take_append_cons_drop, if_pos hk]
  rw [hset, List.filter_append, List.filter_cons, hfl _ (fun x hx => hpos x (List.mem_of_mem_take hx)), hfl _ (fun x hx => hpos x (List.mem_of_mem_drop hx))]
  have hmr : (more l[k] (-1)).r = l[k].r + -1 := rfl
  by_cases h1 : l[k].r = 1
  · rw [if_pos h1, if_neg (by rw [hmr, h1]; simp), List.eraseIdx_eq_take_drop_succ]
  · rw [if_neg h1, if_pos (by rw [hmr]; simp; omega)]

end WoolBag
