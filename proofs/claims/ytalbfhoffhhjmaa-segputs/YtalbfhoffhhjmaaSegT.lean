/-
  slices.SortFunc of a row of records by sum and number (the laws' own closure): a permutation, sorted. Conditions: the row is known whole; sums and numbers are small.
-/
import Derived.Test.YtalbfhoffhhjmaaSegC
import Derived.Test.YtalbfhoffhhjmaaShelfC
import Derived.Shelf.SlSortCmp.WholeK
namespace Go.Proofs.Ytalbfhoffhhjmaa
open Go.RowKit
open Go.Proofs
open WoolBag
open WoolSeg
open Go.Shelf Go.Lib Go.Sort

/-- records whose sums and numbers are small -/
def Small (r : Rc) : Prop := 0 ≤ r.1.2.1 ∧ r.1.2.1 < 1073741824 ∧ 0 ≤ r.1.2.2 ∧ r.1.2.2 < 1073741824
def Kr : Type := { r : Rc // Small r }
instance : Inhabited Kr := ⟨⟨((false, 0, 0), []), by unfold Small; simp⟩⟩
def encK (x : Kr) : List Value := rcC x.1
/-- as the closure compares -/
def cfK (x y : Kr) : Int := if x.1.1.2.1 = y.1.1.2.1 then x.1.1.2.2 - y.1.1.2.2 else x.1.1.2.1 - y.1.1.2.1

theorem ltK (x y : Kr) : ltOf cfK x y = true ↔ x.1.1.2.1 < y.1.1.2.1 ∨ x.1.1.2.1 = y.1.1.2.1 ∧ x.1.1.2.2 < y.1.1.2.2 := by
  unfold ltOf cfK
  rw [decide_eq_true_iff]
  split <;> omega
theorem ltK_no (x y : Kr) : ltOf cfK x y = false ↔ ¬ (x.1.1.2.1 < y.1.1.2.1 ∨ x.1.1.2.1 = y.1.1.2.1 ∧ x.1.1.2.2 < y.1.1.2.2) := by
  rw [← ltK, Bool.not_eq_true]

theorem swoK : SWO (ltOf cfK) where
  irrefl x := by rw [ltK_no]; omega
  trans x y z h1 h2 := by rw [ltK] at *; omega
  ntrans x y z h1 h2 := by rw [ltK_no] at *; omega

set_option maxRecDepth 100000 in
set_option maxHeartbeats 2000000 in
theorem closK (x y : Kr) (W : World) : Calls Try.prog 40 #[.agg (encK x).toArray, .agg (encK y).toArray] W fun e w' => e = .returned (.int .i64 (cfK x y)) ∧ ∃ q os', w' = grow (W.drewN q) os' := by
  obtain ⟨⟨⟨b1, s1, n1⟩, t1⟩, h1⟩ := x
  obtain ⟨⟨⟨b2, s2, n2⟩, t2⟩, h2⟩ := y
  unfold Small at h1 h2
  simp only at h1 h2
  obtain ⟨a1, a2, a3, a4⟩ := h1
  obtain ⟨c1, c2, c3, c4⟩ := h2
  show Calls Try.prog _ #[.agg (rcC ((b1, s1, n1), t1)).toArray, .agg (rcC ((b2, s2, n2), t2)).toArray] W _
  unfold rcC cfK
  simp only
  generalize bs t1 = x1
  generalize bs t2 = x2
  have p1 : IntKind.i64.wrap (s1 - s2) = s1 - s2 := IntWalk.i64_in _ (by omega)
  have p2 : IntKind.i64.wrap (n1 - n2) = n1 - n2 := IntWalk.i64_in _ (by omega)
  by_cases e : s1 = s2
  · subst e
    rw [if_pos rfl]
    go_enter Try.func40, Try.ntmps40
    go_wp2_with fail
    go_ret
    exact ⟨rfl, 0, _, by rw [alloc_eq_grow, alloc_eq_grow, grow_grow]; rfl⟩
  · rw [if_neg e]
    have e2 : (s1 == s2) = false := beq_eq_false_iff_ne.2 e
    go_enter Try.func40, Try.ntmps40
    go_wp2_with fail
    go_ret
    exact ⟨rfl, 0, _, by rw [alloc_eq_grow, alloc_eq_grow, grow_grow]; rfl⟩

theorem flat_fl (d : List Kr) : (flatK encK 4 d.toArray).toList = fl rcC (d.map (·.1)) := by
  apply List.ext_getElem
  · rw [Array.length_toList, size_flatK, fl_length rcC_len]; simp
  · intro t h1 h2
    rw [fl_length rcC_len, List.length_map] at h2
    have ht : t < d.toArray.size * 4 := by simpa using h2
    have e := get_flatK encK 4 d.toArray t ht
    have e1 : (flatK encK 4 d.toArray).toList[t] = (flatK encK 4 d.toArray)[t]! := by
      rw [Array.length_toList] at h1
      rw [getElem!_pos _ t h1]; rfl
    rw [e1, e]
    have hd : t / 4 < d.length := by omega
    have e2 : d.toArray[t / 4]! = d[t / 4] := by rw [getElem!_pos d.toArray (t / 4) (by simpa using hd)]; simp
    rw [e2]
    have hm : t % 4 < 4 := Nat.mod_lt _ (by omega)
    have hg := fl_get rcC_len (d.map (·.1)) (t / 4) (by rw [List.length_map]; exact hd) (t % 4) hm
    rw [show t / 4 * 4 + t % 4 = t by omega, List.getElem_map, List.getElem?_eq_getElem (by rw [fl_length rcC_len, List.length_map]; omega)] at hg
    show (rcC d[t / 4].1)[t % 4]! = _
    rw [getElem!_pos _ _ (by rw [rcC_len]; exact hm)]
    rw [List.getElem?_eq_getElem (by rw [rcC_len]; exact hm)] at hg
    exact (Option.some.inj hg).symm

theorem holdsR {w : World} {blk : Nat} {d : List Kr} {sp : List Value} (h : RowC w blk 30 (fl rcC (d.map (·.1)) ++ sp)) : HoldsK encK 4 w blk 0 d.toArray := by
  intro t ht
  rw [size_flatK] at ht
  have ht' : t < (fl rcC (d.map (·.1))).length := by rw [fl_length rcC_len, List.length_map]; simpa using ht
  rw [Nat.zero_add]
  refine ⟨h.cell ?_, h.frozen t⟩
  have e : (flatK encK 4 d.toArray)[t]! = (fl rcC (d.map (·.1)))[t] := by
    have h1 : (flatK encK 4 d.toArray).toList[t]'(by rw [flat_fl]; exact ht') = (fl rcC (d.map (·.1)))[t] := by simp only [flat_fl]
    rw [← h1, getElem!_pos _ t (by rw [size_flatK]; exact ht)]; rfl
  rw [List.getElem?_append_left ht']
  exact (List.getElem?_eq_getElem ht').trans (congrArg some e.symm)

theorem grown_growS (w : World) (os : Array Obj) (row : Option Nat) : w.grownBy (Go.Sort.grow w os) row :=
  ⟨rfl, rfl, rfl, by rw [size_grow]; omega, fun k hk _ => heap_grow_old w os hk⟩

theorem grown_putS (w : World) (n blk off : Nat) (d : Array Kr) : w.grownBy (putRowK encK 4 (Sort.ahead w n) blk off d) (some blk) := by
  refine ⟨rfl, rfl, rfl, by unfold putRowK; rw [size_putRow]; exact Nat.le_refl _, fun k hk hne => ?_⟩
  have hkb : blk ≠ k := fun e => hne (by rw [e])
  unfold putRowK putRow mapBlock
  simp [Array.getElem?_modify, hkb, Sort.ahead]

/-- a row that was put: its block is a row of cells of the same length -/
theorem put_rowS {w : World} {blk n : Nat} {L : List Value} (h : RowC w blk 30 L) (d : Array Kr) : ∃ L', RowC (putRowK encK 4 (Sort.ahead w n) blk 0 d) blk 30 L' ∧ L'.length = L.length := by
  unfold RowC at h
  have h2 : (putRowK encK 4 (Sort.ahead w n) blk 0 d).heap[blk]? = some (.cells (putCells id 0 (flatK encK 4 d) L.toArray) 30 (0, 0)) := by
    unfold putRowK putRow mapBlock
    simp [Array.getElem?_modify, Sort.ahead, h, onCells]
  exact ⟨(putCells id 0 (flatK encK 4 d) L.toArray).toList, by unfold RowC; rw [h2], by rw [Array.length_toList]; unfold putCells; simp⟩

def SrtPost (blk : Nat) (d : List Kr) (sp : List Value) (w : World) (e : Ending) (w' : World) : Prop :=
  e = .returned (.tuple #[]) ∧ ∃ (d' : List Kr) (sp' : List Value), d'.Perm d ∧ d'.Pairwise (fun a b => ltOf cfK b a = false) ∧ RowC w' blk 30 (fl rcC (d'.map (·.1)) ++ sp') ∧ sp'.length = sp.length ∧ w.grownBy w' (some blk)

set_option maxHeartbeats 4000000 in
theorem sortR (blk c : Nat) (d : List Kr) (sp : List Value) (w : World) (hrow : RowC w blk 30 (fl rcC (d.map (·.1)) ++ sp)) (hd : d.length ≤ 100000) :
    Calls Try.prog 39 #[.slice (some ⟨blk, 0, none⟩) d.length c, .func (.func 40) #[] #[]] w (SrtPost blk d sp w) := by
  have hH := holdsR hrow
  have hb := hrow.lt
  have hcmp : CmpLays Try.prog 40 #[] encK 4 cfK blk 0 d.toArray.size w := fun m os dk _ x y => closK x y _
  have hS := AnyQ.slices_SortFunc Try.sortRec 4 Try.isAgg30 Try.sizeOf30 encK (fun _ => rfl) (fun x v hv => rcC_one x.1 v hv) cfK swoK 40 #[] blk 0 c d.toArray w (enters_of Try.func40 (by kernel_rfl) rfl) hcmp hH hb (by simp; omega)
  change Calls Try.prog 39 _ _ _ at hS
  rw [List.size_toArray] at hS
  refine hS.mono ?_
  rintro e w' ⟨rfl, d', n, os, hP, hSo, rfl⟩
  obtain ⟨hsz, _, hperm⟩ := hP
  have hsz' : d'.size = d.length := by simpa using hsz
  have hsl : d'.toList.length = d.length := by rw [Array.length_toList]; exact hsz'
  have hbp : blk < (putRowK encK 4 (Sort.ahead w n) blk 0 d').heap.size := by unfold putRowK; rw [size_putRow]; exact hb
  obtain ⟨L', hL1, hL2⟩ := put_rowS (n := n) hrow d'
  have hcc := holdsK_putRowK encK 4 (Sort.ahead w n) blk 0 d.toArray d' (holdsK_ahead _ _ _ _ _ _ _ hH) hsz
  have hlen : (fl rcC (d'.toList.map (·.1))).length = d.length * 4 := by rw [fl_length rcC_len, List.length_map, hsl]
  have hll : L'.length = d.length * 4 + sp.length := by rw [hL2, List.length_append, fl_length rcC_len, List.length_map]
  have htake : L'.take (d.length * 4) = fl rcC (d'.toList.map (·.1)) := by
    apply List.ext_getElem
    · rw [List.length_take, hlen]; omega
    · intro t h1 h2
      rw [hlen] at h2
      have hc := (hcc t (by rw [size_flatK, hsz']; exact h2)).1
      rw [Nat.zero_add, hL1.at] at hc
      have e3 : (flatK encK 4 d')[t]! = (fl rcC (d'.toList.map (·.1)))[t]'(by rw [hlen]; exact h2) := by
        have h3 := flat_fl d'.toList
        rw [show d'.toList.toArray = d' by simp] at h3
        have h1 : (flatK encK 4 d').toList[t]'(by rw [h3, hlen]; exact h2) = (fl rcC (d'.toList.map (·.1)))[t]'(by rw [hlen]; exact h2) := by simp only [h3]
        rw [← h1, getElem!_pos _ t (by rw [size_flatK, hsz']; exact h2)]; rfl
      rw [List.getElem_take]
      have h4 : L'[t]? = some (L'[t]'(by omega)) := List.getElem?_eq_getElem _
      rw [h4] at hc
      have h5 := Option.some.inj hc
      rw [h5]
      exact e3
  refine ⟨rfl, d'.toList, L'.drop (d.length * 4), ?_, ?_, ?_, by rw [List.length_drop]; omega, ?_⟩
  · have e1 : (d'.extract 0 d.length).toList = d'.toList := by rw [← hsz', Array.extract_size]
    have e2 : (d.toArray.extract 0 d.length).toList = d := by
      have : d.length = d.toArray.size := by simp
      rw [this, Array.extract_size]
    rw [e1, e2] at hperm
    exact hperm
  · rw [List.pairwise_iff_getElem]
    intro i j hi hj hij
    have := hSo i j (Nat.zero_le _) hij (by rw [← hsl]; exact hj)
    rw [getElem!_pos d' j (by rw [hsz']; rw [hsl] at hj; exact hj), getElem!_pos d' i (by rw [hsz']; rw [hsl] at hi; exact hi)] at this
    exact this
  · rw [← htake, List.take_append_drop]
    unfold sortWorldK
    have h6 : (Go.Sort.grow (putRowK encK 4 (Sort.ahead w n) blk 0 d') os).heap[blk]? = (putRowK encK 4 (Sort.ahead w n) blk 0 d').heap[blk]? := heap_grow_old _ os hbp
    exact h6.trans hL1
  · have h1 := grown_putS w n blk 0 d'
    have h2 := grown_growS (putRowK encK 4 (Sort.ahead w n) blk 0 d') os (some blk)
    exact ⟨h1.os, h1.tape, h1.output, Nat.le_trans h1.size h2.size, fun k hk hne => (h2.block k (Nat.lt_of_lt_of_le hk h1.size) hne).trans (h1.block k hk hne)⟩

end Go.Proofs.Ytalbfhoffhhjmaa
