/-
  The texts TxtRow, OpRow, one behind the other; each says below what it holds and on what conditions.
-/
import Derived.Test.YtkobngbjffbjiaaJVolClones46
import Derived.Deep.Slices
import Derived.Deep.Fields
import Derived.ChangeSame
import Derived.SizedLaws
import Derived.ChangeOld
import Derived.Test.YtkobngbjffbjiaaJVolClones09

/-
  A slice that came in reads as a row of elements (open_rowT); slices of texts and of steps that came in. Conditions: they can be read as data.
-/
namespace Go.Proofs.Ytkobngbjffbjiaa
open Go.RowKit
open Go.Proofs
open Go.ChangeShapes Go.WideShapes Go.Deep
open WoolTree

theorem add_offR (b off j : Nat) : (⟨b, off, none⟩ : Addr).add j = ⟨b, off + j, none⟩ := by
  unfold Addr.add
  split
  · rename_i e; subst e; rfl
  · rfl

theorem cellsStrT : Try.prog.cellsOf 9 = 1 := by kernel_rfl

section
variable {H : Type} {enc : TypeId × Value → H} {w : World} {base : Nat} {spare : Nat → Bool} {held : Bool}

theorem open_rowT {α : Type} [Inhabited α] (f : α → List Value) (Pr : α → Prop) {t e : TypeId} {m : Nat} (hfl : ∀ x, (f x).length = m) (hm0 : 0 < m) (ht : Try.prog.underlying t = some (.slice e)) (hc : Try.prog.cellsOf e = m)
    (hel : ∀ n cs (y : DataW H × List MemPlace), DataW.trod enc Try.prog w base (fun _ => true) held n e cs = some y → ∃ x, cs = f x ∧ Pr x) {fuel : Nat} {cs : List Value} {x : DataW H × List MemPlace}
    (h : DataW.trod enc Try.prog w base (fun _ => true) held fuel t cs = some x) : ∃ (o : Option Addr) (len cap : Nat) (l : List α), cs = [.slice o len cap] ∧ l.length = len ∧ Sl w m (.slice o len cap) l.length (fl f l) ∧ ∀ x ∈ l, Pr x := by
  rcases open_slice ht h with ⟨rfl, _⟩ | ⟨a, len, cap, m', n, D, Pl, rfl, _, hl, hm, hmm, _, hi⟩
  · exact ⟨none, 0, 0, [], rfl, rfl, Sl.nil w m, by simp⟩
  · rw [if_pos rfl] at hmm
    obtain rfl : cap = m' := hmm.symm
    rw [hc] at hi
    have hex : ∀ i, ∃ x : α, i < cap → (Pr x ∧ ∀ j u, (f x)[j]? = some u → w.cell? ((a.add (i * m)).add j) = some u) := by
      intro i
      by_cases hic : i < cap
      · obtain ⟨cs', hc', ht'⟩ := hi i hic
        obtain ⟨x, rfl, hx⟩ := hel _ _ _ ht'
        obtain ⟨_, _, hat⟩ := World.cells?_some hc'
        refine ⟨x, fun _ => ⟨hx, fun j u hu => ?_⟩⟩
        have hj : j < m := by rw [← hfl x]; exact (List.getElem?_eq_some_iff.1 hu).1
        rw [hat j hj]
        exact hu
      · exact ⟨default, fun h => absurd h hic⟩
    obtain ⟨g, hg⟩ := Classical.axiomOfChoice hex
    have hlen : ((List.range len).map g).length = len := by rw [List.length_map, List.length_range]
    refine ⟨some a, len, cap, (List.range len).map g, rfl, hlen, ⟨fl_length hfl _, some a, cap, by rw [hlen], by rw [hlen]; exact hl, hm, ?_⟩, ?_⟩
    · by_cases h0 : len = 0
      · left; rw [hlen]; exact h0
      · right
        obtain ⟨b, off, spot⟩ := a
        have hspot : spot = none := by
          have h00 : 0 < (f (g 0)).length := by rw [hfl]; exact hm0
          have hs0 := (hg 0 (by omega)).2 0 _ (List.getElem?_eq_getElem h00)
          simpa [Addr.add] using World.cell?_spot hs0
        subst hspot
        refine ⟨b, off, rfl, fun j u hu => ?_⟩
        have hjl : j < len * m := by
          have := (List.getElem?_eq_some_iff.1 hu).1
          rwa [fl_length hfl, hlen] at this
        have hk : j / m < len := Nat.div_lt_of_lt_mul (by rw [Nat.mul_comm]; exact hjl)
        have hr : j % m < m := Nat.mod_lt _ hm0
        have hd : j / m * m + j % m = j := by rw [Nat.mul_comm]; exact Nat.div_add_mod j m
        have hk' : j / m < ((List.range len).map g).length := by rw [hlen]; exact hk
        have h1 := fl_get hfl ((List.range len).map g) (j / m) hk' (j % m) hr
        rw [hd, hu] at h1
        have h2 : ((List.range len).map g)[j / m] = g (j / m) := by rw [List.getElem_map, List.getElem_range]
        rw [h2] at h1
        have h3 := (hg (j / m) (by omega)).2 (j % m) u h1.symm
        rw [add_offR, add_offR, Nat.add_assoc, hd] at h3
        exact h3
    · intro x hx
      obtain ⟨i, hi1, rfl⟩ := List.mem_map.1 hx
      rw [List.mem_range] at hi1
      exact (hg i (by omega)).1

theorem txt_cells {n : Nat} {cs : List Value} {y : DataW H × List MemPlace} (h : DataW.trod enc Try.prog w base spare held n 9 cs = some y) : ∃ x : List UInt8, cs = txC x ∧ x.length ≤ 9223372036854775807 := by
  obtain ⟨t, ht, _, ht2⟩ := DataW.trod_string Try.underlying9 h
  subst ht
  refine ⟨t.data.toList, ?_, ?_⟩
  · unfold txC; rw [bs_of]
  · rw [ba_length]; unfold maxLen at ht2; omega

theorem open_texts {fuel : Nat} {cs : List Value} {x : DataW H × List MemPlace} (h : DataW.trod enc Try.prog w base (fun _ => true) held fuel 46 cs = some x) :
    ∃ (o : Option Addr) (len cap : Nat) (l : List (List UInt8)), cs = [.slice o len cap] ∧ Txs w (.slice o len cap) l := by
  obtain ⟨o, len, cap, l, h1, h2, h3, _⟩ := open_rowT txC (fun x => x.length ≤ 9223372036854775807) txC_len (by omega) Try.underlying46 cellsStrT (fun n cs y hy => txt_cells hy) h
  exact ⟨o, len, cap, l, h1, h3⟩

/-- how many places were read -/
theorem texts_data {fuel : Nat} {cs : List Value} {x : DataW H × List MemPlace} (h : DataW.trod enc Try.prog w base (fun _ => true) held fuel 46 cs = some x) :
    ∃ (o : Option Addr) (len cap : Nat), cs = [.slice o len cap] ∧ (cap = 0 ∨ ∃ es sp, x.1 = .slice es sp ∧ es.length + sp.length = cap) := by
  rcases open_slice Try.underlying46 h with ⟨rfl, _⟩ | ⟨a, len, cap, m, n, D, Pl, rfl, _, hl, hm, hmm, hx, hi⟩
  · exact ⟨none, 0, 0, rfl, .inl rfl⟩
  · rw [if_pos rfl] at hmm
    refine ⟨some a, len, cap, rfl, .inr ⟨_, _, congrArg Prod.fst hx, ?_⟩⟩
    rw [List.length_map, List.length_map, List.length_range, List.length_range, hmm]
    omega

theorem bytesStrT : Try.prog.bytesOf 9 = 16 := by kernel_rfl

end

end Go.Proofs.Ytkobngbjffbjiaa

/-
  A slice of deeds that came in, and a deed that came in, read as deeds. Conditions: they can be read as data.
-/
namespace Go.Proofs.Ytkobngbjffbjiaa
open Go.RowKit
open Go.Proofs
open Go.ChangeShapes Go.WideShapes Go.Deep
open WoolVol

theorem cellsOp : Try.prog.cellsOf 61 = 5 := by kernel_rfl
theorem cellsIntO : Try.prog.cellsOf 3 = 1 := by kernel_rfl
theorem cellsStrO : Try.prog.cellsOf 9 = 1 := by kernel_rfl
theorem bytesOp : Try.prog.bytesOf 61 = 64 := by kernel_rfl

section
variable {H : Type} {enc : TypeId × Value → H} {w : World} {base : Nat} {spare : Nat → Bool} {held : Bool}

set_option maxRecDepth 100000 in
theorem op_cells {n : Nat} {cs : List Value} {y : DataW H × List MemPlace} (h : DataW.trod enc Try.prog w base spare held n 61 cs = some y) : ∃ x : Opn, cs = opC x ∧ OpWf x := by
  obtain ⟨xs, m, _, _, hl, hxl, hf⟩ := DataW.trod_struct Try.underlying61 h
  rw [cellsOp] at hl
  match cs, hl with
  | [c0, c1, c2, c3, c4], _ =>
    match xs, hxl with
    | [x0, x1, x2, x3, x4], _ =>
      have f0 : DataW.trod enc Try.prog w base spare held m 3 [c0] = some x0 := by simpa [cellsIntO, cellsStrO] using hf 0 _ rfl
      have f1 : DataW.trod enc Try.prog w base spare held m 9 [c1] = some x1 := by simpa [cellsIntO, cellsStrO] using hf 1 _ rfl
      have f2 : DataW.trod enc Try.prog w base spare held m 9 [c2] = some x2 := by simpa [cellsIntO, cellsStrO] using hf 2 _ rfl
      have f3 : DataW.trod enc Try.prog w base spare held m 3 [c3] = some x3 := by simpa [cellsIntO, cellsStrO] using hf 3 _ rfl
      have f4 : DataW.trod enc Try.prog w base spare held m 9 [c4] = some x4 := by simpa [cellsIntO, cellsStrO] using hf 4 _ rfl
      obtain ⟨k, hk, _, hw0⟩ := DataW.trod_int Try.underlying3 f0
      obtain ⟨t1, ht1, _, hw1⟩ := DataW.trod_string Try.underlying9 f1
      obtain ⟨t2, ht2, _, hw2⟩ := DataW.trod_string Try.underlying9 f2
      obtain ⟨k3, hk3, _, hw3⟩ := DataW.trod_int Try.underlying3 f3
      obtain ⟨t4, ht4, _, hw4⟩ := DataW.trod_string Try.underlying9 f4
      simp at hk ht1 ht2 hk3 ht4
      unfold maxLen at hw1 hw2 hw4
      refine ⟨⟨k, t1.data.toList, t2.data.toList, k3, t4.data.toList⟩, ?_, hw0, ?_, ?_, hw3, ?_⟩
      · unfold opC; rw [hk, ht1, ht2, hk3, ht4, bs_of, bs_of, bs_of]
      · show t1.data.toList.length ≤ _; rw [ba_length]; omega
      · show t2.data.toList.length ≤ _; rw [ba_length]; omega
      · show t4.data.toList.length ≤ _; rw [ba_length]; omega

theorem open_ops {fuel : Nat} {cs : List Value} {x : DataW H × List MemPlace} (h : DataW.trod enc Try.prog w base (fun _ => true) held fuel 22 cs = some x) :
    ∃ (o : Option Addr) (len cap : Nat) (l : List Opn), cs = [.slice o len cap] ∧ Ops w (.slice o len cap) l := by
  obtain ⟨o, len, cap, l, h1, h2, h3, h4⟩ := open_rowT opC OpWf opC_len (by omega) Try.underlying22 cellsOp (fun n cs y hy => op_cells hy) h
  exact ⟨o, len, cap, l, h1, h3, h4⟩

/-- how many places were read -/
theorem ops_data {fuel : Nat} {cs : List Value} {x : DataW H × List MemPlace} (h : DataW.trod enc Try.prog w base (fun _ => true) held fuel 22 cs = some x) :
    ∃ (o : Option Addr) (len cap : Nat), cs = [.slice o len cap] ∧ (cap = 0 ∨ ∃ es sp, x.1 = .slice es sp ∧ es.length + sp.length = cap) := by
  rcases open_slice Try.underlying22 h with ⟨rfl, _⟩ | ⟨a, len, cap, m, n, D, Pl, rfl, _, hl, hm, hmm, hx, hi⟩
  · exact ⟨none, 0, 0, rfl, .inl rfl⟩
  · rw [if_pos rfl] at hmm
    refine ⟨some a, len, cap, rfl, .inr ⟨_, _, congrArg Prod.fst hx, ?_⟩⟩
    rw [List.length_map, List.length_map, List.length_range, List.length_range, hmm]
    omega

set_option maxRecDepth 100000 in
theorem open_op {r : Reach} {b0 : Nat} {v : Value} {d : DataW H} {ps : List MemPlace} (hval : Value.okWide Try.prog w r b0 61 v) (hd : DataW.Trod enc Try.prog w base spare held 61 v d ps) :
    ∃ o : Opn, v = opA o ∧ OpWf o := by
  simp only [Value.okWide, Try.underlying61] at hval
  obtain ⟨cs, rfl, hsz, _⟩ := hval
  obtain ⟨fuel, hf⟩ := hd
  obtain ⟨o, ho, hw⟩ := op_cells hf
  refine ⟨o, ?_, hw⟩
  obtain ⟨l, hcl⟩ : ∃ l, cs = l.toArray := ⟨cs.toList, by simp⟩
  subst hcl
  have e : l = opC o := by simpa [Value.cells] using ho
  subst e
  rfl

end

end Go.Proofs.Ytkobngbjffbjiaa
