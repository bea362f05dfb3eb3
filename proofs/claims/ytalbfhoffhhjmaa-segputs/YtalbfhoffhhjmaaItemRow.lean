/-
  A slice of items of a bag that came in reads as a list of items. Conditions: it can be read as data.
-/
import Derived.Test.YtalbfhoffhhjmaaItems
import Derived.Deep.Slices
import Derived.Deep.Fields
import Derived.ChangeSame
namespace Go.Proofs.Ytalbfhoffhhjmaa
open Go.RowKit
open Go.Proofs
open Go.ChangeShapes Go.WideShapes Go.Deep
open WoolBag

theorem add_noneI (b off j : Nat) : (⟨b, off, none⟩ : Addr).add j = ⟨b, off + j, none⟩ := by
  unfold Addr.add
  split
  · rename_i e; subst e; rfl
  · rfl

theorem cellsItm : Try.prog.cellsOf 26 = 4 := by kernel_rfl
theorem cellsIntI : Try.prog.cellsOf 3 = 1 := by kernel_rfl
theorem cellsStrI : Try.prog.cellsOf 9 = 1 := by kernel_rfl
theorem bytesItm : Try.prog.bytesOf 26 = 40 := by kernel_rfl

section
variable {H : Type} {enc : TypeId × Value → H} {w : World} {base : Nat} {spare : Nat → Bool} {held : Bool}

set_option maxRecDepth 100000 in
/-- four cells that read as an item -/
theorem itm_cells {n : Nat} {cs : List Value} {y : DataW H × List MemPlace} (h : DataW.trod enc Try.prog w base spare held n 26 cs = some y) : ∃ x : Itm, cs = itC x := by
  obtain ⟨xs, m, _, _, hl, hxl, hf⟩ := DataW.trod_struct Try.underlying26 h
  rw [cellsItm] at hl
  match cs, hl with
  | [c0, c1, c2, c3], _ =>
    match xs, hxl with
    | [x0, x1, x2, x3], _ =>
      have f0 : DataW.trod enc Try.prog w base spare held m 3 [c0] = some x0 := by simpa [cellsIntI, cellsStrI] using hf 0 _ rfl
      have f1 : DataW.trod enc Try.prog w base spare held m 3 [c1] = some x1 := by simpa [cellsIntI, cellsStrI] using hf 1 _ rfl
      have f2 : DataW.trod enc Try.prog w base spare held m 9 [c2] = some x2 := by simpa [cellsIntI, cellsStrI] using hf 2 _ rfl
      have f3 : DataW.trod enc Try.prog w base spare held m 3 [c3] = some x3 := by simpa [cellsIntI, cellsStrI] using hf 3 _ rfl
      obtain ⟨s, hs, _⟩ := DataW.trod_int Try.underlying3 f0
      obtain ⟨n, hn, _⟩ := DataW.trod_int Try.underlying3 f1
      obtain ⟨t, ht, _⟩ := DataW.trod_string Try.underlying9 f2
      obtain ⟨r, hr, _⟩ := DataW.trod_int Try.underlying3 f3
      refine ⟨⟨s, n, t.data.toList, r⟩, ?_⟩
      simp at hs hn ht hr
      unfold itC
      simp only
      rw [hs, hn, ht, hr, bs_of]

theorem open_items {fuel : Nat} {cs : List Value} {x : DataW H × List MemPlace} (h : DataW.trod enc Try.prog w base (fun _ => true) held fuel 23 cs = some x) :
    ∃ (o : Option Addr) (len cap : Nat) (l : List Itm), cs = [.slice o len cap] ∧ Items w (.slice o len cap) l := by
  rcases open_slice Try.underlying23 h with ⟨rfl, _⟩ | ⟨a, len, cap, m, n, D, Pl, rfl, _, hl, hm, hmm, _, hi⟩
  · exact ⟨none, 0, 0, [], rfl, Items.nil w⟩
  · rw [if_pos rfl] at hmm
    obtain rfl : cap = m := hmm.symm
    rw [cellsItm] at hi
    have hex : ∀ i, ∃ x : Itm, i < cap → ∀ j u, (itC x)[j]? = some u → w.cell? ((a.add (i * 4)).add j) = some u := by
      intro i
      by_cases hic : i < cap
      · obtain ⟨cs', hc, ht⟩ := hi i hic
        obtain ⟨x, rfl⟩ := itm_cells ht
        obtain ⟨_, _, hat⟩ := World.cells?_some hc
        refine ⟨x, fun _ j u hu => ?_⟩
        have hj : j < 4 := by
          have := (List.getElem?_eq_some_iff.1 hu).1
          simpa [itC] using this
        rw [hat j hj]
        exact hu
      · exact ⟨default, fun h => absurd h hic⟩
    obtain ⟨f, hf⟩ := Classical.axiomOfChoice hex
    have hlen : ((List.range len).map f).length = len := by rw [List.length_map, List.length_range]
    refine ⟨some a, len, cap, (List.range len).map f, rfl, some a, cap, by rw [hlen], by rw [hlen]; exact hl, hm, ?_⟩
    by_cases h0 : len = 0
    · left; subst h0; rfl
    · right
      obtain ⟨b, off, spot⟩ := a
      have hs0 := hf 0 (by omega) 0 _ rfl
      have hspot : spot = none := by simpa [Addr.add] using World.cell?_spot hs0
      subst hspot
      refine ⟨b, off, rfl, fun k hk => ?_⟩
      rw [hlen] at hk
      have e0 := hf k (by omega) 0 _ rfl
      have e1 := hf k (by omega) 1 _ rfl
      have e2 := hf k (by omega) 2 _ rfl
      have e3 := hf k (by omega) 3 _ rfl
      rw [add_noneI, add_noneI] at e0 e1 e2 e3
      have hg : ((List.range len).map f)[k]'(by rw [hlen]; exact hk) = f k := by rw [List.getElem_map, List.getElem_range]
      rw [hg]
      exact ⟨e0, e1, e2, e3⟩

/-- how many places were read -/
theorem items_data {fuel : Nat} {cs : List Value} {x : DataW H × List MemPlace} (h : DataW.trod enc Try.prog w base (fun _ => true) held fuel 23 cs = some x) :
    ∃ (o : Option Addr) (len cap : Nat), cs = [.slice o len cap] ∧ (cap = 0 ∨ ∃ es sp, x.1 = .slice es sp ∧ es.length + sp.length = cap) := by
  rcases open_slice Try.underlying23 h with ⟨rfl, _⟩ | ⟨a, len, cap, m, n, D, Pl, rfl, _, hl, hm, hmm, hx, hi⟩
  · exact ⟨none, 0, 0, rfl, .inl rfl⟩
  · rw [if_pos rfl] at hmm
    refine ⟨some a, len, cap, rfl, .inr ⟨_, _, congrArg Prod.fst hx, ?_⟩⟩
    rw [List.length_map, List.length_map, List.length_range, List.length_range, hmm]
    omega

end

end Go.Proofs.Ytalbfhoffhhjmaa
