/-
  A slice of tokens that came in reads as a list of tokens. Conditions: it can be read as data.
-/
import Derived.Test.YtjbedphofjdfkaaDoorLz3
import Derived.Deep.Slices
import Derived.Deep.Fields
import Derived.ChangeSame
namespace Go.Proofs.YtjbedphofjdfkaaDoor
open Go.RowKit
open Go.Proofs
open Go.ChangeShapes Go.WideShapes Go.Deep
open WoolLz

theorem add_none (b off j : Nat) : (⟨b, off, none⟩ : Addr).add j = ⟨b, off + j, none⟩ := by
  unfold Addr.add
  split
  · rename_i e; subst e; rfl
  · rfl

theorem cellsTok : Tryd.prog.cellsOf 36 = 3 := by kernel_rfl
theorem cellsInt : Tryd.prog.cellsOf 3 = 1 := by kernel_rfl

section
variable {H : Type} {enc : TypeId × Value → H} {w : World} {base : Nat} {spare : Nat → Bool} {held : Bool}

set_option maxRecDepth 100000 in
/-- three cells that read as a token -/
theorem tok_cells {n : Nat} {cs : List Value} {y : DataW H × List MemPlace} (h : DataW.trod enc Tryd.prog w base spare held n 36 cs = some y) :
    ∃ t : Tok, cs = [.int .i64 t.d, .int .i64 t.l, .int .i64 t.b] := by
  obtain ⟨xs, m, _, _, hl, hxl, hf⟩ := DataW.trod_struct Tryd.underlying36 h
  rw [cellsTok] at hl
  match cs, hl with
  | [c0, c1, c2], _ =>
    match xs, hxl with
    | [x0, x1, x2], _ =>
      have f0 : DataW.trod enc Tryd.prog w base spare held m 3 [c0] = some x0 := by simpa [cellsInt] using hf 0 _ rfl
      have f1 : DataW.trod enc Tryd.prog w base spare held m 3 [c1] = some x1 := by simpa [cellsInt] using hf 1 _ rfl
      have f2 : DataW.trod enc Tryd.prog w base spare held m 3 [c2] = some x2 := by simpa [cellsInt] using hf 2 _ rfl
      obtain ⟨d, hd, _⟩ := DataW.trod_int Tryd.underlying3 f0
      obtain ⟨l, hl, _⟩ := DataW.trod_int Tryd.underlying3 f1
      obtain ⟨b, hb, _⟩ := DataW.trod_int Tryd.underlying3 f2
      refine ⟨⟨d, l, b⟩, ?_⟩
      simp at hd hl hb
      rw [hd, hl, hb]

theorem open_toks {fuel : Nat} {cs : List Value} {x : DataW H × List MemPlace} (h : DataW.trod enc Tryd.prog w base (fun _ => true) held fuel 29 cs = some x) :
    ∃ (o : Option Addr) (len cap : Nat) (l : List Tok), cs = [.slice o len cap] ∧ Toks w (.slice o len cap) l := by
  rcases open_slice Tryd.underlying29 h with ⟨rfl, _⟩ | ⟨a, len, cap, m, n, D, Pl, rfl, _, hl, hm, hmm, _, hi⟩
  · exact ⟨none, 0, 0, [], rfl, none, 0, rfl, Nat.le_refl _, by unfold maxLen; omega, .inl rfl⟩
  · rw [if_pos rfl] at hmm
    obtain rfl : cap = m := hmm.symm
    rw [cellsTok] at hi
    have hex : ∀ i, ∃ t : Tok, i < cap → ∀ j u, [Value.int .i64 t.d, .int .i64 t.l, .int .i64 t.b][j]? = some u → w.cell? ((a.add (i * 3)).add j) = some u := by
      intro i
      by_cases hic : i < cap
      · obtain ⟨cs', hc, ht⟩ := hi i hic
        obtain ⟨t, rfl⟩ := tok_cells ht
        obtain ⟨_, _, hat⟩ := World.cells?_some hc
        refine ⟨t, fun _ j u hu => ?_⟩
        have hj : j < 3 := by
          have := (List.getElem?_eq_some_iff.1 hu).1
          simpa using this
        rw [hat j hj]
        exact hu
      · exact ⟨⟨0, 0, 0⟩, fun h => absurd h hic⟩
    obtain ⟨f, hf⟩ := Classical.axiomOfChoice hex
    have hlen : ((List.range len).map f).length = len := by rw [List.length_map, List.length_range]
    refine ⟨some a, len, cap, (List.range len).map f, rfl, some a, cap, by rw [hlen], by rw [hlen]; exact hl, hm, ?_⟩
    by_cases h0 : len = 0
    · left; subst h0; rfl
    · right
      obtain ⟨b, off, spot⟩ := a
      have hs0 := hf 0 (by omega) 0 _ rfl
      have hspot : spot = none := by simpa [Addr.add] using World.cell?_spot hs0
      subst hspot
      refine ⟨b, off, rfl, fun k hk => ?_⟩
      rw [hlen] at hk
      have e0 := hf k (by omega) 0 _ rfl
      have e1 := hf k (by omega) 1 _ rfl
      have e2 := hf k (by omega) 2 _ rfl
      rw [add_none, add_none] at e0 e1 e2
      have hg : ((List.range len).map f)[k]'(by rw [hlen]; exact hk) = f k := by rw [List.getElem_map, List.getElem_range]
      rw [hg]
      exact ⟨e0, e1, e2⟩

/-- how many places were read -/
theorem toks_data {fuel : Nat} {cs : List Value} {x : DataW H × List MemPlace} (h : DataW.trod enc Tryd.prog w base (fun _ => true) held fuel 29 cs = some x) :
    ∃ (o : Option Addr) (len cap : Nat), cs = [.slice o len cap] ∧ (cap = 0 ∨ ∃ es sp, x.1 = .slice es sp ∧ es.length + sp.length = cap) := by
  rcases open_slice Tryd.underlying29 h with ⟨rfl, _⟩ | ⟨a, len, cap, m, n, D, Pl, rfl, _, hl, hm, hmm, hx, hi⟩
  · exact ⟨none, 0, 0, rfl, .inl rfl⟩
  · rw [if_pos rfl] at hmm
    refine ⟨some a, len, cap, rfl, .inr ⟨_, _, congrArg Prod.fst hx, ?_⟩⟩
    rw [List.length_map, List.length_map, List.length_range, List.length_range, hmm]
    omega

theorem bytesTok : Tryd.prog.bytesOf 36 = 24 := by kernel_rfl

end

end Go.Proofs.YtjbedphofjdfkaaDoor
