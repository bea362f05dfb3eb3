/-
  A slice of slices of records that came in reads as segments, each of a length that the form's reach bounds. Condition: it can be read as data.
-/
import Derived.Test.YtomfbffaekpnlaaRecRow
namespace Go.Proofs.Ytomfbffaekpnlaa
open Go.RowKit
open Go.Proofs
open Go.ChangeShapes Go.WideShapes Go.Deep
open WoolSeg

theorem cellsRecs : Try.prog.cellsOf 31 = 1 := by kernel_rfl

theorem weights_all {H : Type} {P : Program} {e : TypeId} : ∀ {ds : List (DataW H)} {d : DataW H}, d ∈ ds → ∀ n ∈ d.weights P e, n ∈ DataW.weightsAll P e ds
  | d :: r, d', h, n, hn => by
    rw [DataW.weightsAll]
    rcases List.mem_cons.1 h with rfl | h
    · exact List.mem_append_left _ hn
    · exact List.mem_append_right _ (weights_all h n hn)

section
variable {H : Type} {enc : TypeId × Value → H} {w : World} {base : Nat} {held : Bool}

/-- what one segment's data says of its length -/
theorem recs_len {fuel : Nat} {v : Value} {x : DataW H × List MemPlace} (h : DataW.trod enc Try.prog w base (fun _ => true) held fuel 31 [v] = some x) :
    ∃ l : List Rc, Recs w v l ∧ (l.length = 0 ∨ ∃ es sp, x.1 = .slice es sp ∧ l.length ≤ es.length + sp.length) := by
  obtain ⟨o, len, cap, l, h1, h2⟩ := open_recs h
  obtain ⟨o', len', cap', h3, h4⟩ := recs_data h
  rw [h1] at h3
  simp only [List.cons.injEq, Value.slice.injEq, and_true] at h1 h3
  obtain ⟨rfl, rfl, rfl⟩ := h3
  subst h1
  refine ⟨l, h2, ?_⟩
  obtain ⟨o2, c2, e, hle, _⟩ := h2.slice
  simp only [Value.slice.injEq] at e
  obtain ⟨_, _, rfl⟩ := e
  rcases h4 with h4 | ⟨es, sp, hx, hl⟩
  · left; omega
  · exact .inr ⟨es, sp, hx, by omega⟩

theorem open_segs {fuel : Nat} {cs : List Value} {x : DataW H × List MemPlace} (h : DataW.trod enc Try.prog w base (fun _ => true) held fuel 22 cs = some x) :
    ∃ (o : Option Addr) (len cap : Nat) (l : List (List Rc)), cs = [.slice o len cap] ∧ Sgs w (.slice o len cap) l ∧ ((∀ n ∈ x.1.weights Try.prog 22, n ≤ reachBytes) → ∀ s ∈ l, s.length ≤ 1000000000000000) := by
  rcases open_slice1 Try.underlying22 cellsRecs h with ⟨rfl, _⟩ | ⟨a, len, cap, m, n, V, D, Pl, rfl, _, hl, hm, hmm, hx, hi⟩
  · exact ⟨none, 0, 0, [], rfl, ⟨[], Sl.nil w 1, ⟨rfl, by simp⟩⟩, by simp⟩
  · rw [if_pos rfl] at hmm
    obtain rfl : cap = m := hmm.symm
    have hex : ∀ i, ∃ l : List Rc, i < cap → (Recs w (V i) l ∧ (l.length = 0 ∨ ∃ es sp, D i = .slice es sp ∧ l.length ≤ es.length + sp.length)) := by
      intro i
      by_cases hic : i < cap
      · obtain ⟨l, h1, h2⟩ := recs_len (hi i hic).2
        exact ⟨l, fun _ => ⟨h1, h2⟩⟩
      · exact ⟨[], fun h => absurd h hic⟩
    obtain ⟨g, hg⟩ := Classical.axiomOfChoice hex
    have hlC : ((List.range len).map V).length = len := by rw [List.length_map, List.length_range]
    have hlg : ((List.range len).map g).length = len := by rw [List.length_map, List.length_range]
    refine ⟨some a, len, cap, (List.range len).map g, rfl, ⟨(List.range len).map V, ⟨by rw [Nat.mul_one], some a, cap, by rw [hlC], by rw [hlC]; exact hl, hm, ?_⟩, ⟨by rw [hlC, hlg], fun k hk => ?_⟩⟩, fun hs s hmem => ?_⟩
    · by_cases h0 : len = 0
      · left; rw [hlC]; exact h0
      · right
        obtain ⟨b, off, spot⟩ := a
        have hspot : spot = none := by
          have hs0 := (hi 0 (by omega)).1
          simpa [Addr.add] using World.cell?_spot hs0
        subst hspot
        refine ⟨b, off, rfl, fun j u hu => ?_⟩
        have hj : j < len := by
          have := (List.getElem?_eq_some_iff.1 hu).1
          rwa [hlC] at this
        have h1 := (hi j (by omega)).1
        rw [List.getElem?_map, List.getElem?_range hj] at hu
        simp only [Option.map_some, Option.some.injEq] at hu
        subst hu
        rw [add_offS] at h1
        exact h1
    · have hk' : k < len := by rw [hlg] at hk; exact hk
      rw [List.getElem_map, List.getElem_map, List.getElem_range]
      exact (hg k (by omega)).1
    · obtain ⟨i, hi1, rfl⟩ := List.mem_map.1 hmem
      rw [List.mem_range] at hi1
      rcases (hg i (by omega)).2 with h0 | ⟨es, sp, hD, hle⟩
      · omega
      · have h2 := hs ((es.length + sp.length) * Try.prog.bytesOf 26) (by
          rw [hx]
          simp only [DataW.weights, Try.underlying22]
          refine List.mem_cons_of_mem _ (List.mem_append_left _ (weights_all (d := D i) (List.mem_map.2 ⟨i, List.mem_range.2 hi1, rfl⟩) _ ?_))
          rw [hD]
          simp only [DataW.weights, Try.underlying31]
          exact List.mem_cons_self ..)
        rw [bytesRec] at h2
        unfold reachBytes at h2
        omega

end

end Go.Proofs.Ytomfbffaekpnlaa
