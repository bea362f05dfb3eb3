/-
  A record that came in reads as a record; a slice of records that came in reads as records. Conditions: it can be read as data.
-/
import Derived.Test.YtalbfhoffhhjmaaSegC
import Derived.Deep.Slices
import Derived.Deep.Fields
import Derived.ChangeSame
import Derived.SizedLaws
import Derived.ChangeOld
namespace Go.Proofs.Ytalbfhoffhhjmaa
open Go.RowKit
open Go.Proofs
open Go.ChangeShapes Go.WideShapes Go.Deep
open WoolSeg

theorem cellsRec : Try.prog.cellsOf 30 = 4 := by kernel_rfl
theorem cellsIdR : Try.prog.cellsOf 28 = 3 := by kernel_rfl
theorem cellsIntR : Try.prog.cellsOf 3 = 1 := by kernel_rfl
theorem cellsBoolR : Try.prog.cellsOf 4 = 1 := by kernel_rfl
theorem cellsStrR : Try.prog.cellsOf 9 = 1 := by kernel_rfl
theorem bytesRec : Try.prog.bytesOf 30 = 40 := by kernel_rfl

section
variable {H : Type} {enc : TypeId × Value → H} {w : World} {base : Nat} {spare : Nat → Bool} {held : Bool}

set_option maxRecDepth 100000 in
theorem idn_cells {n : Nat} {cs : List Value} {y : DataW H × List MemPlace} (h : DataW.trod enc Try.prog w base spare held n 28 cs = some y) : ∃ i : Bool × Int × Int, cs = [.bool i.1, .int .i64 i.2.1, .int .i64 i.2.2] ∧ (Lit.int .i64 i.2.1).wf = true ∧ (Lit.int .i64 i.2.2).wf = true := by
  obtain ⟨xs, m, _, _, hl, hxl, hf⟩ := DataW.trod_struct Try.underlying28 h
  rw [cellsIdR] at hl
  match cs, hl with
  | [c0, c1, c2], _ =>
    match xs, hxl with
    | [x0, x1, x2], _ =>
      have f0 : DataW.trod enc Try.prog w base spare held m 4 [c0] = some x0 := by simpa [cellsIntR, cellsBoolR] using hf 0 _ rfl
      have f1 : DataW.trod enc Try.prog w base spare held m 3 [c1] = some x1 := by simpa [cellsIntR, cellsBoolR] using hf 1 _ rfl
      have f2 : DataW.trod enc Try.prog w base spare held m 3 [c2] = some x2 := by simpa [cellsIntR, cellsBoolR] using hf 2 _ rfl
      obtain ⟨b, hb, hx0⟩ := DataW.trod_bool Try.underlying4 f0
      obtain ⟨k, hk, _, hw1⟩ := DataW.trod_int Try.underlying3 f1
      obtain ⟨k2, hk2, _, hw2⟩ := DataW.trod_int Try.underlying3 f2
      simp at hb hk hk2
      exact ⟨(b, k, k2), by rw [hb, hk, hk2], hw1, hw2⟩

set_option maxRecDepth 100000 in
theorem rec_cells {n : Nat} {cs : List Value} {y : DataW H × List MemPlace} (h : DataW.trod enc Try.prog w base spare held n 30 cs = some y) : ∃ x : Rc, cs = rcC x ∧ WfR x := by
  obtain ⟨xs, m, _, _, hl, hxl, hf⟩ := DataW.trod_struct Try.underlying30 h
  rw [cellsRec] at hl
  match cs, hl with
  | [c0, c1, c2, c3], _ =>
    match xs, hxl with
    | [x0, x1], _ =>
      have f0 : DataW.trod enc Try.prog w base spare held m 28 [c0, c1, c2] = some x0 := by simpa [cellsIdR, cellsStrR] using hf 0 _ rfl
      have f1 : DataW.trod enc Try.prog w base spare held m 9 [c3] = some x1 := by simpa [cellsIdR, cellsStrR] using hf 1 _ rfl
      obtain ⟨i, hi, hw1, hw2⟩ := idn_cells f0
      obtain ⟨t, ht, _⟩ := DataW.trod_string Try.underlying9 f1
      simp at hi ht
      refine ⟨(i, t.data.toList), ?_, hw1, hw2⟩
      unfold rcC
      simp only
      rw [hi.1, hi.2.1, hi.2.2, ht, bs_of]

set_option maxRecDepth 100000 in
theorem open_rec {r : Reach} {b0 : Nat} {v : Value} {d : DataW H} {ps : List MemPlace} (hval : Value.okWide Try.prog w r b0 30 v) (hd : DataW.Trod enc Try.prog w base spare held 30 v d ps) :
    ∃ o : Rc, v = rcA o ∧ WfR o := by
  simp only [Value.okWide, Try.underlying30] at hval
  obtain ⟨cs, rfl, hsz, _⟩ := hval
  obtain ⟨fuel, hf⟩ := hd
  obtain ⟨o, ho, hw⟩ := rec_cells hf
  refine ⟨o, ?_, hw⟩
  obtain ⟨l, hcl⟩ : ∃ l, cs = l.toArray := ⟨cs.toList, by simp⟩
  subst hcl
  have e : l = rcC o := by simpa [Value.cells] using ho
  subst e
  rfl

theorem open_rowR {α : Type} [Inhabited α] (f : α → List Value) (Pr : α → Prop) {t e : TypeId} {m : Nat} (hfl : ∀ x, (f x).length = m) (hm0 : 0 < m) (ht : Try.prog.underlying t = some (.slice e)) (hc : Try.prog.cellsOf e = m)
    (hel : ∀ n cs (y : DataW H × List MemPlace), DataW.trod enc Try.prog w base (fun _ => true) held n e cs = some y → ∃ x, cs = f x ∧ Pr x) {fuel : Nat} {cs : List Value} {x : DataW H × List MemPlace}
    (h : DataW.trod enc Try.prog w base (fun _ => true) held fuel t cs = some x) : ∃ (o : Option Addr) (len cap : Nat) (l : List α), cs = [.slice o len cap] ∧ l.length = len ∧ Sl w m (.slice o len cap) l.length (fl f l) ∧ ∀ x ∈ l, Pr x := by
  rcases open_slice ht h with ⟨rfl, _⟩ | ⟨a, len, cap, m', n, D, Pl, rfl, _, hl, hm, hmm, _, hi⟩
  · exact ⟨none, 0, 0, [], rfl, rfl, Sl.nil w m, by simp⟩
  · rw [if_pos rfl] at hmm
    obtain rfl : cap = m' := hmm.symm
    rw [hc] at hi
    have hex : ∀ i, ∃ x : α, i < cap → (Pr x ∧ ∀ j u, (f x)[j]? = some u → w.cell? ((a.add (i * m)).add j) = some u) := by
      intro i
      by_cases hic : i < cap
      · obtain ⟨cs', hc', ht'⟩ := hi i hic
        obtain ⟨x, rfl, hx⟩ := hel _ _ _ ht'
        obtain ⟨_, _, hat⟩ := World.cells?_some hc'
        refine ⟨x, fun _ => ⟨hx, fun j u hu => ?_⟩⟩
        have hj : j < m := by rw [← hfl x]; exact (List.getElem?_eq_some_iff.1 hu).1
        rw [hat j hj]
        exact hu
      · exact ⟨default, fun h => absurd h hic⟩
    obtain ⟨g, hg⟩ := Classical.axiomOfChoice hex
    have hlen : ((List.range len).map g).length = len := by rw [List.length_map, List.length_range]
    refine ⟨some a, len, cap, (List.range len).map g, rfl, hlen, ⟨fl_length hfl _, some a, cap, by rw [hlen], by rw [hlen]; exact hl, hm, ?_⟩, ?_⟩
    · by_cases h0 : len = 0
      · left; rw [hlen]; exact h0
      · right
        obtain ⟨b, off, spot⟩ := a
        have hspot : spot = none := by
          have h00 : 0 < (f (g 0)).length := by rw [hfl]; exact hm0
          have hs0 := (hg 0 (by omega)).2 0 _ (List.getElem?_eq_getElem h00)
          simpa [Addr.add] using World.cell?_spot hs0
        subst hspot
        refine ⟨b, off, rfl, fun j u hu => ?_⟩
        have hjl : j < len * m := by
          have := (List.getElem?_eq_some_iff.1 hu).1
          rwa [fl_length hfl, hlen] at this
        have hk : j / m < len := Nat.div_lt_of_lt_mul (by rw [Nat.mul_comm]; exact hjl)
        have hr : j % m < m := Nat.mod_lt _ hm0
        have hd : j / m * m + j % m = j := by rw [Nat.mul_comm]; exact Nat.div_add_mod j m
        have hk' : j / m < ((List.range len).map g).length := by rw [hlen]; exact hk
        have h1 := fl_get hfl ((List.range len).map g) (j / m) hk' (j % m) hr
        rw [hd, hu] at h1
        have h2 : ((List.range len).map g)[j / m] = g (j / m) := by rw [List.getElem_map, List.getElem_range]
        rw [h2] at h1
        have h3 := (hg (j / m) (by omega)).2 (j % m) u h1.symm
        rw [add_offS, add_offS, Nat.add_assoc, hd] at h3
        exact h3
    · intro x hx
      obtain ⟨i, hi1, rfl⟩ := List.mem_map.1 hx
      rw [List.mem_range] at hi1
      exact (hg i (by omega)).1

theorem open_recs {fuel : Nat} {cs : List Value} {x : DataW H × List MemPlace} (h : DataW.trod enc Try.prog w base (fun _ => true) held fuel 22 cs = some x) :
    ∃ (o : Option Addr) (len cap : Nat) (l : List Rc), cs = [.slice o len cap] ∧ Recs w (.slice o len cap) l := by
  obtain ⟨o, len, cap, l, h1, h2, h3, h4⟩ := open_rowR rcC WfR rcC_len (by omega) Try.underlying22 cellsRec (fun n cs y hy => rec_cells hy) h
  exact ⟨o, len, cap, l, h1, h3⟩

/-- how many places were read -/
theorem recs_data {fuel : Nat} {cs : List Value} {x : DataW H × List MemPlace} (h : DataW.trod enc Try.prog w base (fun _ => true) held fuel 22 cs = some x) :
    ∃ (o : Option Addr) (len cap : Nat), cs = [.slice o len cap] ∧ (cap = 0 ∨ ∃ es sp, x.1 = .slice es sp ∧ es.length + sp.length = cap) := by
  rcases open_slice Try.underlying22 h with ⟨rfl, _⟩ | ⟨a, len, cap, m, n, D, Pl, rfl, _, hl, hm, hmm, hx, hi⟩
  · exact ⟨none, 0, 0, rfl, .inl rfl⟩
  · rw [if_pos rfl] at hmm
    refine ⟨some a, len, cap, rfl, .inr ⟨_, _, congrArg Prod.fst hx, ?_⟩⟩
    rw [List.length_map, List.length_map, List.length_range, List.length_range, hmm]
    omega

end

end Go.Proofs.Ytalbfhoffhhjmaa
