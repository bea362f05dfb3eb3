/-
  The texts LawVol4, ItemRow, StaRow, one behind the other; each says below what it holds and on what conditions.
-/
import Derived.Test.YtcbppfndlagodaaGreatDoorJDiffSays49
import Derived.Test.YtcbppfndlagodaaGreatDoorJDiffSays07
import Derived.Deep.Slices
import Derived.Deep.Fields
import Derived.ChangeSame
import Derived.SizedLaws
import Derived.ChangeOld

/-
  The law DiffSays over what is handed in. Conditions: a state and a row of ints that can be read.
-/
namespace Go.Proofs.YtcbppfndlagodaaGreatDoor
open Go.RowKit
open Go.Proofs
open WoolBag
open WoolVol

/-- a slice of integers that came in: nil, or a row of cells -/
def IsRow (k : IntKind) (w : World) (a : Option Addr) (len cap : Nat) (zs : List Int) : Prop :=
  (a = none ∧ len = 0 ∧ cap = 0 ∧ zs = []) ∨ ∃ x, a = some x ∧ len ≤ cap ∧ cap ≤ maxLen ∧ zs.length = cap ∧ (∀ i, i < zs.length → w.cell? (x.add i) = some (.int k (zs.getD i 0))) ∧ ∀ n ∈ zs, (Lit.int k n).wf = true

theorem row_ints {w : World} {a : Option Addr} {len cap : Nat} {zs : List Int} (h : IsRow .i64 w a len cap zs) : (zs.take len).length = len ∧ Sl w 1 (.slice a len cap) (zs.take len).length (inL (zs.take len)) := by
  rcases h with ⟨rfl, rfl, rfl, rfl⟩ | ⟨x, rfl, h1, h2, h3, h4, _⟩
  · exact ⟨rfl, Sl.nil w 1⟩
  · have hlen : (zs.take len).length = len := by rw [List.length_take]; omega
    refine ⟨hlen, by unfold inL; rw [List.length_map]; omega, some x, cap, by rw [hlen], by omega, h2, ?_⟩
    by_cases h0 : len = 0
    · exact .inl (by omega)
    · right
      obtain ⟨b, off, spot⟩ := x
      have hs0 := h4 0 (by omega)
      have hspot : spot = none := by simpa [Addr.add] using World.cell?_spot hs0
      subst hspot
      refine ⟨b, off, rfl, fun k u hu => ?_⟩
      unfold inL at hu
      rw [List.getElem?_map] at hu
      have hk : k < (zs.take len).length := by
        rcases Nat.lt_or_ge k (zs.take len).length with hlt | hge
        · exact hlt
        · rw [List.getElem?_eq_none hge] at hu; simp at hu
      rw [List.getElem?_eq_getElem hk, List.getElem_take] at hu
      simp at hu
      have hkl : k < zs.length := by omega
      have h6 := h4 k hkl
      have hg : zs.getD k 0 = zs[k] := by simp [hkl]
      rw [add_off, hg] at h6
      rw [h6, ← hu]

theorem diffSays_walk (a0 : Value) (s0 : Sta) (a1 a2 : ByteArray) (a3 : Option Addr) (len3 cap3 : Nat) (z3 : List Int) (w : World) (w0 : Stat w a0 s0 ∧ WfS s0) (_w1 : a1.size ≤ 140737488351232) (_w2 : a2.size ≤ 140737488351232) (w3 : IsRow .i64 w a3 len3 cap3 z3) :
    Calls Tryz.prog 5 #[a0, .string a1, .string a2, .slice a3 len3 cap3] w fun e w' => e = .returned (.bool true) ∧ Up w w' := by
  obtain ⟨hst, hwf⟩ := w0
  obtain ⟨n, rfl⟩ : ∃ n, a1 = bs n := ⟨a1.data.toList, (bs_of a1).symm⟩
  obtain ⟨m, rfl⟩ : ∃ m, a2 = bs m := ⟨a2.data.toList, (bs_of a2).symm⟩
  exact diffSays_core a0 s0 n m (.slice a3 len3 cap3) (z3.take len3) w hst hwf (row_ints w3).2

end Go.Proofs.YtcbppfndlagodaaGreatDoor

/-
  A slice of items of a bag that came in reads as a list of items. Conditions: it can be read as data.
-/
namespace Go.Proofs.YtcbppfndlagodaaGreatDoor
open Go.RowKit
open Go.Proofs
open Go.ChangeShapes Go.WideShapes Go.Deep
open WoolBag

theorem add_noneI (b off j : Nat) : (⟨b, off, none⟩ : Addr).add j = ⟨b, off + j, none⟩ := by
  unfold Addr.add
  split
  · rename_i e; subst e; rfl
  · rfl

theorem cellsItm : Tryz.prog.cellsOf 70 = 4 := by kernel_rfl
theorem cellsIntI : Tryz.prog.cellsOf 3 = 1 := by kernel_rfl
theorem cellsStrI : Tryz.prog.cellsOf 9 = 1 := by kernel_rfl
theorem bytesItm : Tryz.prog.bytesOf 70 = 40 := by kernel_rfl

section
variable {H : Type} {enc : TypeId × Value → H} {w : World} {base : Nat} {spare : Nat → Bool} {held : Bool}

set_option maxRecDepth 100000 in
/-- four cells that read as an item -/
theorem itm_cells {n : Nat} {cs : List Value} {y : DataW H × List MemPlace} (h : DataW.trod enc Tryz.prog w base spare held n 70 cs = some y) : ∃ x : Itm, cs = itC x := by
  obtain ⟨xs, m, _, _, hl, hxl, hf⟩ := DataW.trod_struct Tryz.underlying70 h
  rw [cellsItm] at hl
  match cs, hl with
  | [c0, c1, c2, c3], _ =>
    match xs, hxl with
    | [x0, x1, x2, x3], _ =>
      have f0 : DataW.trod enc Tryz.prog w base spare held m 3 [c0] = some x0 := by simpa [cellsIntI, cellsStrI] using hf 0 _ rfl
      have f1 : DataW.trod enc Tryz.prog w base spare held m 3 [c1] = some x1 := by simpa [cellsIntI, cellsStrI] using hf 1 _ rfl
      have f2 : DataW.trod enc Tryz.prog w base spare held m 9 [c2] = some x2 := by simpa [cellsIntI, cellsStrI] using hf 2 _ rfl
      have f3 : DataW.trod enc Tryz.prog w base spare held m 3 [c3] = some x3 := by simpa [cellsIntI, cellsStrI] using hf 3 _ rfl
      obtain ⟨s, hs, _⟩ := DataW.trod_int Tryz.underlying3 f0
      obtain ⟨n, hn, _⟩ := DataW.trod_int Tryz.underlying3 f1
      obtain ⟨t, ht, _⟩ := DataW.trod_string Tryz.underlying9 f2
      obtain ⟨r, hr, _⟩ := DataW.trod_int Tryz.underlying3 f3
      refine ⟨⟨s, n, t.data.toList, r⟩, ?_⟩
      simp at hs hn ht hr
      unfold itC
      simp only
      rw [hs, hn, ht, hr, bs_of]

theorem open_items {fuel : Nat} {cs : List Value} {x : DataW H × List MemPlace} (h : DataW.trod enc Tryz.prog w base (fun _ => true) held fuel 22 cs = some x) :
    ∃ (o : Option Addr) (len cap : Nat) (l : List Itm), cs = [.slice o len cap] ∧ Items w (.slice o len cap) l := by
  rcases open_slice Tryz.underlying22 h with ⟨rfl, _⟩ | ⟨a, len, cap, m, n, D, Pl, rfl, _, hl, hm, hmm, _, hi⟩
  · exact ⟨none, 0, 0, [], rfl, Items.nil w⟩
  · rw [if_pos rfl] at hmm
    obtain rfl : cap = m := hmm.symm
    rw [cellsItm] at hi
    have hex : ∀ i, ∃ x : Itm, i < cap → ∀ j u, (itC x)[j]? = some u → w.cell? ((a.add (i * 4)).add j) = some u := by
      intro i
      by_cases hic : i < cap
      · obtain ⟨cs', hc, ht⟩ := hi i hic
        obtain ⟨x, rfl⟩ := itm_cells ht
        obtain ⟨_, _, hat⟩ := World.cells?_some hc
        refine ⟨x, fun _ j u hu => ?_⟩
        have hj : j < 4 := by
          have := (List.getElem?_eq_some_iff.1 hu).1
          simpa [itC] using this
        rw [hat j hj]
        exact hu
      · exact ⟨default, fun h => absurd h hic⟩
    obtain ⟨f, hf⟩ := Classical.axiomOfChoice hex
    have hlen : ((List.range len).map f).length = len := by rw [List.length_map, List.length_range]
    refine ⟨some a, len, cap, (List.range len).map f, rfl, some a, cap, by rw [hlen], by rw [hlen]; exact hl, hm, ?_⟩
    by_cases h0 : len = 0
    · left; subst h0; rfl
    · right
      obtain ⟨b, off, spot⟩ := a
      have hs0 := hf 0 (by omega) 0 _ rfl
      have hspot : spot = none := by simpa [Addr.add] using World.cell?_spot hs0
      subst hspot
      refine ⟨b, off, rfl, fun k hk => ?_⟩
      rw [hlen] at hk
      have e0 := hf k (by omega) 0 _ rfl
      have e1 := hf k (by omega) 1 _ rfl
      have e2 := hf k (by omega) 2 _ rfl
      have e3 := hf k (by omega) 3 _ rfl
      rw [add_noneI, add_noneI] at e0 e1 e2 e3
      have hg : ((List.range len).map f)[k]'(by rw [hlen]; exact hk) = f k := by rw [List.getElem_map, List.getElem_range]
      rw [hg]
      exact ⟨e0, e1, e2, e3⟩

/-- how many places were read -/
theorem items_data {fuel : Nat} {cs : List Value} {x : DataW H × List MemPlace} (h : DataW.trod enc Tryz.prog w base (fun _ => true) held fuel 22 cs = some x) :
    ∃ (o : Option Addr) (len cap : Nat), cs = [.slice o len cap] ∧ (cap = 0 ∨ ∃ es sp, x.1 = .slice es sp ∧ es.length + sp.length = cap) := by
  rcases open_slice Tryz.underlying22 h with ⟨rfl, _⟩ | ⟨a, len, cap, m, n, D, Pl, rfl, _, hl, hm, hmm, hx, hi⟩
  · exact ⟨none, 0, 0, rfl, .inl rfl⟩
  · rw [if_pos rfl] at hmm
    refine ⟨some a, len, cap, rfl, .inr ⟨_, _, congrArg Prod.fst hx, ?_⟩⟩
    rw [List.length_map, List.length_map, List.length_range, List.length_range, hmm]
    omega

end

end Go.Proofs.YtcbppfndlagodaaGreatDoor

/-
  A state that came in reads as a bag and volumes. Conditions: it can be read as data.
-/
namespace Go.Proofs.YtcbppfndlagodaaGreatDoor
open Go.RowKit
open Go.Proofs
open Go.ChangeShapes Go.WideShapes Go.Deep
open WoolBag
open WoolVol

theorem cellsIdR : Tryz.prog.cellsOf 49 = 3 := by kernel_rfl
theorem cellsVolR : Tryz.prog.cellsOf 47 = 2 := by kernel_rfl
theorem cellsStaR : Tryz.prog.cellsOf 25 = 2 := by kernel_rfl
theorem cellsBoolR : Tryz.prog.cellsOf 4 = 1 := by kernel_rfl
theorem cellsIdsR : Tryz.prog.cellsOf 45 = 1 := by kernel_rfl
theorem cellsItsR : Tryz.prog.cellsOf 22 = 1 := by kernel_rfl
theorem cellsVosR : Tryz.prog.cellsOf 23 = 1 := by kernel_rfl

section
variable {H : Type} {enc : TypeId × Value → H} {w : World} {base : Nat} {spare : Nat → Bool} {held : Bool}

set_option maxRecDepth 100000 in
/-- three cells that read as an identifier -/
theorem id_cells {n : Nat} {cs : List Value} {y : DataW H × List MemPlace} (h : DataW.trod enc Tryz.prog w base spare held n 49 cs = some y) : ∃ x : Idn, cs = idC x ∧ WfI x := by
  obtain ⟨xs, m, _, _, hl, hxl, hf⟩ := DataW.trod_struct Tryz.underlying49 h
  rw [cellsIdR] at hl
  match cs, hl with
  | [c0, c1, c2], _ =>
    match xs, hxl with
    | [x0, x1, x2], _ =>
      have f0 : DataW.trod enc Tryz.prog w base spare held m 4 [c0] = some x0 := by simpa [cellsIntI, cellsBoolR] using hf 0 _ rfl
      have f1 : DataW.trod enc Tryz.prog w base spare held m 3 [c1] = some x1 := by simpa [cellsIntI, cellsBoolR] using hf 1 _ rfl
      have f2 : DataW.trod enc Tryz.prog w base spare held m 3 [c2] = some x2 := by simpa [cellsIntI, cellsBoolR] using hf 2 _ rfl
      obtain ⟨b, hb, _⟩ := DataW.trod_bool Tryz.underlying4 f0
      obtain ⟨s, hs, _, hs2⟩ := DataW.trod_int Tryz.underlying3 f1
      obtain ⟨n, hn, _, hn2⟩ := DataW.trod_int Tryz.underlying3 f2
      simp at hb hs hn
      refine ⟨(b, s, n), ?_, ?_⟩
      · unfold idC; rw [hb, hs, hn]
      · exact ⟨hs2, hn2⟩

theorem open_row {α : Type} [Inhabited α] (f : α → List Value) (Pr : α → Prop) {t e : TypeId} {m : Nat} (hfl : ∀ x, (f x).length = m) (hm0 : 0 < m) (ht : Tryz.prog.underlying t = some (.slice e)) (hc : Tryz.prog.cellsOf e = m)
    (hel : ∀ n cs (y : DataW H × List MemPlace), DataW.trod enc Tryz.prog w base (fun _ => true) held n e cs = some y → ∃ x, cs = f x ∧ Pr x) {fuel : Nat} {cs : List Value} {x : DataW H × List MemPlace}
    (h : DataW.trod enc Tryz.prog w base (fun _ => true) held fuel t cs = some x) : ∃ (o : Option Addr) (len cap : Nat) (l : List α), cs = [.slice o len cap] ∧ l.length = len ∧ Sl w m (.slice o len cap) l.length (fl f l) ∧ ∀ x ∈ l, Pr x := by
  rcases open_slice ht h with ⟨rfl, _⟩ | ⟨a, len, cap, m', n, D, Pl, rfl, _, hl, hm, hmm, _, hi⟩
  · exact ⟨none, 0, 0, [], rfl, rfl, Sl.nil w m, by simp⟩
  · rw [if_pos rfl] at hmm
    obtain rfl : cap = m' := hmm.symm
    rw [hc] at hi
    have hex : ∀ i, ∃ x : α, i < cap → (Pr x ∧ ∀ j u, (f x)[j]? = some u → w.cell? ((a.add (i * m)).add j) = some u) := by
      intro i
      by_cases hic : i < cap
      · obtain ⟨cs', hc', ht'⟩ := hi i hic
        obtain ⟨x, rfl, hx⟩ := hel _ _ _ ht'
        obtain ⟨_, _, hat⟩ := World.cells?_some hc'
        refine ⟨x, fun _ => ⟨hx, fun j u hu => ?_⟩⟩
        have hj : j < m := by rw [← hfl x]; exact (List.getElem?_eq_some_iff.1 hu).1
        rw [hat j hj]
        exact hu
      · exact ⟨default, fun h => absurd h hic⟩
    obtain ⟨g, hg⟩ := Classical.axiomOfChoice hex
    have hlen : ((List.range len).map g).length = len := by rw [List.length_map, List.length_range]
    refine ⟨some a, len, cap, (List.range len).map g, rfl, hlen, ⟨fl_length hfl _, some a, cap, by rw [hlen], by rw [hlen]; exact hl, hm, ?_⟩, ?_⟩
    · by_cases h0 : len = 0
      · left; rw [hlen]; exact h0
      · right
        obtain ⟨b, off, spot⟩ := a
        have hspot : spot = none := by
          have h00 : 0 < (f (g 0)).length := by rw [hfl]; exact hm0
          have hs0 := (hg 0 (by omega)).2 0 _ (List.getElem?_eq_getElem h00)
          simpa [Addr.add] using World.cell?_spot hs0
        subst hspot
        refine ⟨b, off, rfl, fun j u hu => ?_⟩
        have hjl : j < len * m := by
          have := (List.getElem?_eq_some_iff.1 hu).1
          rwa [fl_length hfl, hlen] at this
        have hk : j / m < len := Nat.div_lt_of_lt_mul (by rw [Nat.mul_comm]; exact hjl)
        have hr : j % m < m := Nat.mod_lt _ hm0
        have hd : j / m * m + j % m = j := by rw [Nat.mul_comm]; exact Nat.div_add_mod j m
        have hk' : j / m < ((List.range len).map g).length := by rw [hlen]; exact hk
        have h1 := fl_get hfl ((List.range len).map g) (j / m) hk' (j % m) hr
        rw [hd, hu] at h1
        have h2 : ((List.range len).map g)[j / m] = g (j / m) := by rw [List.getElem_map, List.getElem_range]
        rw [h2] at h1
        have h3 := (hg (j / m) (by omega)).2 (j % m) u h1.symm
        rw [add_noneI, add_noneI, Nat.add_assoc, hd] at h3
        exact h3
    · intro x hx
      obtain ⟨i, hi1, rfl⟩ := List.mem_map.1 hx
      rw [List.mem_range] at hi1
      exact (hg i (by omega)).1

theorem open_ids {fuel : Nat} {cs : List Value} {x : DataW H × List MemPlace} (h : DataW.trod enc Tryz.prog w base (fun _ => true) held fuel 45 cs = some x) :
    ∃ (v : Value) (l : List Idn), cs = [v] ∧ Ids w v l ∧ ∀ i ∈ l, WfI i := by
  obtain ⟨o, len, cap, l, h1, h2, h3, h4⟩ := open_row idC WfI idC_len (by omega) Tryz.underlying45 cellsIdR (fun n cs y hy => id_cells hy) h
  exact ⟨_, l, h1, h3, h4⟩

/-- a volume's two cells, and what its blocks read as -/
def volP (w : World) (x : VC × List Idn) : Prop := Ids w x.1.sl x.2 ∧ (∀ i ∈ x.2, WfI i) ∧ x.1.nm.length ≤ 9223372036854775807

set_option maxRecDepth 100000 in
theorem vol_cells {n : Nat} {cs : List Value} {y : DataW H × List MemPlace} (h : DataW.trod enc Tryz.prog w base (fun _ => true) held n 47 cs = some y) : ∃ x : VC × List Idn, cs = vcC x.1 ∧ volP w x := by
  obtain ⟨xs, m, _, _, hl, hxl, hf⟩ := DataW.trod_struct Tryz.underlying47 h
  rw [cellsVolR] at hl
  match cs, hl with
  | [c0, c1], _ =>
    match xs, hxl with
    | [x0, x1], _ =>
      have f0 : DataW.trod enc Tryz.prog w base (fun _ => true) held m 9 [c0] = some x0 := by simpa [cellsStrI, cellsIdsR] using hf 0 _ rfl
      have f1 : DataW.trod enc Tryz.prog w base (fun _ => true) held m 45 [c1] = some x1 := by simpa [cellsStrI, cellsIdsR] using hf 1 _ rfl
      obtain ⟨t, ht, _, ht2⟩ := DataW.trod_string Tryz.underlying9 f0
      obtain ⟨v, l, hv, hi, hw⟩ := open_ids f1
      simp at ht hv
      subst ht hv
      refine ⟨(⟨t.data.toList, c1⟩, l), ?_, hi, hw, ?_⟩
      · unfold vcC; rw [bs_of]
      · show t.data.toList.length ≤ _
        rw [ba_length]
        unfold maxLen at ht2
        omega

theorem fl_fst : ∀ l : List (VC × List Idn), fl (fun x => vcC x.1) l = fl vcC (l.map (·.1))
  | [] => rfl
  | x :: r => by show vcC x.1 ++ _ = vcC x.1 ++ _; rw [fl_fst r]

theorem open_vols {fuel : Nat} {cs : List Value} {x : DataW H × List MemPlace} (h : DataW.trod enc Tryz.prog w base (fun _ => true) held fuel 23 cs = some x) :
    ∃ (v : Value) (l : List Vo), cs = [v] ∧ Vols w v l ∧ ∀ x ∈ l, (∀ i ∈ x.bl, WfI i) ∧ x.nm.length ≤ 9223372036854775807 := by
  obtain ⟨o, len, cap, l, h1, h2, h3, h4⟩ := open_row (fun x : VC × List Idn => vcC x.1) (volP w) (fun x => vcC_len x.1) (by omega) Tryz.underlying23 cellsVolR (fun n cs y hy => vol_cells hy) h
  refine ⟨_, l.map (fun x => ⟨x.1.nm, x.2⟩), h1, ⟨l.map (·.1), ?_, ⟨by simp, fun k hk => by simp, fun k hk => ?_⟩⟩, ?_⟩
  · unfold VCs
    rw [List.length_map, ← fl_fst]
    exact h3
  · simp only [List.getElem_map]
    exact (h4 _ (List.getElem_mem _)).1
  · intro x hx
    obtain ⟨y, hy, rfl⟩ := List.mem_map.1 hx
    exact (h4 y hy).2

set_option maxRecDepth 100000 in
theorem open_state {r : Reach} {b0 : Nat} {v : Value} {d : DataW H} {ps : List MemPlace} (hval : Value.okWide Tryz.prog w r b0 25 v) (hd : DataW.Trod enc Tryz.prog w base (fun _ => true) held 25 v d ps) :
    ∃ st : Sta, Stat w v st ∧ WfS st := by
  simp only [Value.okWide, Tryz.underlying25] at hval
  obtain ⟨cs, rfl, hsz, _⟩ := hval
  rw [cellsStaR] at hsz
  obtain ⟨fuel, hf⟩ := hd
  obtain ⟨xs, m, _, hx, hl, hxl, hf⟩ := DataW.trod_struct Tryz.underlying25 hf
  obtain ⟨l, hcl⟩ : ∃ l, cs = l.toArray := ⟨cs.toList, by simp⟩
  subst hcl
  match l, hsz with
  | [c0, c1], _ =>
    match xs, hxl with
    | [x0, x1], _ =>
      have f0 : DataW.trod enc Tryz.prog w base (fun _ => true) held m 22 [c0] = some x0 := by simpa [cellsItsR, cellsVosR, Value.cells] using hf 0 _ rfl
      have f1 : DataW.trod enc Tryz.prog w base (fun _ => true) held m 23 [c1] = some x1 := by simpa [cellsItsR, cellsVosR, Value.cells] using hf 1 _ rfl
      obtain ⟨o, n, c, b, hb, hb2⟩ := open_items f0
      obtain ⟨v, vs, hv, hv2, hv3⟩ := open_vols f1
      simp at hb hv
      subst hb hv
      exact ⟨⟨b, vs⟩, ⟨_, _, rfl, hb2, hv2⟩, hv3⟩

end

end Go.Proofs.YtcbppfndlagodaaGreatDoor
