/-
  The texts RefVol9, ItemRow, StaRow, OpOne, one behind the other; each says below what it holds and on what conditions.
-/
import Derived.Test.YtakbmbiebkgkiaaGreatDoorJB32
import Derived.Test.YtakbmbiebkgkiaaGreatDoorJB35
import Derived.Test.YtakbmbiebkgkiaaGreatDoorJB06
import Derived.Deep.Slices
import Derived.Deep.Fields
import Derived.ChangeSame
import Derived.Test.YtakbmbiebkgkiaaGreatDoorJB07
import Derived.SizedLaws
import Derived.ChangeOld

/-
  The law's told. Conditions: as each says.
-/
namespace Go.Proofs.YtakbmbiebkgkiaaGreatDoor
open Go.RowKit
open Go.Proofs
open WoolBag
open WoolVol

set_option maxRecDepth 100000 in
set_option maxHeartbeats 400000 in
theorem told_yes (v1 v2 : Value) (st : Sta) (x : Int) (w : World) (h1 : Stat w v1 st) (h2 : Stat w v2 st) :
    Calls Tryz.prog 7 #[v1, .int .i64 x, v2, .int .i64 x] w fun e w' => e = .returned (.bool true) ∧ Up w w' := by
  have HS := Lib.hid (fun W (hW : Up w W) => same_yes v1 v2 st W (h1.up hW) (h2.up hW))
  obtain ⟨a1, b1, rfl, hi1, hv1⟩ := h1
  obtain ⟨a2, b2, rfl, hi2, hv2⟩ := h2
  obtain ⟨o1, c1, rfl, _⟩ := hi1.slice
  obtain ⟨o2, c2, rfl, _⟩ := hi2.slice
  obtain ⟨o3, c3, rfl, _, _⟩ := hv1.slice
  obtain ⟨o4, c4, rfl, _, _⟩ := hv2.slice
  clear hi1 hi2 hv1 hv2
  go_enter Tryz.func7, Tryz.ntmps7
  go_wp2_with fail
  refine (HS.out _ ((Up.alloc _ _).trans (Up.alloc _ _))).mono ?_
  rintro e w1 ⟨rfl, u1⟩
  go_wp2_with fail
  go_ret
  exact ⟨rfl, ((Up.alloc _ _).trans (Up.alloc _ _)).trans u1⟩

end Go.Proofs.YtakbmbiebkgkiaaGreatDoor

/-
  A slice of items of a bag that came in reads as a list of items. Conditions: it can be read as data.
-/
namespace Go.Proofs.YtakbmbiebkgkiaaGreatDoor
open Go.RowKit
open Go.Proofs
open Go.ChangeShapes Go.WideShapes Go.Deep
open WoolBag

theorem add_noneI (b off j : Nat) : (⟨b, off, none⟩ : Addr).add j = ⟨b, off + j, none⟩ := by
  unfold Addr.add
  split
  · rename_i e; subst e; rfl
  · rfl

theorem cellsItm : Tryz.prog.cellsOf 66 = 4 := by kernel_rfl
theorem cellsIntI : Tryz.prog.cellsOf 3 = 1 := by kernel_rfl
theorem cellsStrI : Tryz.prog.cellsOf 9 = 1 := by kernel_rfl
theorem bytesItm : Tryz.prog.bytesOf 66 = 40 := by kernel_rfl

section
variable {H : Type} {enc : TypeId × Value → H} {w : World} {base : Nat} {spare : Nat → Bool} {held : Bool}

set_option maxRecDepth 100000 in
/-- four cells that read as an item -/
theorem itm_cells {n : Nat} {cs : List Value} {y : DataW H × List MemPlace} (h : DataW.trod enc Tryz.prog w base spare held n 66 cs = some y) : ∃ x : Itm, cs = itC x := by
  obtain ⟨xs, m, _, _, hl, hxl, hf⟩ := DataW.trod_struct Tryz.underlying66 h
  rw [cellsItm] at hl
  match cs, hl with
  | [c0, c1, c2, c3], _ =>
    match xs, hxl with
    | [x0, x1, x2, x3], _ =>
      have f0 : DataW.trod enc Tryz.prog w base spare held m 3 [c0] = some x0 := by simpa [cellsIntI, cellsStrI] using hf 0 _ rfl
      have f1 : DataW.trod enc Tryz.prog w base spare held m 3 [c1] = some x1 := by simpa [cellsIntI, cellsStrI] using hf 1 _ rfl
      have f2 : DataW.trod enc Tryz.prog w base spare held m 9 [c2] = some x2 := by simpa [cellsIntI, cellsStrI] using hf 2 _ rfl
      have f3 : DataW.trod enc Tryz.prog w base spare held m 3 [c3] = some x3 := by simpa [cellsIntI, cellsStrI] using hf 3 _ rfl
      obtain ⟨s, hs, _⟩ := DataW.trod_int Tryz.underlying3 f0
      obtain ⟨n, hn, _⟩ := DataW.trod_int Tryz.underlying3 f1
      obtain ⟨t, ht, _⟩ := DataW.trod_string Tryz.underlying9 f2
      obtain ⟨r, hr, _⟩ := DataW.trod_int Tryz.underlying3 f3
      refine ⟨⟨s, n, t.data.toList, r⟩, ?_⟩
      simp at hs hn ht hr
      unfold itC
      simp only
      rw [hs, hn, ht, hr, bs_of]

theorem open_items {fuel : Nat} {cs : List Value} {x : DataW H × List MemPlace} (h : DataW.trod enc Tryz.prog w base (fun _ => true) held fuel 22 cs = some x) :
    ∃ (o : Option Addr) (len cap : Nat) (l : List Itm), cs = [.slice o len cap] ∧ Items w (.slice o len cap) l := by
  rcases open_slice Tryz.underlying22 h with ⟨rfl, _⟩ | ⟨a, len, cap, m, n, D, Pl, rfl, _, hl, hm, hmm, _, hi⟩
  · exact ⟨none, 0, 0, [], rfl, Items.nil w⟩
  · rw [if_pos rfl] at hmm
    obtain rfl : cap = m := hmm.symm
    rw [cellsItm] at hi
    have hex : ∀ i, ∃ x : Itm, i < cap → ∀ j u, (itC x)[j]? = some u → w.cell? ((a.add (i * 4)).add j) = some u := by
      intro i
      by_cases hic : i < cap
      · obtain ⟨cs', hc, ht⟩ := hi i hic
        obtain ⟨x, rfl⟩ := itm_cells ht
        obtain ⟨_, _, hat⟩ := World.cells?_some hc
        refine ⟨x, fun _ j u hu => ?_⟩
        have hj : j < 4 := by
          have := (List.getElem?_eq_some_iff.1 hu).1
          simpa [itC] using this
        rw [hat j hj]
        exact hu
      · exact ⟨default, fun h => absurd h hic⟩
    obtain ⟨f, hf⟩ := Classical.axiomOfChoice hex
    have hlen : ((List.range len).map f).length = len := by rw [List.length_map, List.length_range]
    refine ⟨some a, len, cap, (List.range len).map f, rfl, some a, cap, by rw [hlen], by rw [hlen]; exact hl, hm, ?_⟩
    by_cases h0 : len = 0
    · left; subst h0; rfl
    · right
      obtain ⟨b, off, spot⟩ := a
      have hs0 := hf 0 (by omega) 0 _ rfl
      have hspot : spot = none := by simpa [Addr.add] using World.cell?_spot hs0
      subst hspot
      refine ⟨b, off, rfl, fun k hk => ?_⟩
      rw [hlen] at hk
      have e0 := hf k (by omega) 0 _ rfl
      have e1 := hf k (by omega) 1 _ rfl
      have e2 := hf k (by omega) 2 _ rfl
      have e3 := hf k (by omega) 3 _ rfl
      rw [add_noneI, add_noneI] at e0 e1 e2 e3
      have hg : ((List.range len).map f)[k]'(by rw [hlen]; exact hk) = f k := by rw [List.getElem_map, List.getElem_range]
      rw [hg]
      exact ⟨e0, e1, e2, e3⟩

/-- how many places were read -/
theorem items_data {fuel : Nat} {cs : List Value} {x : DataW H × List MemPlace} (h : DataW.trod enc Tryz.prog w base (fun _ => true) held fuel 22 cs = some x) :
    ∃ (o : Option Addr) (len cap : Nat), cs = [.slice o len cap] ∧ (cap = 0 ∨ ∃ es sp, x.1 = .slice es sp ∧ es.length + sp.length = cap) := by
  rcases open_slice Tryz.underlying22 h with ⟨rfl, _⟩ | ⟨a, len, cap, m, n, D, Pl, rfl, _, hl, hm, hmm, hx, hi⟩
  · exact ⟨none, 0, 0, rfl, .inl rfl⟩
  · rw [if_pos rfl] at hmm
    refine ⟨some a, len, cap, rfl, .inr ⟨_, _, congrArg Prod.fst hx, ?_⟩⟩
    rw [List.length_map, List.length_map, List.length_range, List.length_range, hmm]
    omega

end

end Go.Proofs.YtakbmbiebkgkiaaGreatDoor

/-
  A state that came in reads as a bag and volumes. Conditions: it can be read as data.
-/
namespace Go.Proofs.YtakbmbiebkgkiaaGreatDoor
open Go.RowKit
open Go.Proofs
open Go.ChangeShapes Go.WideShapes Go.Deep
open WoolBag
open WoolVol

theorem cellsIdR : Tryz.prog.cellsOf 63 = 3 := by kernel_rfl
theorem cellsVolR : Tryz.prog.cellsOf 58 = 2 := by kernel_rfl
theorem cellsStaR : Tryz.prog.cellsOf 25 = 2 := by kernel_rfl
theorem cellsBoolR : Tryz.prog.cellsOf 4 = 1 := by kernel_rfl
theorem cellsIdsR : Tryz.prog.cellsOf 56 = 1 := by kernel_rfl
theorem cellsItsR : Tryz.prog.cellsOf 22 = 1 := by kernel_rfl
theorem cellsVosR : Tryz.prog.cellsOf 23 = 1 := by kernel_rfl

section
variable {H : Type} {enc : TypeId × Value → H} {w : World} {base : Nat} {spare : Nat → Bool} {held : Bool}

set_option maxRecDepth 100000 in
/-- three cells that read as an identifier -/
theorem id_cells {n : Nat} {cs : List Value} {y : DataW H × List MemPlace} (h : DataW.trod enc Tryz.prog w base spare held n 63 cs = some y) : ∃ x : Idn, cs = idC x ∧ WfI x := by
  obtain ⟨xs, m, _, _, hl, hxl, hf⟩ := DataW.trod_struct Tryz.underlying63 h
  rw [cellsIdR] at hl
  match cs, hl with
  | [c0, c1, c2], _ =>
    match xs, hxl with
    | [x0, x1, x2], _ =>
      have f0 : DataW.trod enc Tryz.prog w base spare held m 4 [c0] = some x0 := by simpa [cellsIntI, cellsBoolR] using hf 0 _ rfl
      have f1 : DataW.trod enc Tryz.prog w base spare held m 3 [c1] = some x1 := by simpa [cellsIntI, cellsBoolR] using hf 1 _ rfl
      have f2 : DataW.trod enc Tryz.prog w base spare held m 3 [c2] = some x2 := by simpa [cellsIntI, cellsBoolR] using hf 2 _ rfl
      obtain ⟨b, hb, _⟩ := DataW.trod_bool Tryz.underlying4 f0
      obtain ⟨s, hs, _, hs2⟩ := DataW.trod_int Tryz.underlying3 f1
      obtain ⟨n, hn, _, hn2⟩ := DataW.trod_int Tryz.underlying3 f2
      simp at hb hs hn
      refine ⟨(b, s, n), ?_, ?_⟩
      · unfold idC; rw [hb, hs, hn]
      · exact ⟨hs2, hn2⟩

theorem open_row {α : Type} [Inhabited α] (f : α → List Value) (Pr : α → Prop) {t e : TypeId} {m : Nat} (hfl : ∀ x, (f x).length = m) (hm0 : 0 < m) (ht : Tryz.prog.underlying t = some (.slice e)) (hc : Tryz.prog.cellsOf e = m)
    (hel : ∀ n cs (y : DataW H × List MemPlace), DataW.trod enc Tryz.prog w base (fun _ => true) held n e cs = some y → ∃ x, cs = f x ∧ Pr x) {fuel : Nat} {cs : List Value} {x : DataW H × List MemPlace}
    (h : DataW.trod enc Tryz.prog w base (fun _ => true) held fuel t cs = some x) : ∃ (o : Option Addr) (len cap : Nat) (l : List α), cs = [.slice o len cap] ∧ l.length = len ∧ Sl w m (.slice o len cap) l.length (fl f l) ∧ ∀ x ∈ l, Pr x := by
  rcases open_slice ht h with ⟨rfl, _⟩ | ⟨a, len, cap, m', n, D, Pl, rfl, _, hl, hm, hmm, _, hi⟩
  · exact ⟨none, 0, 0, [], rfl, rfl, Sl.nil w m, by simp⟩
  · rw [if_pos rfl] at hmm
    obtain rfl : cap = m' := hmm.symm
    rw [hc] at hi
    have hex : ∀ i, ∃ x : α, i < cap → (Pr x ∧ ∀ j u, (f x)[j]? = some u → w.cell? ((a.add (i * m)).add j) = some u) := by
      intro i
      by_cases hic : i < cap
      · obtain ⟨cs', hc', ht'⟩ := hi i hic
        obtain ⟨x, rfl, hx⟩ := hel _ _ _ ht'
        obtain ⟨_, _, hat⟩ := World.cells?_some hc'
        refine ⟨x, fun _ => ⟨hx, fun j u hu => ?_⟩⟩
        have hj : j < m := by rw [← hfl x]; exact (List.getElem?_eq_some_iff.1 hu).1
        rw [hat j hj]
        exact hu
      · exact ⟨default, fun h => absurd h hic⟩
    obtain ⟨g, hg⟩ := Classical.axiomOfChoice hex
    have hlen : ((List.range len).map g).length = len := by rw [List.length_map, List.length_range]
    refine ⟨some a, len, cap, (List.range len).map g, rfl, hlen, ⟨fl_length hfl _, some a, cap, by rw [hlen], by rw [hlen]; exact hl, hm, ?_⟩, ?_⟩
    · by_cases h0 : len = 0
      · left; rw [hlen]; exact h0
      · right
        obtain ⟨b, off, spot⟩ := a
        have hspot : spot = none := by
          have h00 : 0 < (f (g 0)).length := by rw [hfl]; exact hm0
          have hs0 := (hg 0 (by omega)).2 0 _ (List.getElem?_eq_getElem h00)
          simpa [Addr.add] using World.cell?_spot hs0
        subst hspot
        refine ⟨b, off, rfl, fun j u hu => ?_⟩
        have hjl : j < len * m := by
          have := (List.getElem?_eq_some_iff.1 hu).1
          rwa [fl_length hfl, hlen] at this
        have hk : j / m < len := Nat.div_lt_of_lt_mul (by rw [Nat.mul_comm]; exact hjl)
        have hr : j % m < m := Nat.mod_lt _ hm0
        have hd : j / m * m + j % m = j := by rw [Nat.mul_comm]; exact Nat.div_add_mod j m
        have hk' : j / m < ((List.range len).map g).length := by rw [hlen]; exact hk
        have h1 := fl_get hfl ((List.range len).map g) (j / m) hk' (j % m) hr
        rw [hd, hu] at h1
        have h2 : ((List.range len).map g)[j / m] = g (j / m) := by rw [List.getElem_map, List.getElem_range]
        rw [h2] at h1
        have h3 := (hg (j / m) (by omega)).2 (j % m) u h1.symm
        rw [add_noneI, add_noneI, Nat.add_assoc, hd] at h3
        exact h3
    · intro x hx
      obtain ⟨i, hi1, rfl⟩ := List.mem_map.1 hx
      rw [List.mem_range] at hi1
      exact (hg i (by omega)).1

theorem open_ids {fuel : Nat} {cs : List Value} {x : DataW H × List MemPlace} (h : DataW.trod enc Tryz.prog w base (fun _ => true) held fuel 56 cs = some x) :
    ∃ (v : Value) (l : List Idn), cs = [v] ∧ Ids w v l ∧ ∀ i ∈ l, WfI i := by
  obtain ⟨o, len, cap, l, h1, h2, h3, h4⟩ := open_row idC WfI idC_len (by omega) Tryz.underlying56 cellsIdR (fun n cs y hy => id_cells hy) h
  exact ⟨_, l, h1, h3, h4⟩

/-- a volume's two cells, and what its blocks read as -/
def volP (w : World) (x : VC × List Idn) : Prop := Ids w x.1.sl x.2 ∧ (∀ i ∈ x.2, WfI i) ∧ x.1.nm.length ≤ 9223372036854775807

set_option maxRecDepth 100000 in
theorem vol_cells {n : Nat} {cs : List Value} {y : DataW H × List MemPlace} (h : DataW.trod enc Tryz.prog w base (fun _ => true) held n 58 cs = some y) : ∃ x : VC × List Idn, cs = vcC x.1 ∧ volP w x := by
  obtain ⟨xs, m, _, _, hl, hxl, hf⟩ := DataW.trod_struct Tryz.underlying58 h
  rw [cellsVolR] at hl
  match cs, hl with
  | [c0, c1], _ =>
    match xs, hxl with
    | [x0, x1], _ =>
      have f0 : DataW.trod enc Tryz.prog w base (fun _ => true) held m 9 [c0] = some x0 := by simpa [cellsStrI, cellsIdsR] using hf 0 _ rfl
      have f1 : DataW.trod enc Tryz.prog w base (fun _ => true) held m 56 [c1] = some x1 := by simpa [cellsStrI, cellsIdsR] using hf 1 _ rfl
      obtain ⟨t, ht, _, ht2⟩ := DataW.trod_string Tryz.underlying9 f0
      obtain ⟨v, l, hv, hi, hw⟩ := open_ids f1
      simp at ht hv
      subst ht hv
      refine ⟨(⟨t.data.toList, c1⟩, l), ?_, hi, hw, ?_⟩
      · unfold vcC; rw [bs_of]
      · show t.data.toList.length ≤ _
        rw [ba_length]
        unfold maxLen at ht2
        omega

theorem fl_fst : ∀ l : List (VC × List Idn), fl (fun x => vcC x.1) l = fl vcC (l.map (·.1))
  | [] => rfl
  | x :: r => by show vcC x.1 ++ _ = vcC x.1 ++ _; rw [fl_fst r]

theorem open_vols {fuel : Nat} {cs : List Value} {x : DataW H × List MemPlace} (h : DataW.trod enc Tryz.prog w base (fun _ => true) held fuel 23 cs = some x) :
    ∃ (v : Value) (l : List Vo), cs = [v] ∧ Vols w v l ∧ ∀ x ∈ l, (∀ i ∈ x.bl, WfI i) ∧ x.nm.length ≤ 9223372036854775807 := by
  obtain ⟨o, len, cap, l, h1, h2, h3, h4⟩ := open_row (fun x : VC × List Idn => vcC x.1) (volP w) (fun x => vcC_len x.1) (by omega) Tryz.underlying23 cellsVolR (fun n cs y hy => vol_cells hy) h
  refine ⟨_, l.map (fun x => ⟨x.1.nm, x.2⟩), h1, ⟨l.map (·.1), ?_, ⟨by simp, fun k hk => by simp, fun k hk => ?_⟩⟩, ?_⟩
  · unfold VCs
    rw [List.length_map, ← fl_fst]
    exact h3
  · simp only [List.getElem_map]
    exact (h4 _ (List.getElem_mem _)).1
  · intro x hx
    obtain ⟨y, hy, rfl⟩ := List.mem_map.1 hx
    exact (h4 y hy).2

set_option maxRecDepth 100000 in
theorem open_state {r : Reach} {b0 : Nat} {v : Value} {d : DataW H} {ps : List MemPlace} (hval : Value.okWide Tryz.prog w r b0 25 v) (hd : DataW.Trod enc Tryz.prog w base (fun _ => true) held 25 v d ps) :
    ∃ st : Sta, Stat w v st ∧ WfS st := by
  simp only [Value.okWide, Tryz.underlying25] at hval
  obtain ⟨cs, rfl, hsz, _⟩ := hval
  rw [cellsStaR] at hsz
  obtain ⟨fuel, hf⟩ := hd
  obtain ⟨xs, m, _, hx, hl, hxl, hf⟩ := DataW.trod_struct Tryz.underlying25 hf
  obtain ⟨l, hcl⟩ : ∃ l, cs = l.toArray := ⟨cs.toList, by simp⟩
  subst hcl
  match l, hsz with
  | [c0, c1], _ =>
    match xs, hxl with
    | [x0, x1], _ =>
      have f0 : DataW.trod enc Tryz.prog w base (fun _ => true) held m 22 [c0] = some x0 := by simpa [cellsItsR, cellsVosR, Value.cells] using hf 0 _ rfl
      have f1 : DataW.trod enc Tryz.prog w base (fun _ => true) held m 23 [c1] = some x1 := by simpa [cellsItsR, cellsVosR, Value.cells] using hf 1 _ rfl
      obtain ⟨o, n, c, b, hb, hb2⟩ := open_items f0
      obtain ⟨v, vs, hv, hv2, hv3⟩ := open_vols f1
      simp at hb hv
      subst hb hv
      exact ⟨⟨b, vs⟩, ⟨_, _, rfl, hb2, hv2⟩, hv3⟩

end

end Go.Proofs.YtakbmbiebkgkiaaGreatDoor

/-
  A deed that came in reads as a deed. Conditions: it can be read as data.
-/
namespace Go.Proofs.YtakbmbiebkgkiaaGreatDoor
open Go.RowKit
open Go.Proofs
open Go.ChangeShapes Go.WideShapes Go.Deep
open WoolVol

theorem cellsOp : Tryz.prog.cellsOf 27 = 5 := by kernel_rfl
theorem cellsIntO : Tryz.prog.cellsOf 3 = 1 := by kernel_rfl
theorem cellsStrO : Tryz.prog.cellsOf 9 = 1 := by kernel_rfl
theorem bytesOp : Tryz.prog.bytesOf 27 = 64 := by kernel_rfl

section
variable {H : Type} {enc : TypeId × Value → H} {w : World} {base : Nat} {spare : Nat → Bool} {held : Bool}

set_option maxRecDepth 100000 in
theorem op_cells {n : Nat} {cs : List Value} {y : DataW H × List MemPlace} (h : DataW.trod enc Tryz.prog w base spare held n 27 cs = some y) : ∃ x : Opn, cs = opC x ∧ OpWf x := by
  obtain ⟨xs, m, _, _, hl, hxl, hf⟩ := DataW.trod_struct Tryz.underlying27 h
  rw [cellsOp] at hl
  match cs, hl with
  | [c0, c1, c2, c3, c4], _ =>
    match xs, hxl with
    | [x0, x1, x2, x3, x4], _ =>
      have f0 : DataW.trod enc Tryz.prog w base spare held m 3 [c0] = some x0 := by simpa [cellsIntO, cellsStrO] using hf 0 _ rfl
      have f1 : DataW.trod enc Tryz.prog w base spare held m 9 [c1] = some x1 := by simpa [cellsIntO, cellsStrO] using hf 1 _ rfl
      have f2 : DataW.trod enc Tryz.prog w base spare held m 9 [c2] = some x2 := by simpa [cellsIntO, cellsStrO] using hf 2 _ rfl
      have f3 : DataW.trod enc Tryz.prog w base spare held m 3 [c3] = some x3 := by simpa [cellsIntO, cellsStrO] using hf 3 _ rfl
      have f4 : DataW.trod enc Tryz.prog w base spare held m 9 [c4] = some x4 := by simpa [cellsIntO, cellsStrO] using hf 4 _ rfl
      obtain ⟨k, hk, _, hw0⟩ := DataW.trod_int Tryz.underlying3 f0
      obtain ⟨t1, ht1, _, hw1⟩ := DataW.trod_string Tryz.underlying9 f1
      obtain ⟨t2, ht2, _, hw2⟩ := DataW.trod_string Tryz.underlying9 f2
      obtain ⟨k3, hk3, _, hw3⟩ := DataW.trod_int Tryz.underlying3 f3
      obtain ⟨t4, ht4, _, hw4⟩ := DataW.trod_string Tryz.underlying9 f4
      simp at hk ht1 ht2 hk3 ht4
      unfold maxLen at hw1 hw2 hw4
      refine ⟨⟨k, t1.data.toList, t2.data.toList, k3, t4.data.toList⟩, ?_, hw0, ?_, ?_, hw3, ?_⟩
      · unfold opC; rw [hk, ht1, ht2, hk3, ht4, bs_of, bs_of, bs_of]
      · show t1.data.toList.length ≤ _; rw [ba_length]; omega
      · show t2.data.toList.length ≤ _; rw [ba_length]; omega
      · show t4.data.toList.length ≤ _; rw [ba_length]; omega

set_option maxRecDepth 100000 in
theorem open_op {r : Reach} {b0 : Nat} {v : Value} {d : DataW H} {ps : List MemPlace} (hval : Value.okWide Tryz.prog w r b0 27 v) (hd : DataW.Trod enc Tryz.prog w base spare held 27 v d ps) :
    ∃ o : Opn, v = opA o ∧ OpWf o := by
  simp only [Value.okWide, Tryz.underlying27] at hval
  obtain ⟨cs, rfl, hsz, _⟩ := hval
  obtain ⟨fuel, hf⟩ := hd
  obtain ⟨o, ho, hw⟩ := op_cells hf
  refine ⟨o, ?_, hw⟩
  obtain ⟨l, hcl⟩ : ∃ l, cs = l.toArray := ⟨cs.toList, by simp⟩
  subst hcl
  have e : l = opC o := by simpa [Value.cells] using ho
  subst e
  rfl

end

end Go.Proofs.YtakbmbiebkgkiaaGreatDoor
