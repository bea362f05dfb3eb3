/-
  The texts VolP, VolQ, one behind the other; each says below what it holds and on what conditions.
-/
import Derived.Test.YtnmdfdkagkpcaaaJVolOwn08
import Derived.Test.YtnmdfdkagkpcaaaJVolOwn09

/-
  Valid states, in plain words: what Check's zero says. Conditions: as each says.
-/
namespace WoolVol
open WoolBag

variable {F : List UInt8 → Int}

/-- a valid state -/
structure Good (F : List UInt8 → Int) (st : Sta) : Prop where
  bag : Bag F st.b
  len : st.v.length ≤ 6
  vol : ∀ v ∈ st.v, nameB v.nm = true ∧ v.bl.length ≤ 32 ∧ ∀ i ∈ v.bl, errB st.b i = 0
  ord : st.v.Pairwise (fun a b => slt a.nm b.nm = true)
  refs : ∀ x ∈ st.b, x.r = cnt (ids st.v) (idOf x)

theorem chkV_zero {l : List Itm} {p : List UInt8} {x : Vo} : chkV l p x = 0 ↔ (nameB x.nm = true ∧ x.bl.length ≤ 32 ∧ ∀ i ∈ x.bl, errB l i = 0) ∧ slt p x.nm = true := by
  unfold chkV
  rw [← sle_not]
  cases hn : nameB x.nm with
  | false => simp
  | true =>
    cases hs : sle x.nm p with
    | true => simp
    | false =>
      simp only [Bool.not_true, Bool.or_self, Bool.false_eq_true, if_false, Bool.not_false, and_true, true_and]
      by_cases h2 : 32 < x.bl.length
      · rw [if_pos h2]
        constructor
        · intro h; omega
        · intro h; omega
      · rw [if_neg h2, chkB_zero]
        constructor
        · intro h; exact ⟨by omega, h⟩
        · intro h; exact h.2

theorem chkVs_zero {l : List Itm} : ∀ {vs : List Vo} {p : List UInt8}, chkVs l p vs = 0 ↔ (∀ v ∈ vs, nameB v.nm = true ∧ v.bl.length ≤ 32 ∧ ∀ i ∈ v.bl, errB l i = 0) ∧ (∀ v ∈ vs, slt p v.nm = true) ∧ vs.Pairwise (fun a b => slt a.nm b.nm = true)
  | [], p => by simp [chkVs]
  | v :: r, p => by
    have e : chkVs l p (v :: r) = 0 ↔ chkV l p v = 0 ∧ chkVs l v.nm r = 0 := by
      have e2 : chkVs l p (v :: r) = if chkV l p v = 0 then chkVs l v.nm r else chkV l p v := rfl
      rw [e2]
      by_cases h : chkV l p v = 0
      · rw [if_pos h]; simp [h]
      · rw [if_neg h]; simp [h]
    rw [e, chkV_zero, chkVs_zero (vs := r)]
    constructor
    · rintro ⟨⟨h1, h2⟩, h3, h4, h5⟩
      refine ⟨?_, ?_, List.pairwise_cons.2 ⟨h4, h5⟩⟩
      · intro x hx
        rcases List.mem_cons.1 hx with rfl | hx
        · exact h1
        · exact h3 x hx
      · intro x hx
        rcases List.mem_cons.1 hx with rfl | hx
        · exact h2
        · exact slt_trans h2 (h4 x hx)
    · rintro ⟨h1, h2, h3⟩
      obtain ⟨h4, h5⟩ := List.pairwise_cons.1 h3
      exact ⟨⟨h1 v (by simp), h2 v (by simp)⟩, fun x hx => h1 x (by simp [hx]), h4, h5⟩

theorem slt_nil {s : List UInt8} (h : nameB s = true) : slt [] s = true := by
  cases s with
  | nil => simp [nameB] at h
  | cons a r => rfl

theorem chkS_zero {st : Sta} : chkS F st = 0 ↔ Good F st := by
  unfold chkS
  constructor
  · intro h
    by_cases h0 : chk F st.b ≠ 0
    · rw [if_pos h0] at h; exact absurd h h0
    rw [if_neg h0] at h
    by_cases h1 : 6 < st.v.length
    · rw [if_pos h1] at h; omega
    rw [if_neg h1] at h
    by_cases h2 : chkVs st.b [] st.v ≠ 0
    · rw [if_pos h2] at h; exact absurd h h2
    rw [if_neg h2] at h
    have h2' : chkVs st.b [] st.v = 0 := by omega
    obtain ⟨a1, _, a3⟩ := chkVs_zero.1 h2'
    refine ⟨(chk_zero F).1 (by omega), by omega, a1, a3, ?_⟩
    cases hr : refsB st.b (ids st.v) with
    | false => rw [hr] at h; simp at h
    | true =>
      unfold refsB at hr
      rw [List.all_eq_true] at hr
      intro x hx
      exact by simpa using hr x hx
  · intro g
    rw [if_neg (by rw [(chk_zero F).2 g.bag]; simp), if_neg (by have := g.len; omega), if_neg (by rw [chkVs_zero.2 ⟨g.vol, fun v hv => slt_nil (g.vol v hv).1, g.ord⟩]; simp), if_pos]
    unfold refsB
    rw [List.all_eq_true]
    intro x hx
    simpa using g.refs x hx

theorem Good.nm_inj {st : Sta} (g : Good F st) {i j : Nat} (hi : i < st.v.length) (hj : j < st.v.length) (e : st.v[i].nm = st.v[j].nm) : i = j := by
  have h := List.pairwise_iff_getElem.1 g.ord
  rcases Nat.lt_trichotomy i j with h1 | h1 | h1
  · have := h i j hi hj h1; rw [e, slt_irrefl] at this; cases this
  · exact h1
  · have := h j i hj hi h1; rw [e, slt_irrefl] at this; cases this

theorem errB_in {l : List Itm} {i : Idn} (h : errB l i = 0) (hi : i.1 = true) : ∃ x ∈ l, i = idOf x := by
  unfold errB at h
  rw [if_neg (by simp [hi])] at h
  cases hh : l.any (idB i) with
  | true =>
    rw [List.any_eq_true] at hh
    obtain ⟨x, hx, hx2⟩ := hh
    exact ⟨x, hx, idB_iff.1 hx2⟩
  | false => rw [hi, hh] at h; simp at h

theorem errB_hole {l : List Itm} {i : Idn} (h : errB l i = 0) (hi : i.1 = false) : i = noId := by
  unfold errB at h
  rw [hi] at h
  cases hh : (i == noId) with
  | true => simpa using hh
  | false => rw [hh] at h; simp at h

end WoolVol

/-
  Valid states, in plain words: trimming and writing keep a state valid, and every other text. Conditions: as each says.
-/
namespace WoolVol
open WoolBag

variable {F : List UInt8 → Int}

/-- the item of an identifier, its references, its text -/
def it (b : List Itm) (i : Idn) : Option Itm := b.find? (idB i)
def rf (b : List Itm) (i : Idn) : Int := match it b i with | some x => x.r | none => 0
def tx (b : List Itm) (i : Idn) : Option (List UInt8) := match it b i with | some x => some x.t | none => none

theorem it_some {b : List Itm} (hb : Bag F b) {i : Idn} {x : Itm} : it b i = some x ↔ x ∈ b ∧ i = idOf x := by
  unfold it
  constructor
  · intro h
    exact ⟨List.mem_of_find?_eq_some h, idB_iff.1 (List.find?_some h)⟩
  · rintro ⟨hx, hi⟩
    cases hf : b.find? (idB i) with
    | none =>
      have := List.find?_eq_none.1 hf x hx
      exact absurd (idB_iff.2 hi) this
    | some y =>
      have hy := List.mem_of_find?_eq_some hf
      have hyi := idB_iff.1 (List.find?_some hf)
      rw [hb.id_mem hy hx (hyi.symm.trans hi)]

theorem it_none {b : List Itm} {i : Idn} : it b i = none ↔ ∀ x ∈ b, i ≠ idOf x := by
  unfold it
  rw [List.find?_eq_none]
  constructor
  · intro h x hx e; exact h x hx (idB_iff.2 e)
  · intro h x hx e; exact h x hx (idB_iff.1 e)

theorem it_eq {b b' : List Itm} (hb : Bag F b) (hb' : Bag F b') {i : Idn} (h : ∀ x, idOf x = i → (x ∈ b' ↔ x ∈ b)) : it b' i = it b i := by
  cases e : it b i with
  | some x =>
    rw [it_some hb] at e
    rw [it_some hb']
    exact ⟨(h x e.2.symm).2 e.1, e.2⟩
  | none =>
    rw [it_none] at e ⊢
    intro x hx hi
    exact e x ((h x hi.symm).1 hx) hi

theorem mem_set_other {l : List Itm} {k : Nat} (hk : k < l.length) {x y : Itm} (hy : idOf y = idOf l[k]) (hx : idOf x ≠ idOf l[k]) : x ∈ l.set k y ↔ x ∈ l := by
  constructor
  · intro h
    rcases List.mem_or_eq_of_mem_set h with h | h
    · exact h
    · subst h; exact absurd hy hx
  · intro h
    obtain ⟨j, hj, rfl⟩ := List.getElem_of_mem h
    have hne : k ≠ j := by rintro rfl; exact hx rfl
    have hj' : j < (l.set k y).length := by rw [List.length_set]; exact hj
    have := List.getElem_mem hj'
    rwa [List.getElem_set_ne hne] at this

theorem mem_erase_other {l : List Itm} {k : Nat} (hk : k < l.length) {x : Itm} (hx : idOf x ≠ idOf l[k]) : x ∈ l.eraseIdx k ↔ x ∈ l := by
  rw [List.mem_eraseIdx_iff_getElem]
  constructor
  · rintro ⟨j, hj, _, rfl⟩; exact List.getElem_mem hj
  · intro h
    obtain ⟨j, hj, rfl⟩ := List.getElem_of_mem h
    exact ⟨j, hj, by rintro rfl; exact hx rfl, rfl⟩

/-- what a reference taken leaves -/
theorem it_drop {b b' : List Itm} {i : Idn} (h : drop F b i = (b', 0)) : Bag F b ∧ Bag F b' ∧ (∀ q, q ≠ i → it b' q = it b q) ∧ ∃ x, it b i = some x ∧ ((x.r = 1 ∧ it b' i = none) ∨ (x.r ≠ 1 ∧ it b' i = some (more x (-1)))) := by
  have hb' := drop_bag h
  obtain ⟨hb, k, hk, rfl, hc⟩ := drop_ok h
  have hx : it b (idOf b[k]) = some b[k] := (it_some hb).2 ⟨List.getElem_mem hk, rfl⟩
  rcases hc with ⟨hr, rfl⟩ | ⟨hr, rfl⟩
  · refine ⟨hb, hb', fun q hq => it_eq hb hb' fun x e => mem_erase_other hk (by rw [e]; exact hq), b[k], hx, .inl ⟨hr, ?_⟩⟩
    rw [it_none]
    intro x hx2 e
    rw [List.mem_eraseIdx_iff_getElem] at hx2
    obtain ⟨j, hj, hne, rfl⟩ := hx2
    exact hne (hb.id_inj hj hk e.symm)
  · refine ⟨hb, hb', fun q hq => it_eq hb hb' fun x e => mem_set_other hk rfl (by rw [e]; exact hq), b[k], hx, .inr ⟨hr, ?_⟩⟩
    rw [it_some hb']
    refine ⟨?_, rfl⟩
    have hj' : k < (b.set k (more b[k] (-1))).length := by rw [List.length_set]; exact hk
    have := List.getElem_mem hj'
    rwa [List.getElem_set_self] at this

/-- what a text put leaves -/
theorem it_put {b b' : List Itm} {t : List UInt8} {i : Idn} (h : put F b t = (b', i, 0)) : i.1 = true ∧ Bag F b' ∧ (∀ q, q ≠ i → it b' q = it b q) ∧ (∀ x, it b i = some x → x.t = t) ∧ ∃ y, it b' i = some y ∧ y.t = t ∧ y.r = rf b i + 1 := by
  have hb' := (put_spec h).1
  obtain ⟨hb, ht, ⟨k, hk, hkt, hr, rfl, rfl⟩ | ⟨hn, h64, rfl, rfl⟩⟩ := put_ok h
  · have hx : it b (idOf b[k]) = some b[k] := (it_some hb).2 ⟨List.getElem_mem hk, rfl⟩
    refine ⟨rfl, hb', fun q hq => it_eq hb hb' fun x e => mem_set_other hk rfl (by rw [e]; exact hq), fun x hx2 => (by rw [hx] at hx2; cases hx2; exact hkt), more b[k] 1, ?_, hkt, ?_⟩
    · rw [it_some hb']
      refine ⟨?_, rfl⟩
      have hj' : k < (b.set k (more b[k] 1)).length := by rw [List.length_set]; exact hk
      have := List.getElem_mem hj'
      rwa [List.getElem_set_self] at this
    · unfold rf; rw [hx]; rfl
  · have hnone : it b (idOf (new F b t)) = none := by
      rw [it_none]
      intro x hx e
      exact new_id b t x hx (by have := id_eq.1 e; exact ⟨this.1.symm, this.2.symm⟩)
    refine ⟨rfl, hb', fun q hq => it_eq hb hb' fun x e => ?_, fun x hx2 => (by rw [hnone] at hx2; cases hx2), new F b t, ?_, rfl, ?_⟩
    · rw [mem_ins]
      constructor
      · rintro (rfl | h)
        · exact absurd e.symm hq
        · exact h
      · exact .inr
    · rw [it_some hb']
      exact ⟨mem_ins.2 (.inl rfl), rfl⟩
    · unfold rf; rw [hnone]; rfl

theorem cnt_cons (a : Idn) (r : List Idn) (i : Idn) : cnt (a :: r) i = (if a = i then 1 else 0) + cnt r i := by
  unfold cnt
  by_cases h : a = i
  · simp [h]; omega
  · simp [h]

theorem cnt_set : ∀ (bl : List Idn) (j : Nat) (hj : j < bl.length) (y i : Idn), cnt (bl.set j y) i = cnt bl i - (if bl[j] = i then 1 else 0) + (if y = i then 1 else 0)
  | [], j, hj, _, _ => by simp at hj
  | a :: r, 0, hj, y, i => by simp only [List.set_cons_zero, cnt_cons, List.getElem_cons_zero]; omega
  | a :: r, j + 1, hj, y, i => by
    simp only [List.set_cons_succ, cnt_cons, List.getElem_cons_succ]
    rw [cnt_set r j (by simpa using hj) y i]; omega

theorem cnt_ids_cons (x : Vo) (l : List Vo) (i : Idn) : cnt (ids (x :: l)) i = cnt x.bl i + cnt (ids l) i := by
  have : ids (x :: l) = x.bl ++ ids l := by unfold ids; simp
  rw [this, cnt_append]

theorem cnt_ids_set : ∀ (l : List Vo) (k : Nat) (hk : k < l.length) (x : Vo) (i : Idn), cnt (ids (l.set k x)) i = cnt (ids l) i - cnt l[k].bl i + cnt x.bl i
  | [], k, hk, _, _ => by simp at hk
  | a :: r, 0, hk, x, i => by simp only [List.set_cons_zero, cnt_ids_cons, List.getElem_cons_zero]; omega
  | a :: r, k + 1, hk, x, i => by
    simp only [List.set_cons_succ, cnt_ids_cons, List.getElem_cons_succ]
    rw [cnt_ids_set r k (by simpa using hk) x i]; omega

theorem setB_eq {l : List Vo} {k j : Nat} {y : Idn} (hk : k < l.length) : setB l k j y = l.set k ⟨l[k].nm, l[k].bl.set j y⟩ := by
  unfold setB; rw [getElem!_pos l k hk]

theorem cnt_setB {l : List Vo} {k j : Nat} {y : Idn} (hk : k < l.length) (hj : j < l[k].bl.length) (i : Idn) : cnt (ids (setB l k j y)) i = cnt (ids l) i - (if l[k].bl[j] = i then 1 else 0) + (if y = i then 1 else 0) := by
  rw [setB_eq hk, cnt_ids_set l k hk, cnt_set _ j hj]; omega

theorem cnt_mem {l : List Idn} {i : Idn} : i ∈ l ↔ cnt l i ≠ 0 := by
  induction l with
  | nil => simp [cnt]
  | cons a r ih =>
    rw [cnt_cons, List.mem_cons, ih]
    have := cnt_nonneg r i
    by_cases h : a = i
    · subst h; simp; omega
    · have h2 : i ≠ a := fun e => h e.symm
      simp [h, h2]

theorem mem_ids {l : List Vo} {i : Idn} : i ∈ ids l ↔ ∃ v ∈ l, i ∈ v.bl := by
  unfold ids
  rw [List.mem_flatten]
  constructor
  · rintro ⟨l', h1, h2⟩
    obtain ⟨v, hv, rfl⟩ := List.mem_map.1 h1
    exact ⟨v, hv, h2⟩
  · rintro ⟨v, hv, h2⟩
    exact ⟨_, List.mem_map.2 ⟨v, hv, rfl⟩, h2⟩

/-- a valid state, by counts -/
structure GoodR (F : List UInt8 → Int) (st : Sta) : Prop where
  bag : Bag F st.b
  len : st.v.length ≤ 6
  vol : ∀ v ∈ st.v, nameB v.nm = true ∧ v.bl.length ≤ 32 ∧ ∀ i ∈ v.bl, i.1 = false → i = noId
  ord : st.v.Pairwise (fun a b => slt a.nm b.nm = true)
  refs : ∀ i : Idn, i.1 = true → cnt (ids st.v) i = rf st.b i

theorem Good.byCount {st : Sta} (g : Good F st) : GoodR F st := by
  refine ⟨g.bag, g.len, fun v hv => ⟨(g.vol v hv).1, (g.vol v hv).2.1, fun i hi h => errB_hole ((g.vol v hv).2.2 i hi) h⟩, g.ord, fun i hi => ?_⟩
  unfold rf
  cases e : it st.b i with
  | some x =>
    obtain ⟨hx, rfl⟩ := (it_some g.bag).1 e
    exact (g.refs x hx).symm
  | none =>
    apply Classical.byContradiction
    intro hc
    obtain ⟨v, hv, hiv⟩ := mem_ids.1 (cnt_mem.2 hc)
    obtain ⟨x, hx, hxe⟩ := errB_in ((g.vol v hv).2.2 i hiv) hi
    exact it_none.1 e x hx hxe

theorem GoodR.there {st : Sta} (g : GoodR F st) {v : Vo} {i : Idn} (hv : v ∈ st.v) (hi : i ∈ v.bl) (h1 : i.1 = true) : ∃ x, it st.b i = some x := by
  have h := g.refs i h1
  have hc := cnt_mem.1 (mem_ids.2 ⟨v, hv, hi⟩)
  unfold rf at h
  cases e : it st.b i with
  | some x => exact ⟨x, rfl⟩
  | none => rw [e] at h; exact absurd h hc

theorem GoodR.good {st : Sta} (g : GoodR F st) : Good F st := by
  refine ⟨g.bag, g.len, fun v hv => ⟨(g.vol v hv).1, (g.vol v hv).2.1, fun i hi => ?_⟩, g.ord, fun x hx => ?_⟩
  · unfold errB
    cases h1 : i.1 with
    | false =>
      rw [(g.vol v hv).2.2 i hi h1]
      rfl
    | true =>
      obtain ⟨x, hx⟩ := g.there hv hi h1
      obtain ⟨hxb, rfl⟩ := (it_some g.bag).1 hx
      have : st.b.any (idB (idOf x)) = true := List.any_eq_true.2 ⟨x, hxb, idB_iff.2 rfl⟩
      rw [this]
      rfl
  · have h := g.refs (idOf x) rfl
    have e : it st.b (idOf x) = some x := (it_some g.bag).2 ⟨hx, rfl⟩
    unfold rf at h
    rw [e] at h
    exact h.symm

theorem drop_there {b : List Itm} (hb : Bag F b) {i : Idn} {x : Itm} (h : it b i = some x) : ∃ b', drop F b i = (b', 0) := by
  obtain ⟨hx, rfl⟩ := (it_some hb).1 h
  obtain ⟨k, hk, rfl⟩ := List.getElem_of_mem hx
  unfold drop
  rw [find_mem hb hk]
  exact ⟨_, rfl⟩

/-- what a reference taken leaves, of a hole too -/
theorem it_rel {b : List Itm} (hb : Bag F b) {i : Idn} (h : i.1 = true → ∃ x, it b i = some x) : Bag F (rel F b [i]) ∧ (∀ q, ¬ (i.1 = true ∧ q = i) → it (rel F b [i]) q = it b q) ∧ (i.1 = true → ∃ x, it b i = some x ∧ ((x.r = 1 ∧ it (rel F b [i]) i = none) ∨ (x.r ≠ 1 ∧ it (rel F b [i]) i = some (more x (-1))))) := by
  have e : rel F b [i] = if i.1 then (drop F b i).1 else b := rfl
  cases h1 : i.1 with
  | false =>
    rw [h1] at e
    simp only [Bool.false_eq_true, if_false] at e
    rw [e]
    exact ⟨hb, fun q _ => rfl, fun h => by cases h⟩
  | true =>
    obtain ⟨x, hx⟩ := h h1
    obtain ⟨b', hd⟩ := drop_there hb hx
    obtain ⟨_, k1, k2, k3⟩ := it_drop hd
    rw [h1, hd] at e
    simp only [if_true] at e
    rw [e]
    exact ⟨k1, fun q hq => k2 q (fun e => hq ⟨rfl, e⟩), fun _ => k3⟩

/-- the text at a place -/
def txAt (st : Sta) (q p : Nat) : Option (List UInt8) := if (blk st q p).1 then tx st.b (blk st q p) else none

theorem blk_eq {st : Sta} {q p : Nat} (hq : q < st.v.length) (hp : p < st.v[q].bl.length) : blk st q p = st.v[q].bl[p] := by
  unfold blk; rw [getElem!_pos st.v q hq, getElem!_pos _ p hp]

theorem blk_setB {b b' : List Itm} {l : List Vo} {k j q p : Nat} {y : Idn} (hk : k < l.length) (hq : q < l.length) (hp : p < l[q].bl.length) : blk ⟨b', setB l k j y⟩ q p = if q = k ∧ p = j then y else blk ⟨b, l⟩ q p := by
  unfold blk
  simp only
  rw [setB_eq hk, getElem!_pos (l.set k _) q (by rw [List.length_set]; exact hq), getElem!_pos l q hq, List.getElem_set]
  by_cases e : k = q
  · subst e
    rw [if_pos rfl, getElem!_pos (l[k].bl.set j y) p (by rw [List.length_set]; exact hp), List.getElem_set, getElem!_pos l[k].bl p hp]
    by_cases e2 : j = p
    · subst e2; simp
    · rw [if_neg e2, if_neg (fun h => e2 h.2.symm)]
  · rw [if_neg e, if_neg (fun h => e h.1.symm)]

/-- a state of which one place has turned -/
structure Keeps (F : List UInt8 → Int) (st st' : Sta) (k j : Nat) (o : Option (List UInt8)) : Prop where
  good : Good F st'
  len : st'.v.length = st.v.length
  vol : ∀ q (h : q < st.v.length) (h' : q < st'.v.length), st'.v[q].nm = st.v[q].nm ∧ st'.v[q].bl.length = st.v[q].bl.length
  txt : ∀ q p (h : q < st.v.length), p < st.v[q].bl.length → txAt st' q p = if q = k ∧ p = j then o else txAt st q p

theorem set_vol {l : List Vo} {k j : Nat} {y : Idn} (hk : k < l.length) (q : Nat) (h : q < l.length) (h' : q < (setB l k j y).length) : (setB l k j y)[q].nm = l[q].nm ∧ (setB l k j y)[q].bl.length = l[q].bl.length := by
  have h2 : ∀ (m : List Vo) (_ : m = l.set k ⟨l[k].nm, l[k].bl.set j y⟩) (hm : q < m.length), m[q].nm = l[q].nm ∧ m[q].bl.length = l[q].bl.length := by
    rintro m rfl hm
    rw [List.getElem_set]
    split
    · rename_i e; subst e; exact ⟨rfl, by rw [List.length_set]⟩
    · exact ⟨rfl, rfl⟩
  exact h2 _ (setB_eq hk) _

theorem len_setB (l : List Vo) (k j : Nat) (y : Idn) : (setB l k j y).length = l.length := by unfold setB; rw [List.length_set]

/-- valid again, once the counts are right -/
theorem GoodR.setB {st : Sta} (g : GoodR F st) {k j : Nat} {y : Idn} {b' : List Itm} (hk : k < st.v.length) (hj : j < st.v[k].bl.length) (hb : Bag F b') (hy : y.1 = false → y = noId)
    (hr : ∀ i : Idn, i.1 = true → rf b' i = rf st.b i - (if st.v[k].bl[j] = i then 1 else 0) + (if y = i then 1 else 0)) : GoodR F ⟨b', WoolVol.setB st.v k j y⟩ := by
  refine ⟨hb, by show (WoolVol.setB st.v k j y).length ≤ 6; rw [len_setB]; exact g.len, ?_, ?_, ?_⟩
  · intro v hv
    change v ∈ WoolVol.setB st.v k j y at hv
    rw [setB_eq hk] at hv
    rcases List.mem_or_eq_of_mem_set hv with hv | rfl
    · exact g.vol v hv
    · have h1 := g.vol _ (List.getElem_mem hk)
      refine ⟨h1.1, by rw [List.length_set]; exact h1.2.1, fun i hi hf => ?_⟩
      rcases List.mem_or_eq_of_mem_set hi with hi | rfl
      · exact h1.2.2 i hi hf
      · exact hy hf
  · have ho := List.pairwise_iff_getElem.1 g.ord
    refine List.pairwise_iff_getElem.2 fun a c ha hc hac => ?_
    have ha' : a < st.v.length := by have h2 : a < (WoolVol.setB st.v k j y).length := ha; rwa [len_setB] at h2
    have hc' : c < st.v.length := by have h2 : c < (WoolVol.setB st.v k j y).length := hc; rwa [len_setB] at h2
    have := ho a c ha' hc' hac
    rw [← (set_vol (y := y) (j := j) hk a ha' ha).1, ← (set_vol (y := y) (j := j) hk c hc' hc).1] at this
    exact this
  · intro i hi
    show cnt (ids (WoolVol.setB st.v k j y)) i = _
    rw [cnt_setB hk hj, g.refs i hi]
    exact (hr i hi).symm

theorem trim_keeps {st : Sta} (g : Good F st) {k j : Nat} (hk : k < st.v.length) (hj : j < st.v[k].bl.length) : Keeps F st ⟨rel F st.b [st.v[k].bl[j]], setB st.v k j noId⟩ k j none := by
  have gr := g.byCount
  have hth : st.v[k].bl[j].1 = true → ∃ x, it st.b st.v[k].bl[j] = some x := fun h => gr.there (List.getElem_mem hk) (List.getElem_mem hj) h
  obtain ⟨hb, ho, hs⟩ := it_rel g.bag hth
  have gT : GoodR F ⟨rel F st.b [st.v[k].bl[j]], setB st.v k j noId⟩ := by
    refine gr.setB hk hj hb (fun _ => rfl) fun i hi => ?_
    rw [if_neg (show ¬ noId = i by intro e; rw [← e] at hi; cases hi)]
    by_cases e : st.v[k].bl[j] = i
    · subst e
      rw [if_pos rfl]
      obtain ⟨x, hx, h | h⟩ := hs hi
      · unfold rf; rw [hx, h.2]; show (0 : Int) = x.r - 1 + 0; omega
      · unfold rf; rw [hx, h.2]; show x.r + -1 = x.r - 1 + 0; omega
    · rw [if_neg e]
      unfold rf
      rw [ho i (fun h => e h.2.symm)]
      omega
  refine ⟨gT.good, len_setB _ _ _ _, fun q h h' => set_vol hk q h h', fun q p hq hp => ?_⟩
  unfold txAt
  have hbk : blk ⟨rel F st.b [st.v[k].bl[j]], setB st.v k j noId⟩ q p = if q = k ∧ p = j then noId else blk st q p := blk_setB (b := st.b) hk hq hp
  by_cases e : q = k ∧ p = j
  · rw [if_pos e] at hbk
    rw [hbk, if_pos e]; rfl
  · rw [if_neg e] at hbk
    rw [hbk, if_neg e]
    cases h1 : (blk st q p).1 with
    | false => rfl
    | true =>
      simp only [if_true]
      by_cases e2 : st.v[k].bl[j] = blk st q p
      · have hq' : q < (setB st.v k j noId).length := by rw [len_setB]; exact hq
        have hp' : p < ((setB st.v k j noId)[q]'hq').bl.length := by rw [(set_vol hk q hq hq').2]; exact hp
        have hm := blk_eq (st := ⟨rel F st.b [st.v[k].bl[j]], setB st.v k j noId⟩) hq' hp'
        rw [hbk] at hm
        obtain ⟨y, hy⟩ := gT.there (List.getElem_mem hq') (i := blk st q p) (by rw [hm]; exact List.getElem_mem hp') h1
        rw [← e2] at hy h1 ⊢
        obtain ⟨x, hx, h | h⟩ := hs h1
        · change it (rel F st.b [st.v[k].bl[j]]) _ = _ at hy
          rw [h.2] at hy; cases hy
        · unfold tx; rw [hx, h.2]; rfl
      · unfold tx; rw [ho _ (fun h => e2 h.2.symm)]

theorem put_keeps {T : Sta} (g : Good F T) {k j : Nat} (hk : k < T.v.length) (hj : j < T.v[k].bl.length) (h0 : T.v[k].bl[j] = noId) {t : List UInt8} {b' : List Itm} {i : Idn} (h : put F T.b t = (b', i, 0)) : Keeps F T ⟨b', setB T.v k j i⟩ k j (some t) := by
  have gr := g.byCount
  obtain ⟨hi1, hb, ho, hsame, y, hy, hyt, hyr⟩ := it_put h
  have gT : GoodR F ⟨b', setB T.v k j i⟩ := by
    refine gr.setB hk hj hb (fun h => by rw [hi1] at h; cases h) fun q hq => ?_
    rw [h0, if_neg (show ¬ noId = q by intro e; rw [← e] at hq; cases hq)]
    by_cases e : i = q
    · subst e
      rw [if_pos rfl]
      have : rf b' i = y.r := by unfold rf; rw [hy]
      rw [this, hyr]; omega
    · rw [if_neg e]
      unfold rf
      rw [ho q (fun e2 => e e2.symm)]; omega
  refine ⟨gT.good, len_setB _ _ _ _, fun q h h' => set_vol hk q h h', fun q p hq hp => ?_⟩
  unfold txAt
  have hbk : blk ⟨b', setB T.v k j i⟩ q p = if q = k ∧ p = j then i else blk T q p := blk_setB (b := T.b) hk hq hp
  by_cases e : q = k ∧ p = j
  · rw [if_pos e] at hbk
    rw [hbk, if_pos e, hi1]
    simp only [if_true]
    unfold tx; rw [hy]; show some y.t = some t; rw [hyt]
  · rw [if_neg e] at hbk
    rw [hbk, if_neg e]
    cases h1 : (blk T q p).1 with
    | false => rfl
    | true =>
      simp only [if_true]
      by_cases e2 : blk T q p = i
      · have hm := blk_eq (st := T) hq hp
        obtain ⟨x, hx⟩ := gr.there (List.getElem_mem hq) (i := blk T q p) (by rw [hm]; exact List.getElem_mem hp) h1
        rw [e2] at hx ⊢
        unfold tx
        rw [hx, hy]
        show some y.t = some x.t
        rw [hyt, hsame x hx]
      · unfold tx; rw [ho _ e2]

theorem Keeps.trans {a b c : Sta} {k j : Nat} {o o' : Option (List UInt8)} (h : Keeps F a b k j o) (h' : Keeps F b c k j o') : Keeps F a c k j o' := by
  refine ⟨h'.good, h'.len.trans h.len, fun q hq hq' => ?_, fun q p hq hp => ?_⟩
  · have hqb : q < b.v.length := by rw [h.len]; exact hq
    exact ⟨(h'.vol q hqb hq').1.trans (h.vol q hq hqb).1, (h'.vol q hqb hq').2.trans (h.vol q hq hqb).2⟩
  · have hqb : q < b.v.length := by rw [h.len]; exact hq
    rw [h'.txt q p hqb (by rw [(h.vol q hq hqb).2]; exact hp), h.txt q p hq hp]
    by_cases e : q = k ∧ p = j
    · rw [if_pos e, if_pos e]
    · rw [if_neg e, if_neg e, if_neg e]

theorem write_keeps {st : Sta} (g : Good F st) {k j : Nat} (hk : k < st.v.length) (hj : j < st.v[k].bl.length) {t : List UInt8} {b' : List Itm} {i : Idn} (h : put F (rel F st.b [st.v[k].bl[j]]) t = (b', i, 0)) : Keeps F st ⟨b', setB (setB st.v k j noId) k j i⟩ k j (some t) := by
  have h1 := trim_keeps g hk hj
  have hk' : k < (setB st.v k j noId).length := by rw [len_setB]; exact hk
  have hj' : j < ((setB st.v k j noId)[k]'hk').bl.length := by rw [(set_vol hk k hk hk').2]; exact hj
  have h0 : ((setB st.v k j noId)[k]'hk').bl[j] = noId := by
    have e := blk_eq (st := ⟨st.b, setB st.v k j noId⟩) hk' hj'
    rw [blk_setB (b := st.b) hk hk hj, if_pos ⟨rfl, rfl⟩] at e
    exact e.symm
  exact h1.trans (put_keeps (T := ⟨rel F st.b [st.v[k].bl[j]], setB st.v k j noId⟩) h1.good hk' hj' h0 h)

/-- the text at a place of a valid state, by the bag's Get -/
theorem get_tx {st : Sta} (g : Good F st) {k j : Nat} (hk : k < st.v.length) (hj : j < st.v[k].bl.length) : (if (blk st k j).1 then get F st.b (blk st k j) else ([], 0)) = ((txAt st k j).getD [], 0) := by
  have gr := g.byCount
  unfold txAt
  cases h1 : (blk st k j).1 with
  | false => rfl
  | true =>
    simp only [if_true]
    obtain ⟨x, hx⟩ := gr.there (List.getElem_mem hk) (i := blk st k j) (by rw [blk_eq hk hj]; exact List.getElem_mem hj) h1
    unfold tx
    rw [hx]
    obtain ⟨hxb, he⟩ := (it_some g.bag).1 hx
    rw [he, get_mem g.bag hxb]
    rfl

theorem tx_is {st : Sta} (g : Good F st) {k j : Nat} (hk : k < st.v.length) (hj : j < st.v[k].bl.length) : (txAt st k j).isSome = (st.v[k].bl[j]).1 := by
  have gr := g.byCount
  have hb := blk_eq hk hj
  unfold txAt
  rw [hb]
  cases h1 : (st.v[k].bl[j]).1 with
  | false => rfl
  | true =>
    simp only [if_true]
    obtain ⟨x, hx⟩ := gr.there (List.getElem_mem hk) (List.getElem_mem hj) h1
    unfold tx
    rw [hx]
    rfl

end WoolVol
