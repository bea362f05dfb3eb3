/-
  The texts BagP, VolP, one behind the other; each says below what it holds and on what conditions.
-/
import Derived.Test.YtbeigaanlhaolaaGreatDoorJB03

/-
  What holds of bags as lists, by whatever fingerprint: Put keeps a bag right, what is put is found, Drop undoes Put, others stay. Conditions: as each says.
-/
namespace WoolBag

variable {F : List UInt8 → Int}

theorem Bag.nil : Bag F [] := ⟨by simp, by simp, List.Pairwise.nil, List.Pairwise.nil⟩

theorem id_eq {x y : Itm} : idOf x = idOf y ↔ x.s = y.s ∧ x.n = y.n := by unfold idOf; simp

theorem idB_iff {i : Bool × Int × Int} {y : Itm} : idB i y = true ↔ i = idOf y := by
  obtain ⟨b, s, n⟩ := i
  unfold idB idOf
  simp
  constructor
  · rintro ⟨⟨rfl, rfl⟩, rfl⟩; exact ⟨rfl, rfl, rfl⟩
  · rintro ⟨rfl, rfl, rfl⟩; exact ⟨⟨rfl, rfl⟩, rfl⟩

theorem txtB_iff {t : List UInt8} {y : Itm} : txtB t y = true ↔ y.t = t := by unfold txtB; simp

theorem Bag.id_inj {l : List Itm} (h : Bag F l) {i j : Nat} (hi : i < l.length) (hj : j < l.length) (e : idOf l[i] = idOf l[j]) : i = j := by
  have hp := List.pairwise_iff_getElem.1 h.beh
  rw [id_eq] at e
  rcases Nat.lt_trichotomy i j with hlt | rfl | hlt
  · have := hp i j hi hj hlt; unfold Beh at this; omega
  · rfl
  · have := hp j i hj hi hlt; unfold Beh at this; omega

theorem Bag.txt_inj {l : List Itm} (h : Bag F l) {i j : Nat} (hi : i < l.length) (hj : j < l.length) (e : l[i].t = l[j].t) : i = j := by
  have hp := List.pairwise_iff_getElem.1 h.txt
  rcases Nat.lt_trichotomy i j with hlt | rfl | hlt
  · exact absurd e (hp i j hi hj hlt)
  · rfl
  · exact absurd e.symm (hp j i hj hi hlt)

theorem Bag.id_mem {l : List Itm} (h : Bag F l) {x y : Itm} (hx : x ∈ l) (hy : y ∈ l) (e : idOf x = idOf y) : x = y := by
  obtain ⟨i, hi, rfl⟩ := List.getElem_of_mem hx
  obtain ⟨j, hj, rfl⟩ := List.getElem_of_mem hy
  have := h.id_inj hi hj e
  subst this; rfl

theorem Bag.idx_id {l : List Itm} (h : Bag F l) {k : Nat} (hk : k < l.length) : idx (idB (idOf l[k])) l = some k :=
  idx_of hk (idB_iff.2 rfl) (fun j hj => by
    rw [Bool.eq_false_iff]
    intro hb
    have := h.id_inj (by omega) (by omega) (idB_iff.1 hb)
    omega)

theorem find_mem {l : List Itm} (h : Bag F l) {k : Nat} (hk : k < l.length) : find F l (idOf l[k]) = (k, 0) := by
  unfold find
  rw [if_neg (by rw [(chk_zero F).2 h]; simp), h.idx_id hk]

theorem get_mem {l : List Itm} (h : Bag F l) {x : Itm} (hx : x ∈ l) : get F l (idOf x) = (x.t, 0) := by
  obtain ⟨k, hk, rfl⟩ := List.getElem_of_mem hx
  unfold get
  rw [find_mem h hk, if_pos rfl, getElem!_pos l k hk]

theorem find_ok {l : List Itm} {i : Bool × Int × Int} (h : (find F l i).2 = 0) : Bag F l ∧ ∃ k, ∃ hk : k < l.length, find F l i = (k, 0) ∧ i = idOf l[k] := by
  unfold find at h ⊢
  by_cases hc : chk F l ≠ 0
  · rw [if_pos hc] at h; exact absurd h hc
  · rw [if_neg hc] at h ⊢
    cases hi : idx (idB i) l with
    | none => rw [hi] at h; cases h
    | some k =>
      obtain ⟨h1, h2, _⟩ := idx_some hi
      exact ⟨(chk_zero F).1 (by simpa using hc), k, h1, rfl, idB_iff.1 h2⟩

theorem get_ok {l : List Itm} {i : Bool × Int × Int} (h : (get F l i).2 = 0) : Bag F l ∧ ∃ x ∈ l, i = idOf x ∧ get F l i = (x.t, 0) := by
  unfold get at h ⊢
  by_cases hf : (find F l i).2 = 0
  · obtain ⟨hb, k, hk, hfk, hi⟩ := find_ok hf
    refine ⟨hb, l[k], List.getElem_mem hk, hi, ?_⟩
    rw [if_pos hf, hfk, getElem!_pos l k hk]
  · rw [if_neg hf] at h
    exact absurd h hf

theorem drop_err {l : List Itm} {i : Bool × Int × Int} (h : (drop F l i).2 ≠ 0) : (drop F l i).1 = [] := by
  unfold drop at h ⊢
  by_cases hf : (find F l i).2 = 0
  · rw [if_pos hf] at h; exact absurd rfl h
  · rw [if_neg hf]

/-- the ways in which Put goes well -/
theorem put_ok {l L : List Itm} {t : List UInt8} {i : Bool × Int × Int} (h : put F l t = (L, i, 0)) :
    Bag F l ∧ t.length ≤ 64 ∧ ((∃ k, ∃ hk : k < l.length, l[k].t = t ∧ l[k].r ≠ 1000000 ∧ L = l.set k (more l[k] 1) ∧ i = idOf l[k]) ∨
      ((∀ x ∈ l, x.t ≠ t) ∧ l.length ≠ 64 ∧ L = ins (new F l t) l ∧ i = idOf (new F l t))) := by
  unfold put at h
  by_cases h1 : chk F l ≠ 0
  · rw [if_pos h1] at h
    simp only [Prod.mk.injEq] at h
    exact absurd h.2.2 h1
  · rw [if_neg h1] at h
    have hb := (chk_zero F).1 (by simpa using h1 : chk F l = 0)
    by_cases h2 : 64 < t.length
    · rw [if_pos h2] at h
      simp at h
    · rw [if_neg h2] at h
      refine ⟨hb, by omega, ?_⟩
      cases hi : idx (txtB t) l with
      | some k =>
        rw [hi] at h
        obtain ⟨hk, ht, _⟩ := idx_some hi
        simp only at h
        rw [getElem!_pos l k hk] at h
        split at h
        · simp at h
        · rename_i hr
          simp only [Prod.mk.injEq] at h
          exact .inl ⟨k, hk, txtB_iff.1 ht, hr, h.1.symm, h.2.1.symm⟩
      | none =>
        rw [hi] at h
        simp only at h
        split at h
        · simp at h
        · rename_i hr
          simp only [Prod.mk.injEq] at h
          refine .inr ⟨fun x hx e => ?_, hr, h.1.symm, h.2.1.symm⟩
          have := (idx_none.1 hi) x hx
          rw [Bool.eq_false_iff] at this
          exact this (txtB_iff.2 e)

/-- .. and each of them is one -/
theorem put_at {l : List Itm} {t : List UInt8} (hb : Bag F l) (ht : t.length ≤ 64) {k : Nat} (hk : k < l.length) (e : l[k].t = t) (hr : l[k].r ≠ 1000000) : put F l t = (l.set k (more l[k] 1), idOf l[k], 0) := by
  unfold put
  rw [if_neg (by rw [(chk_zero F).2 hb]; simp), if_neg (by omega), idx_of (p := txtB t) hk (txtB_iff.2 e) (fun j hj => by
    rw [Bool.eq_false_iff]
    intro hx
    have := hb.txt_inj (by omega) hk ((txtB_iff.1 hx).trans e.symm)
    omega)]
  simp only
  rw [getElem!_pos l k hk, if_neg hr]

theorem put_new {l : List Itm} {t : List UInt8} (hb : Bag F l) (ht : t.length ≤ 64) (e : ∀ x ∈ l, x.t ≠ t) (hr : l.length ≠ 64) : put F l t = (ins (new F l t) l, idOf (new F l t), 0) := by
  unfold put
  rw [if_neg (by rw [(chk_zero F).2 hb]; simp), if_neg (by omega), idx_none.2 (fun x hx => by rw [Bool.eq_false_iff]; intro h; exact e x hx (txtB_iff.1 h))]
  simp only
  rw [if_neg hr]

theorem new_id (l : List Itm) (t : List UInt8) : ∀ y ∈ l, ¬ (y.s = (new F l t).s ∧ y.n = (new F l t).n) := by
  intro y hy e
  have h := (nfree_spec l (F t) 0).2.2.1
  rw [Bool.eq_false_iff] at h
  apply h
  rw [List.any_eq_true]
  refine ⟨y, hy, idB_iff.2 ?_⟩
  unfold idOf
  have e1 : y.s = F t := e.1
  have e2 : y.n = (nfree l (F t) 0 : Int) := e.2
  rw [e1, e2]

theorem place_le (x : Itm) (l : List Itm) : place x l ≤ l.length := by
  unfold place
  cases h : idx (behB x) l with
  | none => exact Nat.le_refl _
  | some i => exact Nat.le_of_lt (idx_some h).1

/-- what stands ahead of the place, and what behind -/
theorem place_spec {x : Itm} {l : List Itm} (hb : l.Pairwise Beh) (hid : ∀ y ∈ l, ¬ (y.s = x.s ∧ y.n = x.n)) : (∀ y ∈ l.take (place x l), Beh y x) ∧ (∀ y ∈ l.drop (place x l), Beh x y) := by
  unfold place
  have tri : ∀ y ∈ l, behB x y = false → Beh y x := fun y hy hf => by
    have h1 := hid y hy
    rw [Bool.eq_false_iff] at hf
    have h2 : ¬ Beh x y := fun h => hf ((beh_iff x y).2 h)
    unfold Beh at h2 ⊢
    omega
  cases h : idx (behB x) l with
  | none =>
    have hn := idx_none.1 h
    simp only [Option.getD_none, List.take_length, List.drop_length]
    exact ⟨fun y hy => tri y hy (hn y hy), by simp⟩
  | some i =>
    obtain ⟨hi, h1, h2⟩ := idx_some h
    simp only [Option.getD_some]
    constructor
    · intro y hy
      obtain ⟨j, hj, rfl⟩ := List.getElem_of_mem hy
      rw [List.length_take] at hj
      rw [List.getElem_take]
      exact tri _ (List.getElem_mem _) (h2 j (by omega))
    · intro y hy
      obtain ⟨j, hj, rfl⟩ := List.getElem_of_mem hy
      rw [List.length_drop] at hj
      rw [List.getElem_drop]
      have hx := (beh_iff x _).1 h1
      by_cases e : j = 0
      · subst e; exact hx
      · exact hx.trans ((List.pairwise_iff_getElem.1 hb) i (i + j) hi (by omega) (by omega))

theorem mem_ins {x y : Itm} {l : List Itm} : y ∈ ins x l ↔ y = x ∨ y ∈ l := by
  unfold ins
  rw [List.mem_append, List.mem_cons]
  have : y ∈ l ↔ y ∈ l.take (place x l) ∨ y ∈ l.drop (place x l) := by rw [← List.mem_append, List.take_append_drop]
  rw [this]
  constructor
  · rintro (h | h | h)
    · exact .inr (.inl h)
    · exact .inl h
    · exact .inr (.inr h)
  · rintro (h | h | h)
    · exact .inr (.inl h)
    · exact .inl h
    · exact .inr (.inr h)

theorem length_ins (x : Itm) (l : List Itm) : (ins x l).length = l.length + 1 := by
  unfold ins
  have := place_le x l
  rw [List.length_append, List.length_cons, List.length_take, List.length_drop]; omega

theorem new_ok {l : List Itm} {t : List UInt8} (ht : t.length ≤ 64) (hl : l.length ≤ 64) (h64 : l.length ≠ 64) : Ok F (new F l t) := by
  have h := (nfree_spec l (F t) 0).2.1
  have h2 := from_le l (F t) 0
  refine ⟨ht, rfl, ?_, ?_, by show (1 : Int) ≤ 1; omega, by show (1 : Int) ≤ 1000000; omega⟩
  · show (0 : Int) ≤ (nfree l (F t) 0 : Int); omega
  · show (nfree l (F t) 0 : Int) ≤ 63; omega

theorem bag_ins {l : List Itm} {x : Itm} (hb : Bag F l) (hok : Ok F x) (hid : ∀ y ∈ l, ¬ (y.s = x.s ∧ y.n = x.n)) (ht : ∀ y ∈ l, y.t ≠ x.t) (h64 : l.length ≠ 64) : Bag F (ins x l) := by
  have hl := hb.len
  obtain ⟨p1, p2⟩ := place_spec (x := x) hb.beh hid
  have hsplit : l.take (place x l) ++ l.drop (place x l) = l := List.take_append_drop _ _
  have hbeh := hb.beh
  have htxt := hb.txt
  rw [← hsplit, List.pairwise_append] at hbeh htxt
  refine ⟨by rw [length_ins]; omega, fun y hy => ?_, ?_, ?_⟩
  · rcases mem_ins.1 hy with rfl | hy
    · exact hok
    · exact hb.ok y hy
  · unfold ins
    rw [List.pairwise_append, List.pairwise_cons]
    refine ⟨hbeh.1, ⟨p2, hbeh.2.1⟩, fun a ha b hb' => ?_⟩
    rcases List.mem_cons.1 hb' with rfl | hb'
    · exact p1 a ha
    · exact hbeh.2.2 a ha b hb'
  · unfold ins
    rw [List.pairwise_append, List.pairwise_cons]
    refine ⟨htxt.1, ⟨fun b hb' e => ht b (List.mem_of_mem_drop hb') e.symm, htxt.2.1⟩, fun a ha b hb' => ?_⟩
    rcases List.mem_cons.1 hb' with rfl | hb'
    · exact ht a (List.mem_of_mem_take ha)
    · exact htxt.2.2 a ha b hb'

theorem get_set {l : List Itm} {k j : Nat} {y : Itm} (hj : j < l.length) : (l.set k y)[j]'(by rw [List.length_set]; exact hj) = if k = j then y else l[j] := by
  rw [List.getElem_set]

theorem bag_set {l : List Itm} {k : Nat} (hb : Bag F l) (hk : k < l.length) (d : Int) (h1 : 1 ≤ l[k].r + d) (h2 : l[k].r + d ≤ 1000000) : Bag F (l.set k (more l[k] d)) := by
  have hs : ∀ j (hj : j < l.length), ((l.set k (more l[k] d))[j]'(by rw [List.length_set]; exact hj)).s = l[j].s ∧ ((l.set k (more l[k] d))[j]'(by rw [List.length_set]; exact hj)).n = l[j].n ∧ ((l.set k (more l[k] d))[j]'(by rw [List.length_set]; exact hj)).t = l[j].t := by
    intro j hj
    rw [get_set hj]
    by_cases e : k = j
    · subst e; rw [if_pos rfl]; exact ⟨rfl, rfl, rfl⟩
    · rw [if_neg e]; exact ⟨rfl, rfl, rfl⟩
  refine ⟨by rw [List.length_set]; exact hb.len, fun x hx => ?_, ?_, ?_⟩
  · obtain ⟨j, hj, rfl⟩ := List.getElem_of_mem hx
    rw [List.length_set] at hj
    rw [get_set hj]
    by_cases e : k = j
    · subst e
      rw [if_pos rfl]
      obtain ⟨a1, a2, a3, a4, _⟩ := hb.ok _ (List.getElem_mem hk)
      exact ⟨a1, a2, a3, a4, h1, h2⟩
    · rw [if_neg e]; exact hb.ok _ (List.getElem_mem hj)
  · rw [List.pairwise_iff_getElem]
    intro i j hi hj hij
    rw [List.length_set] at hi hj
    have := (List.pairwise_iff_getElem.1 hb.beh) i j hi hj hij
    unfold Beh at this ⊢
    rw [(hs i hi).1, (hs j hj).1, (hs i hi).2.1, (hs j hj).2.1]
    exact this
  · rw [List.pairwise_iff_getElem]
    intro i j hi hj hij
    rw [List.length_set] at hi hj
    rw [(hs i hi).2.2, (hs j hj).2.2]
    exact (List.pairwise_iff_getElem.1 hb.txt) i j hi hj hij

theorem bag_erase {l : List Itm} (hb : Bag F l) (k : Nat) : Bag F (l.eraseIdx k) := by
  have hs := List.eraseIdx_sublist l k
  exact ⟨Nat.le_trans hs.length_le hb.len, fun x hx => hb.ok x (hs.subset hx), hb.beh.sublist hs, hb.txt.sublist hs⟩

/-- Put keeps a bag right; what is put is there under its identifier; all others stay with theirs -/
theorem put_spec {l L : List Itm} {t : List UInt8} {i : Bool × Int × Int} (h : put F l t = (L, i, 0)) :
    Bag F L ∧ (∃ x ∈ L, idOf x = i ∧ x.t = t) ∧ (∀ y ∈ l, ∃ y' ∈ L, idOf y' = idOf y ∧ y'.t = y.t) := by
  obtain ⟨hb, ht, ⟨k, hk, hkt, hr, rfl, rfl⟩ | ⟨hn, h64, rfl, rfl⟩⟩ := put_ok h
  · have hok := hb.ok _ (List.getElem_mem hk)
    refine ⟨bag_set hb hk 1 (by have := hok.2.2.2.2.1; omega) (by have := hok.2.2.2.2.2; omega), ⟨more l[k] 1, ?_, rfl, hkt⟩, fun y hy => ?_⟩
    · have hkL : k < (l.set k (more l[k] 1)).length := by rw [List.length_set]; exact hk
      have := List.getElem_mem hkL
      rw [List.getElem_set_self] at this
      exact this
    · obtain ⟨j, hj, rfl⟩ := List.getElem_of_mem hy
      have hjL : j < (l.set k (more l[k] 1)).length := by rw [List.length_set]; exact hj
      refine ⟨_, List.getElem_mem hjL, ?_⟩
      rw [List.getElem_set]
      by_cases e : k = j
      · subst e; rw [if_pos rfl]; exact ⟨rfl, rfl⟩
      · rw [if_neg e]; exact ⟨rfl, rfl⟩
  · exact ⟨bag_ins hb (new_ok ht hb.len h64) (new_id l t) hn h64, ⟨new F l t, mem_ins.2 (.inl rfl), rfl, rfl⟩, fun y hy => ⟨y, mem_ins.2 (.inr hy), rfl, rfl⟩⟩

theorem get_put {l L : List Itm} {t : List UInt8} {i : Bool × Int × Int} (h : put F l t = (L, i, 0)) : get F L i = (t, 0) := by
  obtain ⟨hb, ⟨x, hx, rfl, rfl⟩, _⟩ := put_spec h
  exact get_mem hb hx

def refs (l : List Itm) : Int := (l.map (·.r)).sum

/-! ytbeigaanlhaolaagreatdoor# Drop -/

theorem drop_ok {l b : List Itm} {i : Bool × Int × Int} (h : drop F l i = (b, 0)) : Bag F l ∧ ∃ k, ∃ hk : k < l.length, i = idOf l[k] ∧ ((l[k].r = 1 ∧ b = l.eraseIdx k) ∨ (l[k].r ≠ 1 ∧ b = l.set k (more l[k] (-1)))) := by
  unfold drop at h
  by_cases hf : (find F l i).2 = 0
  · obtain ⟨hb, k, hk, hfk, hi⟩ := find_ok hf
    rw [if_pos hf, hfk] at h
    unfold less at h
    rw [getElem!_pos l k hk] at h
    refine ⟨hb, k, hk, hi, ?_⟩
    split at h
    · rename_i h1
      exact .inl ⟨h1, (Prod.mk.inj h).1.symm⟩
    · rename_i h1
      exact .inr ⟨h1, (Prod.mk.inj h).1.symm⟩
  · rw [if_neg hf] at h
    exact absurd (Prod.mk.inj h).2 hf

theorem drop_bag {l b : List Itm} {i : Bool × Int × Int} (h : drop F l i = (b, 0)) : Bag F b := by
  obtain ⟨hb, k, hk, rfl, ⟨_, rfl⟩ | ⟨h1, rfl⟩⟩ := drop_ok h
  · exact bag_erase hb k
  · have hok := hb.ok _ (List.getElem_mem hk)
    exact bag_set hb hk (-1) (by have := hok.2.2.2.2.1; omega) (by have := hok.2.2.2.2.2; omega)

/-! ytbeigaanlhaolaagreatdoor# how often a block is used -/

def used (l : List Itm) (u : List UInt8) : Int := match idx (txtB u) l with | some i => (l[i]!).r | none => 0

end WoolBag

/-
  Valid states, in plain words: what Check's zero says. Conditions: as each says.
-/
namespace WoolVol
open WoolBag

variable {F : List UInt8 → Int}

/-- a valid state -/
structure Good (F : List UInt8 → Int) (st : Sta) : Prop where
  bag : Bag F st.b
  len : st.v.length ≤ 6
  vol : ∀ v ∈ st.v, nameB v.nm = true ∧ v.bl.length ≤ 32 ∧ ∀ i ∈ v.bl, errB st.b i = 0
  ord : st.v.Pairwise (fun a b => slt a.nm b.nm = true)
  refs : ∀ x ∈ st.b, x.r = cnt (ids st.v) (idOf x)

theorem chkV_zero {l : List Itm} {p : List UInt8} {x : Vo} : chkV l p x = 0 ↔ (nameB x.nm = true ∧ x.bl.length ≤ 32 ∧ ∀ i ∈ x.bl, errB l i = 0) ∧ slt p x.nm = true := by
  unfold chkV
  rw [← sle_not]
  cases hn : nameB x.nm with
  | false => simp
  | true =>
    cases hs : sle x.nm p with
    | true => simp
    | false =>
      simp only [Bool.not_true, Bool.or_self, Bool.false_eq_true, if_false, Bool.not_false, and_true, true_and]
      by_cases h2 : 32 < x.bl.length
      · rw [if_pos h2]
        constructor
        · intro h; omega
        · intro h; omega
      · rw [if_neg h2, chkB_zero]
        constructor
        · intro h; exact ⟨by omega, h⟩
        · intro h; exact h.2

theorem chkVs_zero {l : List Itm} : ∀ {vs : List Vo} {p : List UInt8}, chkVs l p vs = 0 ↔ (∀ v ∈ vs, nameB v.nm = true ∧ v.bl.length ≤ 32 ∧ ∀ i ∈ v.bl, errB l i = 0) ∧ (∀ v ∈ vs, slt p v.nm = true) ∧ vs.Pairwise (fun a b => slt a.nm b.nm = true)
  | [], p => by simp [chkVs]
  | v :: r, p => by
    have e : chkVs l p (v :: r) = 0 ↔ chkV l p v = 0 ∧ chkVs l v.nm r = 0 := by
      have e2 : chkVs l p (v :: r) = if chkV l p v = 0 then chkVs l v.nm r else chkV l p v := rfl
      rw [e2]
      by_cases h : chkV l p v = 0
      · rw [if_pos h]; simp [h]
      · rw [if_neg h]; simp [h]
    rw [e, chkV_zero, chkVs_zero (vs := r)]
    constructor
    · rintro ⟨⟨h1, h2⟩, h3, h4, h5⟩
      refine ⟨?_, ?_, List.pairwise_cons.2 ⟨h4, h5⟩⟩
      · intro x hx
        rcases List.mem_cons.1 hx with rfl | hx
        · exact h1
        · exact h3 x hx
      · intro x hx
        rcases List.mem_cons.1 hx with rfl | hx
        · exact h2
        · exact slt_trans h2 (h4 x hx)
    · rintro ⟨h1, h2, h3⟩
      obtain ⟨h4, h5⟩ := List.pairwise_cons.1 h3
      exact ⟨⟨h1 v (by simp), h2 v (by simp)⟩, fun x hx => h1 x (by simp [hx]), h4, h5⟩

theorem slt_nil {s : List UInt8} (h : nameB s = true) : slt [] s = true := by
  cases s with
  | nil => simp [nameB] at h
  | cons a r => rfl

theorem chkS_zero {st : Sta} : chkS F st = 0 ↔ Good F st := by
  unfold chkS
  constructor
  · intro h
    by_cases h0 : chk F st.b ≠ 0
    · rw [if_pos h0] at h; exact absurd h h0
    rw [if_neg h0] at h
    by_cases h1 : 6 < st.v.length
    · rw [if_pos h1] at h; omega
    rw [if_neg h1] at h
    by_cases h2 : chkVs st.b [] st.v ≠ 0
    · rw [if_pos h2] at h; exact absurd h h2
    rw [if_neg h2] at h
    have h2' : chkVs st.b [] st.v = 0 := by omega
    obtain ⟨a1, _, a3⟩ := chkVs_zero.1 h2'
    refine ⟨(chk_zero F).1 (by omega), by omega, a1, a3, ?_⟩
    cases hr : refsB st.b (ids st.v) with
    | false => rw [hr] at h; simp at h
    | true =>
      unfold refsB at hr
      rw [List.all_eq_true] at hr
      intro x hx
      exact by simpa using hr x hx
  · intro g
    rw [if_neg (by rw [(chk_zero F).2 g.bag]; simp), if_neg (by have := g.len; omega), if_neg (by rw [chkVs_zero.2 ⟨g.vol, fun v hv => slt_nil (g.vol v hv).1, g.ord⟩]; simp), if_pos]
    unfold refsB
    rw [List.all_eq_true]
    intro x hx
    simpa using g.refs x hx

theorem Good.nm_inj {st : Sta} (g : Good F st) {i j : Nat} (hi : i < st.v.length) (hj : j < st.v.length) (e : st.v[i].nm = st.v[j].nm) : i = j := by
  have h := List.pairwise_iff_getElem.1 g.ord
  rcases Nat.lt_trichotomy i j with h1 | h1 | h1
  · have := h i j hi hj h1; rw [e, slt_irrefl] at this; cases this
  · exact h1
  · have := h j i hj hi h1; rw [e, slt_irrefl] at this; cases this

theorem errB_in {l : List Itm} {i : Idn} (h : errB l i = 0) (hi : i.1 = true) : ∃ x ∈ l, i = idOf x := by
  unfold errB at h
  rw [if_neg (by simp [hi])] at h
  cases hh : l.any (idB i) with
  | true =>
    rw [List.any_eq_true] at hh
    obtain ⟨x, hx, hx2⟩ := hh
    exact ⟨x, hx, idB_iff.1 hx2⟩
  | false => rw [hi, hh] at h; simp at h

theorem errB_hole {l : List Itm} {i : Idn} (h : errB l i = 0) (hi : i.1 = false) : i = noId := by
  unfold errB at h
  rw [hi] at h
  cases hh : (i == noId) with
  | true => simpa using hh
  | false => rw [hh] at h; simp at h

end WoolVol
