/-
  What holds of bags as lists, by whatever fingerprint: Put keeps a bag right, what is put is found, Drop undoes Put, others stay. Conditions: as each says.
-/
import Derived.Test.YtabhalajelbfoaaBagM
namespace WoolBag

variable {F : List UInt8 → Int}

theorem Bag.nil : Bag F [] := ⟨by simp, by simp, List.Pairwise.nil, List.Pairwise.nil⟩

theorem id_eq {x y : Itm} : idOf x = idOf y ↔ x.s = y.s ∧ x.n = y.n := by unfold idOf; simp

theorem idB_iff {i : Bool × Int × Int} {y : Itm} : idB i y = true ↔ i = idOf y := by
  obtain ⟨b, s, n⟩ := i
  unfold idB idOf
  simp
  constructor
  · rintro ⟨⟨rfl, rfl⟩, rfl⟩; exact ⟨rfl, rfl, rfl⟩
  · rintro ⟨rfl, rfl, rfl⟩; exact ⟨⟨rfl, rfl⟩, rfl⟩

theorem txtB_iff {t : List UInt8} {y : Itm} : txtB t y = true ↔ y.t = t := by unfold txtB; simp

theorem Bag.id_inj {l : List Itm} (h : Bag F l) {i j : Nat} (hi : i < l.length) (hj : j < l.length) (e : idOf l[i] = idOf l[j]) : i = j := by
  have hp := List.pairwise_iff_getElem.1 h.beh
  rw [id_eq] at e
  rcases Nat.lt_trichotomy i j with hlt | rfl | hlt
  · have := hp i j hi hj hlt; unfold Beh at this; omega
  · rfl
  · have := hp j i hj hi hlt; unfold Beh at this; omega

theorem Bag.txt_inj {l : List Itm} (h : Bag F l) {i j : Nat} (hi : i < l.length) (hj : j < l.length) (e : l[i].t = l[j].t) : i = j := by
  have hp := List.pairwise_iff_getElem.1 h.txt
  rcases Nat.lt_trichotomy i j with hlt | rfl | hlt
  · exact absurd e (hp i j hi hj hlt)
  · rfl
  · exact absurd e.symm (hp j i hj hi hlt)

theorem Bag.id_mem {l : List Itm} (h : Bag F l) {x y : Itm} (hx : x ∈ l) (hy : y ∈ l) (e : idOf x = idOf y) : x = y := by
  obtain ⟨i, hi, rfl⟩ := List.getElem_of_mem hx
  obtain ⟨j, hj, rfl⟩ := List.getElem_of_mem hy
  have := h.id_inj hi hj e
  subst this; rfl

theorem Bag.txt_mem {l : List Itm} (h : Bag F l) {x y : Itm} (hx : x ∈ l) (hy : y ∈ l) (e : x.t = y.t) : x = y := by
  obtain ⟨i, hi, rfl⟩ := List.getElem_of_mem hx
  obtain ⟨j, hj, rfl⟩ := List.getElem_of_mem hy
  have := h.txt_inj hi hj e
  subst this; rfl

theorem Bag.idx_id {l : List Itm} (h : Bag F l) {k : Nat} (hk : k < l.length) : idx (idB (idOf l[k])) l = some k :=
  idx_of hk (idB_iff.2 rfl) (fun j hj => by
    rw [Bool.eq_false_iff]
    intro hb
    have := h.id_inj (by omega) (by omega) (idB_iff.1 hb)
    omega)

theorem find_mem {l : List Itm} (h : Bag F l) {k : Nat} (hk : k < l.length) : find F l (idOf l[k]) = (k, 0) := by
  unfold find
  rw [if_neg (by rw [(chk_zero F).2 h]; simp), h.idx_id hk]

theorem get_mem {l : List Itm} (h : Bag F l) {x : Itm} (hx : x ∈ l) : get F l (idOf x) = (x.t, 0) := by
  obtain ⟨k, hk, rfl⟩ := List.getElem_of_mem hx
  unfold get
  rw [find_mem h hk, if_pos rfl, getElem!_pos l k hk]

theorem find_ok {l : List Itm} {i : Bool × Int × Int} (h : (find F l i).2 = 0) : Bag F l ∧ ∃ k, ∃ hk : k < l.length, find F l i = (k, 0) ∧ i = idOf l[k] := by
  unfold find at h ⊢
  by_cases hc : chk F l ≠ 0
  · rw [if_pos hc] at h; exact absurd h hc
  · rw [if_neg hc] at h ⊢
    cases hi : idx (idB i) l with
    | none => rw [hi] at h; cases h
    | some k =>
      obtain ⟨h1, h2, _⟩ := idx_some hi
      exact ⟨(chk_zero F).1 (by simpa using hc), k, h1, rfl, idB_iff.1 h2⟩

theorem get_ok {l : List Itm} {i : Bool × Int × Int} (h : (get F l i).2 = 0) : Bag F l ∧ ∃ x ∈ l, i = idOf x ∧ get F l i = (x.t, 0) := by
  unfold get at h ⊢
  by_cases hf : (find F l i).2 = 0
  · obtain ⟨hb, k, hk, hfk, hi⟩ := find_ok hf
    refine ⟨hb, l[k], List.getElem_mem hk, hi, ?_⟩
    rw [if_pos hf, hfk, getElem!_pos l k hk]
  · rw [if_neg hf] at h
    exact absurd h hf

theorem get_err {l : List Itm} {i : Bool × Int × Int} (h : (get F l i).2 ≠ 0) : (get F l i).1 = [] := by
  unfold get at h ⊢
  by_cases hf : (find F l i).2 = 0
  · rw [if_pos hf] at h; exact absurd rfl h
  · rw [if_neg hf]

theorem drop_err {l : List Itm} {i : Bool × Int × Int} (h : (drop F l i).2 ≠ 0) : (drop F l i).1 = [] := by
  unfold drop at h ⊢
  by_cases hf : (find F l i).2 = 0
  · rw [if_pos hf] at h; exact absurd rfl h
  · rw [if_neg hf]

theorem put_err {l : List Itm} {t : List UInt8} (h : (put F l t).2.2 ≠ 0) : (put F l t).1 = [] := by
  unfold put at h ⊢
  by_cases h1 : chk F l ≠ 0
  · rw [if_pos h1]
  · rw [if_neg h1] at h ⊢
    by_cases h2 : 64 < t.length
    · rw [if_pos h2]
    · rw [if_neg h2] at h ⊢
      cases hi : idx (txtB t) l with
      | some k =>
        rw [hi] at h
        simp only at h ⊢
        split at h
        · rename_i hr; rw [if_pos hr]
        · exact absurd rfl h
      | none =>
        rw [hi] at h
        simp only at h ⊢
        split at h
        · rename_i hr; rw [if_pos hr]
        · exact absurd rfl h

/-- the ways in which Put goes well -/
theorem put_ok {l L : List Itm} {t : List UInt8} {i : Bool × Int × Int} (h : put F l t = (L, i, 0)) :
    Bag F l ∧ t.length ≤ 64 ∧ ((∃ k, ∃ hk : k < l.length, l[k].t = t ∧ l[k].r ≠ 1000000 ∧ L = l.set k (more l[k] 1) ∧ i = idOf l[k]) ∨
      ((∀ x ∈ l, x.t ≠ t) ∧ l.length ≠ 64 ∧ L = ins (new F l t) l ∧ i = idOf (new F l t))) := by
  unfold put at h
  by_cases h1 : chk F l ≠ 0
  · rw [if_pos h1] at h
    simp only [Prod.mk.injEq] at h
    exact absurd h.2.2 h1
  · rw [if_neg h1] at h
    have hb := (chk_zero F).1 (by simpa using h1 : chk F l = 0)
    by_cases h2 : 64 < t.length
    · rw [if_pos h2] at h
      simp at h
    · rw [if_neg h2] at h
      refine ⟨hb, by omega, ?_⟩
      cases hi : idx (txtB t) l with
      | some k =>
        rw [hi] at h
        obtain ⟨hk, ht, _⟩ := idx_some hi
        simp only at h
        rw [getElem!_pos l k hk] at h
        split at h
        · simp at h
        · rename_i hr
          simp only [Prod.mk.injEq] at h
          exact .inl ⟨k, hk, txtB_iff.1 ht, hr, h.1.symm, h.2.1.symm⟩
      | none =>
        rw [hi] at h
        simp only at h
        split at h
        · simp at h
        · rename_i hr
          simp only [Prod.mk.injEq] at h
          refine .inr ⟨fun x hx e => ?_, hr, h.1.symm, h.2.1.symm⟩
          have := (idx_none.1 hi) x hx
          rw [Bool.eq_false_iff] at this
          exact this (txtB_iff.2 e)

/-- .. and each of them is one -/
theorem put_at {l : List Itm} {t : List UInt8} (hb : Bag F l) (ht : t.length ≤ 64) {k : Nat} (hk : k < l.length) (e : l[k].t = t) (hr : l[k].r ≠ 1000000) : put F l t = (l.set k (more l[k] 1), idOf l[k], 0) := by
  unfold put
  rw [if_neg (by rw [(chk_zero F).2 hb]; simp), if_neg (by omega), idx_of (p := txtB t) hk (txtB_iff.2 e) (fun j hj => by
    rw [Bool.eq_false_iff]
    intro hx
    have := hb.txt_inj (by omega) hk ((txtB_iff.1 hx).trans e.symm)
    omega)]
  simp only
  rw [getElem!_pos l k hk, if_neg hr]

theorem put_new {l : List Itm} {t : List UInt8} (hb : Bag F l) (ht : t.length ≤ 64) (e : ∀ x ∈ l, x.t ≠ t) (hr : l.length ≠ 64) : put F l t = (ins (new F l t) l, idOf (new F l t), 0) := by
  unfold put
  rw [if_neg (by rw [(chk_zero F).2 hb]; simp), if_neg (by omega), idx_none.2 (fun x hx => by rw [Bool.eq_false_iff]; intro h; exact e x hx (txtB_iff.1 h))]
  simp only
  rw [if_neg hr]

theorem put_error {l : List Itm} {t : List UInt8} (hb : Bag F l) : (put F l t).2.2 = 0 ∨ (put F l t).2.2 = 2 ∨ (put F l t).2.2 = 8 := by
  unfold put
  rw [if_neg (by rw [(chk_zero F).2 hb]; simp)]
  by_cases h2 : 64 < t.length
  · rw [if_pos h2]; exact .inr (.inl rfl)
  · rw [if_neg h2]
    cases idx (txtB t) l with
    | some k => simp only; split <;> simp
    | none => simp only; split <;> simp

theorem new_id (l : List Itm) (t : List UInt8) : ∀ y ∈ l, ¬ (y.s = (new F l t).s ∧ y.n = (new F l t).n) := by
  intro y hy e
  have h := (nfree_spec l (F t) 0).2.2.1
  rw [Bool.eq_false_iff] at h
  apply h
  rw [List.any_eq_true]
  refine ⟨y, hy, idB_iff.2 ?_⟩
  unfold idOf
  have e1 : y.s = F t := e.1
  have e2 : y.n = (nfree l (F t) 0 : Int) := e.2
  rw [e1, e2]

theorem place_le (x : Itm) (l : List Itm) : place x l ≤ l.length := by
  unfold place
  cases h : idx (behB x) l with
  | none => exact Nat.le_refl _
  | some i => exact Nat.le_of_lt (idx_some h).1

/-- what stands ahead of the place, and what behind -/
theorem place_spec {x : Itm} {l : List Itm} (hb : l.Pairwise Beh) (hid : ∀ y ∈ l, ¬ (y.s = x.s ∧ y.n = x.n)) : (∀ y ∈ l.take (place x l), Beh y x) ∧ (∀ y ∈ l.drop (place x l), Beh x y) := by
  unfold place
  have tri : ∀ y ∈ l, behB x y = false → Beh y x := fun y hy hf => by
    have h1 := hid y hy
    rw [Bool.eq_false_iff] at hf
    have h2 : ¬ Beh x y := fun h => hf ((beh_iff x y).2 h)
    unfold Beh at h2 ⊢
    omega
  cases h : idx (behB x) l with
  | none =>
    have hn := idx_none.1 h
    simp only [Option.getD_none, List.take_length, List.drop_length]
    exact ⟨fun y hy => tri y hy (hn y hy), by simp⟩
  | some i =>
    obtain ⟨hi, h1, h2⟩ := idx_some h
    simp only [Option.getD_some]
    constructor
    · intro y hy
      obtain ⟨j, hj, rfl⟩ := List.getElem_of_mem hy
      rw [List.length_take] at hj
      rw [List.getElem_take]
      exact tri _ (List.getElem_mem _) (h2 j (by omega))
    · intro y hy
      obtain ⟨j, hj, rfl⟩ := List.getElem_of_mem hy
      rw [List.length_drop] at hj
      rw [List.getElem_drop]
      have hx := (beh_iff x _).1 h1
      by_cases e : j = 0
      · subst e; exact hx
      · exact hx.trans ((List.pairwise_iff_getElem.1 hb) i (i + j) hi (by omega) (by omega))

theorem mem_ins {x y : Itm} {l : List Itm} : y ∈ ins x l ↔ y = x ∨ y ∈ l := by
  unfold ins
  rw [List.mem_append, List.mem_cons]
  have : y ∈ l ↔ y ∈ l.take (place x l) ∨ y ∈ l.drop (place x l) := by rw [← List.mem_append, List.take_append_drop]
  rw [this]
  constructor
  · rintro (h | h | h)
    · exact .inr (.inl h)
    · exact .inl h
    · exact .inr (.inr h)
  · rintro (h | h | h)
    · exact .inr (.inl h)
    · exact .inl h
    · exact .inr (.inr h)

theorem length_ins (x : Itm) (l : List Itm) : (ins x l).length = l.length + 1 := by
  unfold ins
  have := place_le x l
  rw [List.length_append, List.length_cons, List.length_take, List.length_drop]; omega

theorem new_ok {l : List Itm} {t : List UInt8} (ht : t.length ≤ 64) (hl : l.length ≤ 64) (h64 : l.length ≠ 64) : Ok F (new F l t) := by
  have h := (nfree_spec l (F t) 0).2.1
  have h2 := from_le l (F t) 0
  refine ⟨ht, rfl, ?_, ?_, by show (1 : Int) ≤ 1; omega, by show (1 : Int) ≤ 1000000; omega⟩
  · show (0 : Int) ≤ (nfree l (F t) 0 : Int); omega
  · show (nfree l (F t) 0 : Int) ≤ 63; omega

theorem bag_ins {l : List Itm} {x : Itm} (hb : Bag F l) (hok : Ok F x) (hid : ∀ y ∈ l, ¬ (y.s = x.s ∧ y.n = x.n)) (ht : ∀ y ∈ l, y.t ≠ x.t) (h64 : l.length ≠ 64) : Bag F (ins x l) := by
  have hl := hb.len
  obtain ⟨p1, p2⟩ := place_spec (x := x) hb.beh hid
  have hsplit : l.take (place x l) ++ l.drop (place x l) = l := List.take_append_drop _ _
  have hbeh := hb.beh
  have htxt := hb.txt
  rw [← hsplit, List.pairwise_append] at hbeh htxt
  refine ⟨by rw [length_ins]; omega, fun y hy => ?_, ?_, ?_⟩
  · rcases mem_ins.1 hy with rfl | hy
    · exact hok
    · exact hb.ok y hy
  · unfold ins
    rw [List.pairwise_append, List.pairwise_cons]
    refine ⟨hbeh.1, ⟨p2, hbeh.2.1⟩, fun a ha b hb' => ?_⟩
    rcases List.mem_cons.1 hb' with rfl | hb'
    · exact p1 a ha
    · exact hbeh.2.2 a ha b hb'
  · unfold ins
    rw [List.pairwise_append, List.pairwise_cons]
    refine ⟨htxt.1, ⟨fun b hb' e => ht b (List.mem_of_mem_drop hb') e.symm, htxt.2.1⟩, fun a ha b hb' => ?_⟩
    rcases List.mem_cons.1 hb' with rfl | hb'
    · exact ht a (List.mem_of_mem_take ha)
    · exact htxt.2.2 a ha b hb'

theorem get_set {l : List Itm} {k j : Nat} {y : Itm} (hj : j < l.length) : (l.set k y)[j]'(by rw [List.length_set]; exact hj) = if k = j then y else l[j] := by
  rw [List.getElem_set]

theorem bag_set {l : List Itm} {k : Nat} (hb : Bag F l) (hk : k < l.length) (d : Int) (h1 : 1 ≤ l[k].r + d) (h2 : l[k].r + d ≤ 1000000) : Bag F (l.set k (more l[k] d)) := by
  have hs : ∀ j (hj : j < l.length), ((l.set k (more l[k] d))[j]'(by rw [List.length_set]; exact hj)).s = l[j].s ∧ ((l.set k (more l[k] d))[j]'(by rw [List.length_set]; exact hj)).n = l[j].n ∧ ((l.set k (more l[k] d))[j]'(by rw [List.length_set]; exact hj)).t = l[j].t := by
    intro j hj
    rw [get_set hj]
    by_cases e : k = j
    · subst e; rw [if_pos rfl]; exact ⟨rfl, rfl, rfl⟩
    · rw [if_neg e]; exact ⟨rfl, rfl, rfl⟩
  refine ⟨by rw [List.length_set]; exact hb.len, fun x hx => ?_, ?_, ?_⟩
  · obtain ⟨j, hj, rfl⟩ := List.getElem_of_mem hx
    rw [List.length_set] at hj
    rw [get_set hj]
    by_cases e : k = j
    · subst e
      rw [if_pos rfl]
      obtain ⟨a1, a2, a3, a4, _⟩ := hb.ok _ (List.getElem_mem hk)
      exact ⟨a1, a2, a3, a4, h1, h2⟩
    · rw [if_neg e]; exact hb.ok _ (List.getElem_mem hj)
  · rw [List.pairwise_iff_getElem]
    intro i j hi hj hij
    rw [List.length_set] at hi hj
    have := (List.pairwise_iff_getElem.1 hb.beh) i j hi hj hij
    unfold Beh at this ⊢
    rw [(hs i hi).1, (hs j hj).1, (hs i hi).2.1, (hs j hj).2.1]
    exact this
  · rw [List.pairwise_iff_getElem]
    intro i j hi hj hij
    rw [List.length_set] at hi hj
    rw [(hs i hi).2.2, (hs j hj).2.2]
    exact (List.pairwise_iff_getElem.1 hb.txt) i j hi hj hij

theorem bag_erase {l : List Itm} (hb : Bag F l) (k : Nat) : Bag F (l.eraseIdx k) := by
  have hs := List.eraseIdx_sublist l k
  exact ⟨Nat.le_trans hs.length_le hb.len, fun x hx => hb.ok x (hs.subset hx), hb.beh.sublist hs, hb.txt.sublist hs⟩

/-- Put keeps a bag right; what is put is there under its identifier; all others stay with theirs -/
theorem put_spec {l L : List Itm} {t : List UInt8} {i : Bool × Int × Int} (h : put F l t = (L, i, 0)) :
    Bag F L ∧ (∃ x ∈ L, idOf x = i ∧ x.t = t) ∧ (∀ y ∈ l, ∃ y' ∈ L, idOf y' = idOf y ∧ y'.t = y.t) := by
  obtain ⟨hb, ht, ⟨k, hk, hkt, hr, rfl, rfl⟩ | ⟨hn, h64, rfl, rfl⟩⟩ := put_ok h
  · have hok := hb.ok _ (List.getElem_mem hk)
    refine ⟨bag_set hb hk 1 (by have := hok.2.2.2.2.1; omega) (by have := hok.2.2.2.2.2; omega), ⟨more l[k] 1, ?_, rfl, hkt⟩, fun y hy => ?_⟩
    · have hkL : k < (l.set k (more l[k] 1)).length := by rw [List.length_set]; exact hk
      have := List.getElem_mem hkL
      rw [List.getElem_set_self] at this
      exact this
    · obtain ⟨j, hj, rfl⟩ := List.getElem_of_mem hy
      have hjL : j < (l.set k (more l[k] 1)).length := by rw [List.length_set]; exact hj
      refine ⟨_, List.getElem_mem hjL, ?_⟩
      rw [List.getElem_set]
      by_cases e : k = j
      · subst e; rw [if_pos rfl]; exact ⟨rfl, rfl⟩
      · rw [if_neg e]; exact ⟨rfl, rfl⟩
  · exact ⟨bag_ins hb (new_ok ht hb.len h64) (new_id l t) hn h64, ⟨new F l t, mem_ins.2 (.inl rfl), rfl, rfl⟩, fun y hy => ⟨y, mem_ins.2 (.inr hy), rfl, rfl⟩⟩

theorem get_put {l L : List Itm} {t : List UInt8} {i : Bool × Int × Int} (h : put F l t = (L, i, 0)) : get F L i = (t, 0) := by
  obtain ⟨hb, ⟨x, hx, rfl, rfl⟩, _⟩ := put_spec h
  exact get_mem hb hx

theorem get_other {l L : List Itm} {s t : List UInt8} {i k : Bool × Int × Int} (hg : get F l i = (s, 0)) (h : put F l t = (L, k, 0)) : get F L i = (s, 0) ∧ (k = i ↔ s = t) := by
  obtain ⟨hbl, y, hy, rfl, hgy⟩ := get_ok (F := F) (l := l) (i := i) (by rw [hg])
  obtain ⟨hb, ⟨x, hx, rfl, rfl⟩, hall⟩ := put_spec h
  obtain ⟨y', hy', he, ht⟩ := hall y hy
  have hs : s = y.t := by rw [hg] at hgy; exact (Prod.mk.inj hgy).1
  subst hs
  refine ⟨by rw [← he, ← ht]; exact get_mem hb hy', ?_, ?_⟩
  · intro e
    rw [← ht, hb.id_mem hx hy' (e.trans he.symm)]
  · intro e
    rw [hb.txt_mem hx hy' (e.symm.trans ht.symm), he]

def refs (l : List Itm) : Int := (l.map (·.r)).sum

theorem sum_append (a b : List Int) : (a ++ b).sum = a.sum + b.sum := List.sum_append_int

theorem refs_append (a b : List Itm) : refs (a ++ b) = refs a + refs b := by unfold refs; rw [List.map_append, sum_append]
theorem refs_cons (x : Itm) (b : List Itm) : refs (x :: b) = x.r + refs b := by unfold refs; rw [List.map_cons, List.sum_cons]

theorem refs_ins (x : Itm) (l : List Itm) : refs (ins x l) = refs l + x.r := by
  unfold ins
  have e : refs l = refs (l.take (place x l)) + refs (l.drop (place x l)) := by rw [← refs_append, List.take_append_drop]
  rw [refs_append, refs_cons, e]; omega

theorem refs_set : ∀ (l : List Itm) (k : Nat) (hk : k < l.length) (d : Int), refs (l.set k (more l[k] d)) = refs l + d
  | [], k, hk, _ => by simp at hk
  | x :: r, 0, _, d => by
    rw [List.set_cons_zero, refs_cons, refs_cons]
    show x.r + d + refs r = _
    omega
  | x :: r, k + 1, hk, d => by
    have ih := refs_set r k (by simpa using hk) d
    rw [List.set_cons_succ, refs_cons, refs_cons, List.getElem_cons_succ, ih]; omega

theorem refs_put {l L : List Itm} {t : List UInt8} {i : Bool × Int × Int} (h : put F l t = (L, i, 0)) : refs L = refs l + 1 := by
  obtain ⟨hb, ht, ⟨k, hk, hkt, hr, rfl, rfl⟩ | ⟨hn, h64, rfl, rfl⟩⟩ := put_ok h
  · exact refs_set l k hk 1
  · rw [refs_ins]; rfl

theorem refs_le {l : List Itm} (h : Bag F l) : 0 ≤ refs l ∧ refs l ≤ 64000000 := by
  have hl := h.len
  have : ∀ m : List Itm, (∀ x ∈ m, Ok F x) → 0 ≤ refs m ∧ refs m ≤ 1000000 * (m.length : Int) := by
    intro m
    induction m with
    | nil => intro _; exact ⟨by decide, by decide⟩
    | cons x r ih =>
      intro hm
      have := ih (fun y hy => hm y (List.mem_cons_of_mem _ hy))
      have hx := hm x List.mem_cons_self
      obtain ⟨_, _, _, _, a, b⟩ := hx
      rw [refs_cons, List.length_cons]
      omega
  have := this l h.ok
  omega

theorem refs_take {l : List Itm} (h : Bag F l) (k : Nat) : 0 ≤ refs (l.take k) ∧ refs (l.take k) ≤ 64000000 := by
  have hs := List.take_sublist k l
  exact refs_le (F := F) ⟨Nat.le_trans hs.length_le h.len, fun x hx => h.ok x (hs.subset hx), h.beh.sublist hs, h.txt.sublist hs⟩

/-! ytabhalajelbfoaa# Drop -/

theorem drop_put {l L : List Itm} {t : List UInt8} {i : Bool × Int × Int} (h : put F l t = (L, i, 0)) : drop F L i = (l, 0) := by
  have hbL := (put_spec h).1
  obtain ⟨hb, ht, ⟨k, hk, hkt, hr, rfl, rfl⟩ | ⟨hn, h64, rfl, rfl⟩⟩ := put_ok h
  · have hkL : k < (l.set k (more l[k] 1)).length := by rw [List.length_set]; exact hk
    have hLk : (l.set k (more l[k] 1))[k] = more l[k] 1 := List.getElem_set_self hkL
    have hf := find_mem hbL hkL
    rw [hLk] at hf
    have hf' : find F (l.set k (more l[k] 1)) (idOf l[k]) = (k, 0) := hf
    unfold drop less
    rw [hf', if_pos rfl, getElem!_pos _ k hkL, hLk]
    have hr1 := (hb.ok _ (List.getElem_mem hk)).2.2.2.2.1
    rw [if_neg (by show ¬ l[k].r + 1 = 1; omega), List.set_set]
    have e : more (more l[k] 1) (-1) = l[k] := Itm.ext' rfl rfl rfl (by show l[k].r + 1 + -1 = l[k].r; omega)
    rw [e, List.set_getElem_self]
  · have hp := place_le (new F l t) l
    have hpl : (l.take (place (new F l t) l)).length = place (new F l t) l := by rw [List.length_take]; omega
    have hkL : place (new F l t) l < (ins (new F l t) l).length := by rw [length_ins]; omega
    have hLk : (ins (new F l t) l)[place (new F l t) l] = new F l t := by
      have : (ins (new F l t) l)[place (new F l t) l]? = some (new F l t) := by
        unfold ins
        rw [List.getElem?_append_right (by omega), hpl, Nat.sub_self]; rfl
      rw [List.getElem?_eq_getElem hkL] at this
      exact Option.some.inj this
    have hf := find_mem hbL hkL
    rw [hLk] at hf
    unfold drop less
    rw [hf, if_pos rfl, getElem!_pos (ins (new F l t) l) (place (new F l t) l) hkL, hLk, if_pos (show (new F l t).r = 1 from rfl)]
    show ((ins (new F l t) l).eraseIdx (place (new F l t) l), (0 : Int)) = (l, 0)
    unfold ins
    rw [List.eraseIdx_append_of_length_le (by omega), hpl, Nat.sub_self, List.eraseIdx_cons_zero, List.take_append_drop]

theorem drop_ok {l b : List Itm} {i : Bool × Int × Int} (h : drop F l i = (b, 0)) : Bag F l ∧ ∃ k, ∃ hk : k < l.length, i = idOf l[k] ∧ ((l[k].r = 1 ∧ b = l.eraseIdx k) ∨ (l[k].r ≠ 1 ∧ b = l.set k (more l[k] (-1)))) := by
  unfold drop at h
  by_cases hf : (find F l i).2 = 0
  · obtain ⟨hb, k, hk, hfk, hi⟩ := find_ok hf
    rw [if_pos hf, hfk] at h
    unfold less at h
    rw [getElem!_pos l k hk] at h
    refine ⟨hb, k, hk, hi, ?_⟩
    split at h
    · rename_i h1
      exact .inl ⟨h1, (Prod.mk.inj h).1.symm⟩
    · rename_i h1
      exact .inr ⟨h1, (Prod.mk.inj h).1.symm⟩
  · rw [if_neg hf] at h
    exact absurd (Prod.mk.inj h).2 hf

theorem drop_bag {l b : List Itm} {i : Bool × Int × Int} (h : drop F l i = (b, 0)) : Bag F b := by
  obtain ⟨hb, k, hk, rfl, ⟨_, rfl⟩ | ⟨h1, rfl⟩⟩ := drop_ok h
  · exact bag_erase hb k
  · have hok := hb.ok _ (List.getElem_mem hk)
    exact bag_set hb hk (-1) (by have := hok.2.2.2.2.1; omega) (by have := hok.2.2.2.2.2; omega)

theorem get_drop {l b : List Itm} {s : List UInt8} {i k : Bool × Int × Int} (hg : get F l k = (s, 0)) (h : drop F l i = (b, 0)) (hne : i ≠ k) : get F b k = (s, 0) := by
  have hbb := drop_bag h
  obtain ⟨hbl, y, hy, rfl, hgy⟩ := get_ok (F := F) (l := l) (i := k) (by rw [hg])
  have hs : s = y.t := by rw [hg] at hgy; exact (Prod.mk.inj hgy).1
  subst hs
  obtain ⟨j, hj, rfl⟩ := List.getElem_of_mem hy
  obtain ⟨_, m, hm, rfl, hcase⟩ := drop_ok h
  have hmj : m ≠ j := fun e => hne (by subst e; rfl)
  have hmem : l[j] ∈ b := by
    rcases hcase with ⟨_, rfl⟩ | ⟨_, rfl⟩
    · rw [List.mem_eraseIdx_iff_getElem]
      exact ⟨j, hj, fun e => hmj e.symm, rfl⟩
    · have hjL : j < (l.set m (more l[m] (-1))).length := by rw [List.length_set]; exact hj
      have := List.getElem_mem hjL
      rw [List.getElem_set_ne hmj] at this
      exact this
  exact get_mem hbb hmem

/-! ytabhalajelbfoaa# how often a block is used -/

def used (l : List Itm) (u : List UInt8) : Int := match idx (txtB u) l with | some i => (l[i]!).r | none => 0

theorem used_none {l : List Itm} {u : List UInt8} (h : ∀ x ∈ l, x.t ≠ u) : used l u = 0 := by
  unfold used
  rw [idx_none.2 (fun x hx => by rw [Bool.eq_false_iff]; intro e; exact h x hx (txtB_iff.1 e))]

theorem used_mem {l : List Itm} (hb : Bag F l) {x : Itm} (hx : x ∈ l) : used l x.t = x.r := by
  obtain ⟨k, hk, rfl⟩ := List.getElem_of_mem hx
  unfold used
  rw [idx_of (p := txtB l[k].t) hk (txtB_iff.2 rfl) (fun j hj => by
    rw [Bool.eq_false_iff]
    intro e
    have := hb.txt_inj (by omega) hk (txtB_iff.1 e)
    omega)]
  simp only
  rw [getElem!_pos l k hk]

theorem used_put {l L : List Itm} {t : List UInt8} {i : Bool × Int × Int} (h : put F l t = (L, i, 0)) (u : List UInt8) : used L u = used l u + if u = t then 1 else 0 := by
  have hbL := (put_spec h).1
  obtain ⟨hb, ht, ⟨k, hk, hkt, hr, rfl, rfl⟩ | ⟨hn, h64, rfl, rfl⟩⟩ := put_ok h
  · have hkL : k < (l.set k (more l[k] 1)).length := by rw [List.length_set]; exact hk
    have hm := List.getElem_mem hkL
    rw [List.getElem_set_self] at hm
    by_cases e : u = t
    · rw [if_pos e]
      subst e
      have e1 := used_mem hbL hm
      have e2 := used_mem hb (List.getElem_mem hk)
      have e3 : (more l[k] 1).t = l[k].t := rfl
      have e4 : (more l[k] 1).r = l[k].r + 1 := rfl
      rw [e3, hkt] at e1
      rw [hkt] at e2
      rw [e1, e2, e4]
    · rw [if_neg e, Int.add_zero]
      by_cases hex : ∃ x ∈ l, x.t = u
      · obtain ⟨x, hx, rfl⟩ := hex
        obtain ⟨j, hj, rfl⟩ := List.getElem_of_mem hx
        have hjk : k ≠ j := fun e' => e (by subst e'; exact hkt)
        have hjL : j < (l.set k (more l[k] 1)).length := by rw [List.length_set]; exact hj
        have hmj := List.getElem_mem hjL
        rw [List.getElem_set_ne hjk] at hmj
        rw [used_mem hbL hmj, used_mem hb (List.getElem_mem hj)]
      · rw [used_none (fun x hx e' => hex ⟨x, hx, e'⟩), used_none (fun x hx e' => ?_)]
        obtain ⟨j, hj, rfl⟩ := List.getElem_of_mem hx
        rw [List.length_set] at hj
        rw [List.getElem_set] at e'
        by_cases ek : k = j
        · subst ek
          rw [if_pos rfl] at e'
          exact e (e'.symm.trans hkt)
        · rw [if_neg ek] at e'
          exact hex ⟨_, List.getElem_mem hj, e'⟩
  · have hx : new F l t ∈ ins (new F l t) l := mem_ins.2 (.inl rfl)
    by_cases e : u = t
    · rw [if_pos e]
      subst e
      have e1 := used_mem hbL hx
      have e3 : (new F l u).t = u := rfl
      have e4 : (new F l u).r = 1 := rfl
      rw [e3, e4] at e1
      rw [e1, used_none hn]; rfl
    · rw [if_neg e, Int.add_zero]
      by_cases hex : ∃ x ∈ l, x.t = u
      · obtain ⟨x, hx', rfl⟩ := hex
        rw [used_mem hbL (mem_ins.2 (.inr hx')), used_mem hb hx']
      · rw [used_none (fun x hx e' => hex ⟨x, hx, e'⟩), used_none (fun x hx' e' => ?_)]
        rcases mem_ins.1 hx' with rfl | hx'
        · exact e e'.symm
        · exact hex ⟨x, hx', e'⟩

theorem used_pos {l L : List Itm} {t : List UInt8} {i : Bool × Int × Int} (h : put F l t = (L, i, 0)) : 1 ≤ used L t := by
  obtain ⟨hb, ⟨x, hx, _, rfl⟩, _⟩ := put_spec h
  rw [used_mem hb hx]
  exact (hb.ok x hx).2.2.2.2.1

theorem used_range {l : List Itm} (hb : Bag F l) (u : List UInt8) : 0 ≤ used l u ∧ used l u ≤ 1000000 := by
  by_cases hex : ∃ x ∈ l, x.t = u
  · obtain ⟨x, hx, rfl⟩ := hex
    rw [used_mem hb hx]
    have := hb.ok x hx
    exact ⟨by have := this.2.2.2.2.1; omega, this.2.2.2.2.2⟩
  · rw [used_none (fun x hx e' => hex ⟨x, hx, e'⟩)]; omega

open Classical in
theorem length_put {l L : List Itm} {t : List UInt8} {i : Bool × Int × Int} (h : put F l t = (L, i, 0)) : L.length = l.length + (if ∃ x ∈ l, x.t = t then 0 else 1) := by
  obtain ⟨hb, ht, ⟨k, hk, hkt, hr, rfl, rfl⟩ | ⟨hn, h64, rfl, rfl⟩⟩ := put_ok h
  · rw [if_pos ⟨_, List.getElem_mem hk, hkt⟩, List.length_set]; rfl
  · rw [if_neg (by rintro ⟨x, hx, e⟩; exact hn x hx e), length_ins]

theorem texts_put {l L : List Itm} {t : List UInt8} {i : Bool × Int × Int} (h : put F l t = (L, i, 0)) (u : List UInt8) : (∃ x ∈ L, x.t = u) ↔ u = t ∨ ∃ x ∈ l, x.t = u := by
  obtain ⟨hbL, ⟨x, hx, _, hxt⟩, hall⟩ := put_spec h
  constructor
  · rintro ⟨y, hy, rfl⟩
    obtain ⟨hb, ht, ⟨k, hk, hkt, hr, rfl, rfl⟩ | ⟨hn, h64, rfl, rfl⟩⟩ := put_ok h
    · obtain ⟨j, hj, rfl⟩ := List.getElem_of_mem hy
      rw [List.length_set] at hj
      rw [List.getElem_set]
      by_cases e : k = j
      · subst e; rw [if_pos rfl]; exact .inl hkt
      · rw [if_neg e]; exact .inr ⟨_, List.getElem_mem hj, rfl⟩
    · rcases mem_ins.1 hy with rfl | hy
      · exact .inl rfl
      · exact .inr ⟨y, hy, rfl⟩
  · rintro (rfl | ⟨y, hy, rfl⟩)
    · exact ⟨x, hx, hxt⟩
    · obtain ⟨y', hy', _, e⟩ := hall y hy
      exact ⟨y', hy', e⟩

open Classical in
theorem length_turns {l a b c d : List Itm} {s t : List UInt8} {i j k m : Bool × Int × Int} (h1 : put F l s = (a, i, 0)) (h2 : put F a t = (b, j, 0)) (h3 : put F l t = (c, k, 0)) (h4 : put F c s = (d, m, 0)) : b.length = d.length := by
  rw [length_put h2, length_put h1, length_put h4, length_put h3]
  by_cases hs : ∃ x ∈ l, x.t = s
  · by_cases ht : ∃ x ∈ l, x.t = t
    · rw [if_pos hs, if_pos ht, if_pos ((texts_put h1 t).2 (.inr ht)), if_pos ((texts_put h3 s).2 (.inr hs))]
    · by_cases e : t = s
      · subst e; exact absurd hs ht
      · rw [if_pos hs, if_neg ht, if_neg (fun h => (texts_put h1 t).1 h |>.elim e ht), if_pos ((texts_put h3 s).2 (.inr hs))]
  · by_cases ht : ∃ x ∈ l, x.t = t
    · by_cases e : t = s
      · subst e; exact absurd ht hs
      · rw [if_neg hs, if_pos ht, if_pos ((texts_put h1 t).2 (.inr ht)), if_neg (fun h => (texts_put h3 s).1 h |>.elim (fun e' => e e'.symm) hs)]
    · by_cases e : t = s
      · rw [if_neg hs, if_neg ht, if_pos ((texts_put h1 t).2 (.inl e)), if_pos ((texts_put h3 s).2 (.inl e.symm))]
      · rw [if_neg hs, if_neg ht, if_neg (fun h => (texts_put h1 t).1 h |>.elim e ht), if_neg (fun h => (texts_put h3 s).1 h |>.elim (fun e' => e e'.symm) hs)]

theorem length_twice {a b : List Itm} {l : List Itm} {t : List UInt8} {i k : Bool × Int × Int} (h1 : put F l t = (a, i, 0)) (h2 : put F a t = (b, k, 0)) : a.length = b.length := by
  classical
  rw [length_put h2, if_pos ((texts_put h1 t).2 (.inl rfl))]; rfl

end WoolBag
