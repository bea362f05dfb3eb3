/-
  What holds of states made by deeds, in plain words, by whatever fingerprint: how often blocks are used; how many there are; what reads as before; what is undone. Conditions: as each says.
-/
import Derived.Test.YtnmdfdkagkpcaaaJVolOwn12
namespace WoolVol
open WoolBag

variable {F : List UInt8 → Int}

/-! ytnmdfdkagkpcaaa# how often blocks are used -/

theorem idOf_inj {b : List Itm} (hb : b.Pairwise Beh) : b.Pairwise (fun x y => idOf x ≠ idOf y) := by
  refine hb.imp ?_
  intro x y h e
  unfold idOf at e
  simp at e
  unfold Beh at h
  omega

theorem sum_hit : ∀ (b : List Itm) (i : Idn), b.Pairwise (fun x y => idOf x ≠ idOf y) → (b.map (fun x => if i = idOf x then (1 : Int) else 0)).sum = if ∃ x ∈ b, i = idOf x then 1 else 0
  | [], i, _ => by simp
  | x :: r, i, h => by
    obtain ⟨h1, h2⟩ := List.pairwise_cons.1 h
    have ih := sum_hit r i h2
    rw [List.map_cons, List.sum_cons, ih]
    by_cases e : i = idOf x
    · have hno : ¬ ∃ y ∈ r, i = idOf y := by
        rintro ⟨y, hy, e2⟩
        exact h1 y hy (e.symm.trans e2)
      rw [if_pos e, if_neg hno, if_pos ⟨x, by simp, e⟩]
      rfl
    · rw [if_neg e]
      by_cases h3 : ∃ y ∈ r, i = idOf y
      · rw [if_pos h3]
        obtain ⟨y, hy, e2⟩ := h3
        rw [if_pos ⟨y, by simp [hy], e2⟩]
        rfl
      · rw [if_neg h3, if_neg]
        · rfl
        · rintro ⟨y, hy, e2⟩
          rw [List.mem_cons] at hy
          rcases hy with rfl | hy
          · exact e e2
          · exact h3 ⟨y, hy, e2⟩

theorem sum_add {α : Type} (f g : α → Int) : ∀ l : List α, (l.map (fun x => f x + g x)).sum = (l.map f).sum + (l.map g).sum
  | [] => by simp
  | x :: r => by
    rw [List.map_cons, List.map_cons, List.map_cons, List.sum_cons, List.sum_cons, List.sum_cons, sum_add f g r]
    omega

/-- how many identifiers of a list are no holes -/
def usedN (l : List Idn) : Nat := (l.filter (·.1)).length

theorem usedN_cons (i : Idn) (l : List Idn) : usedN (i :: l) = (if i.1 then 1 else 0) + usedN l := by
  unfold usedN
  rw [List.filter_cons]
  split <;> simp_all <;> omega

theorem usedN_append (a b : List Idn) : usedN (a ++ b) = usedN a + usedN b := by unfold usedN; rw [List.filter_append, List.length_append]

theorem sum_cnt {b : List Itm} (hb : b.Pairwise Beh) : ∀ L : List Idn, (∀ i ∈ L, i.1 = true → ∃ x ∈ b, i = idOf x) → (b.map (fun x => cnt L (idOf x))).sum = (usedN L : Int)
  | [], _ => by
    have : ∀ c : List Itm, (c.map (fun x => cnt [] (idOf x))).sum = 0 := by
      intro c
      induction c with
      | nil => rfl
      | cons x r ih => rw [List.map_cons, List.sum_cons, ih, cnt_nil]; rfl
    rw [this]
    rfl
  | i :: L, h => by
    have ih := sum_cnt hb L (fun j hj => h j (by simp [hj]))
    have e : ∀ x : Itm, cnt (i :: L) (idOf x) = (if i = idOf x then (1 : Int) else 0) + cnt L (idOf x) := fun x => cnt_cons i L (idOf x)
    rw [List.map_congr_left (fun x _ => e x), sum_add, ih, sum_hit b i (idOf_inj hb), usedN_cons]
    cases hi : i.1 with
    | true =>
      rw [if_pos (h i (by simp) hi)]
      simp
    | false =>
      rw [if_neg]
      · simp
      · rintro ⟨x, _, e⟩
        rw [e] at hi
        cases hi

/-- all references are just the blocks that are used -/
theorem refs_used {st : Sta} (g : Good F st) : refs st.b = (usedN (ids st.v) : Int) := by
  unfold refs
  rw [List.map_congr_left (fun x hx => g.refs x hx)]
  refine sum_cnt g.bag.beh _ (fun i hi h1 => ?_)
  obtain ⟨v, hv, hiv⟩ := mem_ids.1 hi
  exact errB_in ((g.vol v hv).2.2 i hiv) h1

/-! ytnmdfdkagkpcaaa# how many blocks there are -/

theorem nodup_le {α : Type} [DecidableEq α] : ∀ (a b : List α), a.Nodup → (∀ x ∈ a, x ∈ b) → a.length ≤ b.length
  | [], b, _, _ => by simp
  | x :: r, b, h, hs => by
    obtain ⟨h1, h2⟩ := List.nodup_cons.1 h
    have hx := hs x (by simp)
    have ih := nodup_le r (b.erase x) h2 (fun y hy => by
      have hne : y ≠ x := by rintro rfl; exact h1 hy
      exact (List.mem_erase_of_ne hne).2 (hs y (by simp [hy])))
    rw [List.length_erase_of_mem hx] at ih
    have := List.length_pos_of_mem hx
    rw [List.length_cons]
    omega

theorem nodup_eq {α : Type} [DecidableEq α] {a b : List α} (ha : a.Nodup) (hb : b.Nodup) (h : ∀ x, x ∈ a ↔ x ∈ b) : a.length = b.length :=
  Nat.le_antisymm (nodup_le a b ha (fun x hx => (h x).1 hx)) (nodup_le b a hb (fun x hx => (h x).2 hx))

/-- a list of texts with one more, if it is not there -/
def addT (all : List (List UInt8)) (t : List UInt8) : List (List UInt8) := if all.contains t then all else all ++ [t]

theorem addT_nodup {all : List (List UInt8)} (h : all.Nodup) (t : List UInt8) : (addT all t).Nodup := by
  unfold addT
  split
  · exact h
  · rename_i hc
    rw [List.nodup_append]
    refine ⟨h, by simp, fun a ha b hb => ?_⟩
    rw [List.mem_singleton] at hb
    subst hb
    rintro rfl
    exact hc (List.contains_iff_mem.2 ha)

theorem addT_mem {all : List (List UInt8)} {t x : List UInt8} : x ∈ addT all t ↔ x ∈ all ∨ x = t := by
  unfold addT
  split
  · rename_i hc
    constructor
    · exact .inl
    · rintro (h | rfl)
      · exact h
      · exact List.contains_iff_mem.1 hc
  · rw [List.mem_append, List.mem_singleton]

theorem addT_len (all : List (List UInt8)) (t : List UInt8) : (addT all t).length ≤ all.length + 1 := by
  unfold addT
  split <;> simp

def uniq (l : List (List UInt8)) : List (List UInt8) := l.foldl addT []

theorem uniq_from : ∀ (l all : List (List UInt8)), all.Nodup → (l.foldl addT all).Nodup ∧ ∀ x, x ∈ l.foldl addT all ↔ x ∈ all ∨ x ∈ l
  | [], all, h => ⟨h, fun x => by simp⟩
  | t :: r, all, h => by
    obtain ⟨h1, h2⟩ := uniq_from r (addT all t) (addT_nodup h t)
    refine ⟨h1, fun x => ?_⟩
    show x ∈ r.foldl addT (addT all t) ↔ _
    rw [h2 x, addT_mem, List.mem_cons, or_assoc]

theorem uniq_mem {l : List (List UInt8)} {x : List UInt8} : x ∈ uniq l ↔ x ∈ l := by
  have := (uniq_from l [] (by simp)).2 x
  unfold uniq
  rw [this]
  simp

theorem uniq_nodup (l : List (List UInt8)) : (uniq l).Nodup := (uniq_from l [] (by simp)).1

/-- the texts that are used, volume by volume -/
def usedT (st : Sta) : List (List UInt8) := (ids st.v).filterMap (fun i => if i.1 then tx st.b i else none)

theorem mem_usedT {st : Sta} (g : Good F st) (t : List UInt8) : t ∈ usedT st ↔ ∃ x ∈ st.b, x.t = t := by
  unfold usedT
  rw [List.mem_filterMap]
  constructor
  · rintro ⟨i, hi, h⟩
    split at h
    · unfold tx at h
      cases e : it st.b i with
      | none => rw [e] at h; cases h
      | some x =>
        rw [e] at h
        cases h
        exact ⟨x, ((it_some g.bag).1 e).1, rfl⟩
    · cases h
  · rintro ⟨x, hx, rfl⟩
    have hr := g.refs x hx
    have h1 := (g.bag.ok x hx).2.2.2.2.1
    refine ⟨idOf x, cnt_mem.2 (by omega), ?_⟩
    rw [if_pos (show (idOf x).1 = true from rfl)]
    unfold tx
    rw [(it_some g.bag).2 ⟨hx, rfl⟩]

/-- there are as many items as unlike texts that are used -/
theorem bag_uniq {st : Sta} (g : Good F st) : (uniq (usedT st)).length = st.b.length := by
  have e : (st.b.map (·.t)).Nodup := by
    unfold List.Nodup
    rw [List.pairwise_map]
    exact g.bag.txt
  rw [nodup_eq (b := st.b.map (·.t)) (uniq_nodup _) e (fun x => ?_), List.length_map]
  rw [uniq_mem, mem_usedT g, List.mem_map]

/-! ytnmdfdkagkpcaaa# what reads as before -/

theorem Keeps.vix {st st' : Sta} {k j : Nat} {o : Option (List UInt8)} (h : Keeps F st st' k j o) (s : List UInt8) : vix (nmB s) st'.v = vix (nmB s) st.v := by
  have hl : ∀ q (hq : q < st.v.length), nmB s (st'.v[q]'(by rw [h.len]; exact hq)) = nmB s st.v[q] := by
    intro q hq
    unfold nmB
    rw [(h.vol q hq (by rw [h.len]; exact hq)).1]
  cases e : WoolVol.vix (nmB s) st.v with
  | none =>
    rw [vix_none] at e ⊢
    intro x hx
    obtain ⟨q, hq, rfl⟩ := List.getElem_of_mem hx
    have hq2 : q < st.v.length := by rw [← h.len]; exact hq
    rw [hl q hq2]
    exact e _ (List.getElem_mem hq2)
  | some k =>
    obtain ⟨h1, h2, h3⟩ := vix_some e
    exact vix_of (by rw [h.len]; exact h1) (by rw [hl k h1]; exact h2) (fun j hj => by rw [hl j (by omega)]; exact h3 j hj)

/-- a text that was written is read -/
theorem Keeps.here {st st' : Sta} {k j : Nat} {o : Option (List UInt8)} {s : List UInt8} (h : Keeps F st st' k j o) (hk : k < st.v.length) (hj : j < st.v[k].bl.length) (hx : WoolVol.vix (nmB s) st.v = some k) : read F st' s (j : Int) = (o.getD [], 0) := by
  have hk' : k < st'.v.length := by rw [h.len]; exact hk
  have hx' : WoolVol.vix (nmB s) st'.v = some k := by rw [h.vix]; exact hx
  rw [read_of h.good hk' hx' (by rw [(h.vol k hk hk').2]; exact hj), h.txt k j hk hj, if_pos ⟨rfl, rfl⟩]

/-- any other place reads as before -/
theorem Keeps.read {st st' : Sta} {k j : Nat} {o : Option (List UInt8)} (g : Good F st) (h : Keeps F st st' k j o) (s : List UInt8) (a : Int) (hne : ¬ (WoolVol.vix (nmB s) st.v = some k ∧ a = (j : Int))) : WoolVol.read F st' s a = WoolVol.read F st s a := by
  cases e : WoolVol.vix (nmB s) st.v with
  | none =>
    have e' : WoolVol.vix (nmB s) st'.v = none := by rw [h.vix]; exact e
    have h1 := vloc_miss (a := a) g e
    have h2 := vloc_miss (a := a) h.good e'
    rw [read_no (st := st') (by rw [h2]; simp), read_no (st := st) (by rw [h1]; simp), h1, h2]
  | some q =>
    have e' : WoolVol.vix (nmB s) st'.v = some q := by rw [h.vix]; exact e
    obtain ⟨hq, _⟩ := vix_name e
    have hq' : q < st'.v.length := by rw [h.len]; exact hq
    have hl := (h.vol q hq hq').2
    by_cases ho : a < 0 ∨ (st.v[q].bl.length : Int) ≤ a
    · have h1 := vloc_off g hq e ho
      have h2 := vloc_off h.good hq' e' (by rw [hl]; exact ho)
      rw [read_no (st := st') (by rw [h2]; simp), read_no (st := st) (by rw [h1]; simp), h1, h2]
    · obtain ⟨p, rfl⟩ := Int.eq_ofNat_of_zero_le (show 0 ≤ a by omega)
      have hp : p < st.v[q].bl.length := by omega
      rw [read_of h.good hq' e' (by rw [hl]; exact hp), read_of g hq e hp, h.txt q p hq hp, if_neg]
      rintro ⟨rfl, rfl⟩
      exact hne ⟨e, rfl⟩

/-! ytnmdfdkagkpcaaa# what is undone -/

theorem setB_twice {l : List Vo} {k j : Nat} {a b : Idn} (hk : k < l.length) : setB (setB l k j a) k j b = setB l k j b := by
  rw [setB_eq (l := setB l k j a) (by rw [len_setB]; exact hk)]
  have e : ∀ (m : List Vo) (_ : m = l.set k ⟨l[k].nm, l[k].bl.set j a⟩) (hm : k < m.length), m.set k ⟨m[k].nm, m[k].bl.set j b⟩ = setB l k j b := by
    rintro m rfl hm
    rw [setB_eq hk]
    simp [List.set_set]
  exact e _ (setB_eq hk) _

theorem write_by {X Y : Sta} {s u : List UInt8} {a : Int} (h1 : trim F X s a = trim F Y s a) (h2 : (vloc F X s a).1 = (vloc F Y s a).1) : write F X s a u = write F Y s a u := by
  unfold write; rw [h1, h2]

/-- trimming what was written is trimming what was there -/
theorem trim_write {st : Sta} {s t : List UInt8} {a : Int} (h : (write F st s a t).2 = 0) : trim F (write F st s a t).1 s a = trim F st s a := by
  obtain ⟨g, k, hk, j, hj, rfl, hx, b', i, hp, hw, hkp⟩ := write_g h
  have ht := trim_of hk hj (vloc_of g hk hx hj)
  have hk' : k < (write F st s (j : Int) t).1.v.length := by rw [hkp.len]; exact hk
  have hj' : j < ((write F st s (j : Int) t).1.v[k]).bl.length := by rw [(hkp.vol k hk hk').2]; exact hj
  have hx' : vix (nmB s) (write F st s (j : Int) t).1.v = some k := by rw [hkp.vix]; exact hx
  rw [trim_of hk' hj' (vloc_of hkp.good hk' hx' hj'), ht]
  have e : ∀ (X : Sta) (_ : X = ⟨b', setB (setB st.v k j noId) k j i⟩) (h1 : k < X.v.length) (h2 : j < X.v[k].bl.length), (⟨rel F X.b [X.v[k].bl[j]], setB X.v k j noId⟩ : Sta) = ⟨rel F st.b [st.v[k].bl[j]], setB st.v k j noId⟩ := by
    rintro X rfl h1 h2
    have hkT : k < (setB st.v k j noId).length := by rw [len_setB]; exact hk
    have hbk : ((setB (setB st.v k j noId) k j i)[k]'h1).bl[j]'h2 = i := by
      have hb := blk_eq (st := ⟨b', setB (setB st.v k j noId) k j i⟩) h1 h2
      rw [blk_setB (b := b') hkT hkT (by rw [(set_vol hk k hk hkT).2]; exact hj), if_pos ⟨rfl, rfl⟩] at hb
      exact hb.symm
    simp only
    rw [hbk]
    have hi1 : i.1 = true := (it_put hp).1
    have hrel : rel F b' [i] = rel F st.b [st.v[k].bl[j]] := by
      show rel F (if i.1 = true then (drop F b' i).1 else b') [] = _
      rw [if_pos hi1, drop_put hp]
      rfl
    rw [hrel]
    rw [setB_twice hkT, setB_twice hk]
  rw [e _ (by rw [hw])]

/-- written twice is written once, the last time -/
theorem write_twice {st : Sta} {s t u : List UInt8} {a : Int} (h : (write F st s a t).2 = 0) : write F (write F st s a t).1 s a u = write F st s a u := by
  have e := trim_write h
  obtain ⟨g, k, hk, j, hj, rfl, hx, b', i, hp, hw, hkp⟩ := write_g h
  have hk' : k < (write F st s (j : Int) t).1.v.length := by rw [hkp.len]; exact hk
  have hj' : j < ((write F st s (j : Int) t).1.v[k]).bl.length := by rw [(hkp.vol k hk hk').2]; exact hj
  have hx' : vix (nmB s) (write F st s (j : Int) t).1.v = some k := by rw [hkp.vix]; exact hx
  exact write_by e (by rw [vloc_of g hk hx hj, vloc_of hkp.good hk' hx' hj'])

theorem vplace_ins {x : Vo} {l : List Vo} (hno : ∀ a ∈ l, a.nm ≠ x.nm) : vix (nmB x.nm) (vins x l) = some (vplace x.nm l) := by
  have hle := vplace_le x.nm l
  have hl : (l.take (vplace x.nm l)).length = vplace x.nm l := by rw [List.length_take]; omega
  refine vix_of (by rw [vins_len]; omega) (by rw [vins_at]; unfold nmB; simp) (fun q hq => ?_)
  have e : ∀ (L : List Vo) (_ : L = l.take (vplace x.nm l) ++ x :: l.drop (vplace x.nm l)) (hL : q < L.length), nmB x.nm L[q] = false := by
    rintro L rfl hL
    rw [List.getElem_append_left (by rw [hl]; exact hq), List.getElem_take]
    have := hno _ (List.getElem_mem (show q < l.length by omega))
    unfold nmB
    simpa using this
  exact e _ rfl _

theorem vins_erase (x : Vo) (l : List Vo) : (vins x l).eraseIdx (vplace x.nm l) = l := by
  have hle := vplace_le x.nm l
  have hl : (l.take (vplace x.nm l)).length = vplace x.nm l := by rw [List.length_take]; omega
  unfold vins
  rw [List.eraseIdx_append_of_length_le (by omega), hl, Nat.sub_self, List.eraseIdx_cons_zero, List.take_append_drop]

/-- a volume that is added and dropped -/
theorem drop_added {st st' : Sta} {x : Vo} (g' : Good F st') (hno : ∀ a ∈ st.v, a.nm ≠ x.nm) (hv : st'.v = vins x st.v) (hb : rel F st'.b x.bl = st.b) : vdrop F st' x.nm = (st, 0) := by
  have hx : vix (nmB x.nm) st'.v = some (vplace x.nm st.v) := by rw [hv]; exact vplace_ins hno
  unfold vdrop
  rw [vfind_of g' hx, if_neg (by simp)]
  have e1 : (st'.v[vplace x.nm st.v]!) = x := by
    have hle := vplace_le x.nm st.v
    rw [hv, getElem!_pos (vins x st.v) (vplace x.nm st.v) (by rw [vins_len]; omega), vins_at]
  simp only
  rw [e1, hb, hv, vins_erase]

theorem rel_holes (b : List Itm) : ∀ n, rel F b (List.replicate n noId) = b
  | 0 => rfl
  | n + 1 => by
    rw [List.replicate_succ]
    show rel F (if noId.1 = true then (drop F b noId).1 else b) (List.replicate n noId) = b
    rw [if_neg (by simp [noId])]
    exact rel_holes b n

theorem drop_make {st : Sta} {s : List UInt8} {n : Int} (h : (make F st s n).2 = 0) : vdrop F (make F st s n).1 s = (st, 0) := by
  obtain ⟨g, hn, m, rfl, _, _, he, g2⟩ := make_g h
  have hno := (newE_zero hn).2.1
  exact drop_added (x := ⟨s, List.replicate m noId⟩) g2 hno (by rw [he]) (by rw [he]; exact rel_holes _ _)

theorem ret_congr (b : List Itm) {l m : List Idn} (h : ∀ i, cnt l i = cnt m i) : ret b l = ret b m := by
  unfold ret
  exact List.map_congr_left (fun x _ => by rw [h])

/-- a reference that was added and is taken -/
theorem drop_ret {b : List Itm} {r : List Idn} {i : Idn} (hb : Bag F b) (hb2 : Bag F (ret b (i :: r))) (hi : i.1 = true) (hx : ∃ x ∈ b, i = idOf x) : (drop F (ret b (i :: r)) i).1 = ret b r := by
  obtain ⟨x, hxm, rfl⟩ := hx
  obtain ⟨k, hk, rfl⟩ := List.getElem_of_mem hxm
  have hk2 : k < (ret b (idOf b[k] :: r)).length := by rw [ret_len]; exact hk
  have e : ret b (idOf b[k] :: r) = (ret b r).set k (more b[k] (cnt r (idOf b[k]) + 1)) := by
    rw [← ret_hit hb hk rfl]
    refine ret_congr b (fun j => ?_)
    rw [cnt_cons, cnt_snoc]
    omega
  have hat : (ret b (idOf b[k] :: r))[k] = more b[k] (cnt (idOf b[k] :: r) (idOf b[k])) := ret_at hk hk2
  have hf := find_mem hb2 hk2
  rw [hat] at hf
  have hf' : find F (ret b (idOf b[k] :: r)) (idOf b[k]) = (k, 0) := hf
  unfold drop less
  rw [hf', if_pos rfl, getElem!_pos _ k hk2, hat]
  have h1 := (hb.ok _ (List.getElem_mem hk)).2.2.2.2.1
  have h2 := cnt_nonneg r (idOf b[k])
  have hc : cnt (idOf b[k] :: r) (idOf b[k]) = 1 + cnt r (idOf b[k]) := by rw [cnt_cons, if_pos rfl]
  rw [if_neg (by show ¬ b[k].r + cnt (idOf b[k] :: r) (idOf b[k]) = 1; omega)]
  have hm : more (more b[k] (cnt (idOf b[k] :: r) (idOf b[k]))) (-1) = more b[k] (cnt r (idOf b[k])) := Itm.ext' rfl rfl rfl (by show b[k].r + cnt (idOf b[k] :: r) (idOf b[k]) + -1 = b[k].r + cnt r (idOf b[k]); omega)
  show (ret b (idOf b[k] :: r)).set k _ = ret b r
  rw [hm, e, List.set_set]
  have hk3 : k < (ret b r).length := by rw [ret_len]; exact hk
  have e2 : more b[k] (cnt r (idOf b[k])) = (ret b r)[k] := (ret_at hk hk3).symm
  rw [e2, List.set_getElem_self]

theorem rel_ret {st : Sta} (g : Good F st) : ∀ L : List Idn, L.length ≤ 32 → (∀ i ∈ L, errB st.b i = 0) → rel F (ret st.b L) L = st.b
  | [], _, _ => ret_nil _
  | i :: r, hl, he => by
    rw [List.length_cons] at hl
    have ih := rel_ret g r (by omega) (fun j hj => he j (by simp [hj]))
    show rel F (if i.1 = true then (drop F (ret st.b (i :: r)) i).1 else ret st.b (i :: r)) r = st.b
    cases hi : i.1 with
    | true =>
      rw [if_pos rfl, drop_ret g.bag (ret_bagG g _ (by rw [List.length_cons]; omega)) hi (errB_in (he i (by simp)) hi)]
      exact ih
    | false =>
      rw [if_neg (by simp)]
      have e : ret st.b (i :: r) = ret st.b r := by
        rw [← ret_hole (l := st.b) (bl := r) hi]
        refine ret_congr _ (fun j => ?_)
        rw [cnt_cons, cnt_snoc]
        omega
      rw [e]
      exact ih

theorem drop_clone {st : Sta} {s t : List UInt8} (h : (clone F st s t).2 = 0) : vdrop F (clone F st s t).1 t = (st, 0) := by
  obtain ⟨g, hn, k, hk, hx, he, g2⟩ := clone_g h
  have hno := (newE_zero hn).2.1
  have hv := g.vol st.v[k] (List.getElem_mem hk)
  exact drop_added (x := ⟨t, st.v[k].bl⟩) g2 hno (by rw [he]) (by rw [he]; exact rel_ret g _ hv.2.1 hv.2.2)

/-! ytnmdfdkagkpcaaa# a new volume beside the others -/

theorem vins_get {x : Vo} {l : List Vo} (q : Nat) (h : q < (vins x l).length) : (vins x l)[q] = if q < vplace x.nm l then l.getD q default else if q = vplace x.nm l then x else l.getD (q - 1) default := by
  have hle := vplace_le x.nm l
  have hl : (l.take (vplace x.nm l)).length = vplace x.nm l := by rw [List.length_take]; omega
  rw [vins_len] at h
  have e : ∀ (L : List Vo) (_ : L = l.take (vplace x.nm l) ++ x :: l.drop (vplace x.nm l)) (hL : q < L.length), L[q] = if q < vplace x.nm l then l.getD q default else if q = vplace x.nm l then x else l.getD (q - 1) default := by
    rintro L rfl hL
    by_cases h1 : q < vplace x.nm l
    · rw [if_pos h1, List.getElem_append_left (by rw [hl]; exact h1), List.getElem_take, List.getD_eq_getElem?_getD, List.getElem?_eq_getElem (by omega)]
      rfl
    · rw [if_neg h1, List.getElem_append_right (by rw [hl]; omega)]
      by_cases h2 : q = vplace x.nm l
      · rw [if_pos h2]
        subst h2
        simp only [hl, Nat.sub_self, List.getElem_cons_zero]
      · rw [if_neg h2]
        obtain ⟨m, hm⟩ : ∃ m, q = vplace x.nm l + 1 + m := ⟨q - vplace x.nm l - 1, by omega⟩
        subst hm
        have e1 : vplace x.nm l + 1 + m - (l.take (vplace x.nm l)).length = m + 1 := by rw [hl]; omega
        have e2 : vplace x.nm l + 1 + m - 1 = vplace x.nm l + m := by omega
        rw [e2, List.getD_eq_getElem?_getD, List.getElem?_eq_getElem (by omega)]
        simp only [e1, List.getElem_cons_succ, List.getElem_drop]
        rfl
  exact e _ rfl _

/-- where a volume of the elder state stands behind the adding -/
def shiftQ (s : List UInt8) (l : List Vo) (q : Nat) : Nat := if q < vplace s l then q else q + 1

theorem vins_shift {x : Vo} {l : List Vo} {q : Nat} (hq : q < l.length) : ∃ h : shiftQ x.nm l q < (vins x l).length, (vins x l)[shiftQ x.nm l q] = l[q] := by
  have hlt : shiftQ x.nm l q < (vins x l).length := by rw [vins_len]; unfold shiftQ; split <;> omega
  refine ⟨hlt, ?_⟩
  rw [vins_get _ hlt]
  unfold shiftQ
  by_cases h : q < vplace x.nm l
  · rw [if_pos h, if_pos h, List.getD_eq_getElem?_getD, List.getElem?_eq_getElem hq]; rfl
  · rw [if_neg h, if_neg (by omega), if_neg (by omega), Nat.add_sub_cancel, List.getD_eq_getElem?_getD, List.getElem?_eq_getElem hq]; rfl

/-! ytnmdfdkagkpcaaa# no blocks without volumes -/

theorem bare_bag {st : Sta} (g : Good F st) (h : ∀ v ∈ st.v, ∀ i ∈ v.bl, i.1 = false) : st.b = [] := by
  cases hb : st.b with
  | nil => rfl
  | cons x r =>
    have hx : x ∈ st.b := by rw [hb]; simp
    have hr := g.refs x hx
    have h1 := (g.bag.ok x hx).2.2.2.2.1
    have hm := cnt_mem.2 (show cnt (ids st.v) (idOf x) ≠ 0 by omega)
    obtain ⟨v, hv, hi⟩ := mem_ids.1 hm
    have := h v hv _ hi
    cases this

theorem empty_bag {st : Sta} (g : Good F st) (h : st.v = []) : st.b = [] := bare_bag g (by rw [h]; simp)

/-! ytnmdfdkagkpcaaa# errors of Write -/

theorem put_full {b : List Itm} {t : List UInt8} (hb : Bag F b) (ht : t.length ≤ 64) : (put F b t).2.2 = 0 ∨ (put F b t).2.2 = 8 := by
  unfold put
  rw [if_neg (by rw [(chk_zero F).2 hb]; simp), if_neg (by omega)]
  cases idx (txtB t) b with
  | some k => simp only; split <;> simp
  | none => simp only; split <;> simp

/-- where the place is there, a write fails by what is put alone -/
theorem write_fails {st : Sta} {s t : List UInt8} {k j : Nat} (g : Good F st) (hk : k < st.v.length) (hx : vix (nmB s) st.v = some k) (hj : j < st.v[k].bl.length) : (write F st s (j : Int) t).2 = 0 ∨ (write F st s (j : Int) t).2 = 2 ∨ (write F st s (j : Int) t).2 = 8 := by
  have hb := (trim_keeps g hk hj).good.bag
  rw [write_of hk hj (vloc_of g hk hx hj)]
  rcases put_error (t := t) hb with h | h | h
  · rw [if_neg (by simpa using h)]; exact .inl rfl
  · rw [if_pos (by rw [h]; simp)]; exact .inr (.inl h)
  · rw [if_pos (by rw [h]; simp)]; exact .inr (.inr h)

theorem write_full8 {st : Sta} {s t : List UInt8} {k j : Nat} (g : Good F st) (hk : k < st.v.length) (hx : vix (nmB s) st.v = some k) (hj : j < st.v[k].bl.length) (ht : t.length ≤ 64) : (write F st s (j : Int) t).2 = 0 ∨ (write F st s (j : Int) t).2 = 8 := by
  have hb := (trim_keeps g hk hj).good.bag
  rw [write_of hk hj (vloc_of g hk hx hj)]
  rcases put_full (t := t) hb ht with h | h
  · rw [if_neg (by simpa using h)]; exact .inl rfl
  · rw [if_pos (by rw [h]; simp)]; exact .inr h

/-- what is written has at most 64 bytes -/
theorem write_short {st : Sta} {s t : List UInt8} {a : Int} (h : (write F st s a t).2 = 0) : t.length ≤ 64 := by
  obtain ⟨_, _, _, _, _, _, _, _, _, hp, _, _⟩ := write_g h
  exact (put_ok hp).2.1

/-! ytnmdfdkagkpcaaa# states that read alike -/

/-- the texts of all places, volume by volume -/
theorem usedT_txt {st : Sta} : usedT st = ((List.range st.v.length).flatMap fun q => (List.range (st.v[q]!).bl.length).filterMap fun p => txAt st q p) := by
  have h1 : ∀ (l : List Vo) (f : Idn → Option (List UInt8)), (ids l).filterMap f = l.flatMap fun v => v.bl.filterMap f := by
    intro l f
    induction l with
    | nil => rfl
    | cons x r ih =>
      have e : ids (x :: r) = x.bl ++ ids r := by simp [ids]
      rw [e, List.filterMap_append, ih, List.flatMap_cons]
  have h2 : ∀ (l : List Vo) (f : Vo → List (List UInt8)), l.flatMap f = (List.range l.length).flatMap fun q => f (l[q]!) := by
    intro l f
    have e : l = (List.range l.length).map fun q => l[q]! := by
      refine List.ext_getElem (by simp) (fun i h1 h2 => ?_)
      rw [List.getElem_map, List.getElem_range, getElem!_pos l i h1]
    conv => lhs; rw [e]
    rw [List.flatMap_map]
  have h3 : ∀ (l : List Idn) (f : Idn → Option (List UInt8)), l.filterMap f = (List.range l.length).filterMap fun p => f (l[p]!) := by
    intro l f
    have e : l = (List.range l.length).map fun q => l[q]! := by
      refine List.ext_getElem (by simp) (fun i h1 h2 => ?_)
      rw [List.getElem_map, List.getElem_range, getElem!_pos l i h1]
    conv => lhs; rw [e]
    rw [List.filterMap_map]
    rfl
  unfold usedT
  rw [h1, h2]
  congr 1
  funext q
  rw [h3]
  rfl

theorem flatMap_congrG {α β : Type} {l : List α} {f g : α → List β} (h : ∀ x ∈ l, f x = g x) : l.flatMap f = l.flatMap g := by
  induction l with
  | nil => rfl
  | cons x r ih => rw [List.flatMap_cons, List.flatMap_cons, h x (by simp), ih (fun y hy => h y (by simp [hy]))]

theorem filterMap_congrG {α β : Type} {l : List α} {f g : α → Option β} (h : ∀ x ∈ l, f x = g x) : l.filterMap f = l.filterMap g := by
  induction l with
  | nil => rfl
  | cons x r ih => rw [List.filterMap_cons, List.filterMap_cons, h x (by simp), ih (fun y hy => h y (by simp [hy]))]

/-- two states that read alike at every place have as many blocks -/
theorem same_bag {a b : Sta} (ga : Good F a) (gb : Good F b) (hl : a.v.length = b.v.length) (hv : ∀ q (h : q < a.v.length) (h' : q < b.v.length), a.v[q].bl.length = b.v[q].bl.length)
    (ht : ∀ q p (h : q < a.v.length), p < a.v[q].bl.length → txAt a q p = txAt b q p) : a.b.length = b.b.length := by
  rw [← bag_uniq ga, ← bag_uniq gb]
  congr 2
  rw [usedT_txt, usedT_txt, hl]
  refine flatMap_congrG (fun q hq => ?_)
  rw [List.mem_range] at hq
  have hqa : q < a.v.length := by omega
  rw [getElem!_pos a.v q hqa, getElem!_pos b.v q hq, hv q hqa hq]
  refine filterMap_congrG (fun p hp => ?_)
  rw [List.mem_range] at hp
  exact ht q p hqa (by rw [hv q hqa hq]; exact hp)

end WoolVol
