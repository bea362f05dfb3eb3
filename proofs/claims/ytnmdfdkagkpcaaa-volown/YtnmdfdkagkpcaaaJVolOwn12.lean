/-
  The texts StM, OpV, one behind the other; each says below what it holds and on what conditions.
-/
import Derived.Test.YtnmdfdkagkpcaaaJVolOwn11
import Derived.Test.YtnmdfdkagkpcaaaJVolOwn01

/-
  What each deed of package vol makes of a valid state, in plain words, by whatever fingerprint; deeds one behind the other. Conditions: as each says.
-/
namespace WoolVol
open WoolBag

variable {F : List UInt8 → Int}

/-! ytnmdfdkagkpcaaa# places -/

theorem vfind_of {st : Sta} {s : List UInt8} {k : Nat} (g : Good F st) (hx : vix (nmB s) st.v = some k) : vfind F st s = (k, 0) := by
  unfold vfind; rw [chkS_zero.2 g, if_neg (by simp), hx]

theorem vfind_miss {st : Sta} {s : List UInt8} (g : Good F st) (hx : vix (nmB s) st.v = none) : vfind F st s = (0, 4) := by
  unfold vfind; rw [chkS_zero.2 g, if_neg (by simp), hx]

theorem vfind_g {st : Sta} {s : List UInt8} (h : (vfind F st s).2 = 0) : Good F st ∧ ∃ k, ∃ hk : k < st.v.length, vfind F st s = (k, 0) ∧ st.v[k].nm = s ∧ vix (nmB s) st.v = some k := by
  unfold vfind at h ⊢
  by_cases h0 : chkS F st ≠ 0
  · rw [if_pos h0] at h; exact absurd h h0
  · rw [if_neg h0] at h ⊢
    refine ⟨chkS_zero.1 (by omega), ?_⟩
    cases hx : vix (nmB s) st.v with
    | none => rw [hx] at h; simp at h
    | some k =>
      obtain ⟨k1, k2, _⟩ := vix_some hx
      unfold nmB at k2
      exact ⟨k, k1, rfl, by simpa using k2, rfl⟩

/-- a volume's place by its name -/
theorem vix_nm {st : Sta} (g : Good F st) {k : Nat} (hk : k < st.v.length) : vix (nmB st.v[k].nm) st.v = some k := by
  refine vix_of hk (by unfold nmB; simp) (fun j hj => ?_)
  have hne : st.v[j].nm ≠ st.v[k].nm := by
    intro e
    have := g.nm_inj (by omega) hk e
    omega
  unfold nmB
  simpa using hne

theorem vix_name {l : List Vo} {s : List UInt8} {k : Nat} (hx : vix (nmB s) l = some k) : ∃ hk : k < l.length, l[k].nm = s := by
  obtain ⟨k1, k2, _⟩ := vix_some hx
  unfold nmB at k2
  exact ⟨k1, by simpa using k2⟩

theorem vloc_of {st : Sta} {s : List UInt8} {k j : Nat} (g : Good F st) (hk : k < st.v.length) (hx : vix (nmB s) st.v = some k) (h : j < st.v[k].bl.length) : vloc F st s (j : Int) = (k, 0) := by
  unfold vloc
  rw [vfind_of g hx, if_neg (by simp)]
  show (if (j : Int) < 0 ∨ ((st.v[k]!).bl.length : Int) ≤ (j : Int) then (0, 1) else (k, 0)) = (k, 0)
  rw [getElem!_pos st.v k hk, if_neg (by omega)]

theorem vloc_off {st : Sta} {s : List UInt8} {k : Nat} {a : Int} (g : Good F st) (hk : k < st.v.length) (hx : vix (nmB s) st.v = some k) (h : a < 0 ∨ (st.v[k].bl.length : Int) ≤ a) : vloc F st s a = (0, 1) := by
  unfold vloc
  rw [vfind_of g hx, if_neg (by simp)]
  show (if a < 0 ∨ ((st.v[k]!).bl.length : Int) ≤ a then (0, 1) else (k, 0)) = (0, 1)
  rw [getElem!_pos st.v k hk, if_pos h]

theorem vloc_miss {st : Sta} {s : List UInt8} {a : Int} (g : Good F st) (hx : vix (nmB s) st.v = none) : vloc F st s a = (0, 4) := by
  unfold vloc
  rw [vfind_miss g hx, if_pos (by simp)]

theorem vloc_g {st : Sta} {s : List UInt8} {a : Int} (h : (vloc F st s a).2 = 0) : Good F st ∧ ∃ k, ∃ hk : k < st.v.length, ∃ j : Nat, a = (j : Int) ∧ j < st.v[k].bl.length ∧ vloc F st s a = (k, 0) ∧ st.v[k].nm = s ∧ vix (nmB s) st.v = some k := by
  unfold vloc at h ⊢
  by_cases h0 : (vfind F st s).2 ≠ 0
  · rw [if_pos h0] at h; exact absurd h h0
  rw [if_neg h0] at h ⊢
  obtain ⟨hg, k, hk, hf, hn, hx⟩ := vfind_g (by omega : (vfind F st s).2 = 0)
  rw [hf] at h ⊢
  simp only at h ⊢
  rw [getElem!_pos st.v k hk] at h ⊢
  by_cases h2 : a < 0 ∨ (st.v[k].bl.length : Int) ≤ a
  · rw [if_pos h2] at h; simp at h
  · rw [if_neg h2]
    exact ⟨hg, k, hk, a.toNat, by omega, by omega, rfl, hn, hx⟩

/-! ytnmdfdkagkpcaaa# reading -/

theorem read_of {st : Sta} {s : List UInt8} {k j : Nat} (g : Good F st) (hk : k < st.v.length) (hx : vix (nmB s) st.v = some k) (hj : j < st.v[k].bl.length) : read F st s (j : Int) = ((txAt st k j).getD [], 0) := by
  unfold read
  rw [vloc_of g hk hx hj, if_neg (by simp)]
  simp only [Int.toNat_natCast]
  exact get_tx g hk hj

theorem read_no {st : Sta} {s : List UInt8} {a : Int} (h : (vloc F st s a).2 ≠ 0) : read F st s a = ([], (vloc F st s a).2) := by
  unfold read
  rw [if_pos h]

theorem blocks_of {st : Sta} {s : List UInt8} {k : Nat} (g : Good F st) (hk : k < st.v.length) (hx : vix (nmB s) st.v = some k) : blocks F st s = (st.v[k].bl, 0) := by
  unfold blocks
  rw [vfind_of g hx, if_neg (by simp)]
  show ((st.v[k]!).bl, (0 : Int)) = _
  rw [getElem!_pos st.v k hk]

theorem blocks_miss {st : Sta} {s : List UInt8} (g : Good F st) (hx : vix (nmB s) st.v = none) : blocks F st s = ([], 4) := by
  unfold blocks
  rw [vfind_miss g hx, if_pos (by simp)]

/-! ytnmdfdkagkpcaaa# Trim and Write -/

theorem trim_of {st : Sta} {s : List UInt8} {k j : Nat} (hk : k < st.v.length) (hj : j < st.v[k].bl.length) (h : vloc F st s (j : Int) = (k, 0)) : trim F st s (j : Int) = (⟨rel F st.b [st.v[k].bl[j]], setB st.v k j noId⟩, 0) := by
  unfold trim
  rw [h, if_neg (by simp)]
  unfold blk
  simp only [Int.toNat_natCast]
  rw [getElem!_pos st.v k hk, getElem!_pos st.v[k].bl j hj]

theorem trim_err {st : Sta} {s : List UInt8} {a : Int} (h : (vloc F st s a).2 ≠ 0) : trim F st s a = (zeroS, (vloc F st s a).2) := by unfold trim; rw [if_pos h]

theorem trim_g {st : Sta} {s : List UInt8} {a : Int} (h : (trim F st s a).2 = 0) : Good F st ∧ ∃ k, ∃ hk : k < st.v.length, ∃ j : Nat, ∃ hj : j < st.v[k].bl.length, a = (j : Int) ∧ vix (nmB s) st.v = some k ∧ trim F st s a = (⟨rel F st.b [st.v[k].bl[j]], setB st.v k j noId⟩, 0) ∧ Keeps F st (trim F st s a).1 k j none := by
  have hvl : (vloc F st s a).2 = 0 := by
    apply Classical.byContradiction
    intro hne
    rw [trim_err hne] at h
    exact hne h
  obtain ⟨hg, k, hk, j, rfl, hj, hf, _, hx⟩ := vloc_g hvl
  have ht := trim_of hk hj hf
  refine ⟨hg, k, hk, j, hj, rfl, hx, ht, ?_⟩
  rw [ht]
  exact trim_keeps hg hk hj

theorem write_err {st : Sta} {s t : List UInt8} {a : Int} (h : (vloc F st s a).2 ≠ 0) : write F st s a t = (zeroS, (vloc F st s a).2) := by
  unfold write; rw [trim_err h, if_pos h]

/-- a write by what is put into the bag -/
theorem write_of {st : Sta} {s t : List UInt8} {k j : Nat} (hk : k < st.v.length) (hj : j < st.v[k].bl.length) (h : vloc F st s (j : Int) = (k, 0)) :
    write F st s (j : Int) t = if (put F (rel F st.b [st.v[k].bl[j]]) t).2.2 ≠ 0 then (zeroS, (put F (rel F st.b [st.v[k].bl[j]]) t).2.2)
      else (⟨(put F (rel F st.b [st.v[k].bl[j]]) t).1, setB (setB st.v k j noId) k j (put F (rel F st.b [st.v[k].bl[j]]) t).2.1⟩, 0) := by
  unfold write
  rw [trim_of hk hj h, h, if_neg (by simp)]
  simp only [Int.toNat_natCast]

theorem write_g {st : Sta} {s t : List UInt8} {a : Int} (h : (write F st s a t).2 = 0) : Good F st ∧ ∃ k, ∃ hk : k < st.v.length, ∃ j : Nat, ∃ hj : j < st.v[k].bl.length, a = (j : Int) ∧ vix (nmB s) st.v = some k ∧
    ∃ b' i, put F (rel F st.b [st.v[k].bl[j]]) t = (b', i, 0) ∧ write F st s a t = (⟨b', setB (setB st.v k j noId) k j i⟩, 0) ∧ Keeps F st (write F st s a t).1 k j (some t) := by
  have hvl : (vloc F st s a).2 = 0 := by
    apply Classical.byContradiction
    intro hne
    rw [write_err hne] at h
    exact hne h
  obtain ⟨hg, k, hk, j, rfl, hj, hf, _, hx⟩ := vloc_g hvl
  have hw := write_of (t := t) hk hj hf
  by_cases hp : (put F (rel F st.b [st.v[k].bl[j]]) t).2.2 ≠ 0
  · rw [hw, if_pos hp] at h; exact absurd h hp
  · rw [if_neg hp] at hw
    have hp0 : put F (rel F st.b [st.v[k].bl[j]]) t = ((put F (rel F st.b [st.v[k].bl[j]]) t).1, (put F (rel F st.b [st.v[k].bl[j]]) t).2.1, 0) := Prod.ext rfl (Prod.ext rfl (by simpa using hp))
    refine ⟨hg, k, hk, j, hj, rfl, hx, _, _, hp0, hw, ?_⟩
    rw [hw]
    exact write_keeps hg hk hj hp0

/-! ytnmdfdkagkpcaaa# volumes that come and go -/

theorem cnt_holesG (n : Nat) (i : Idn) (h : i.1 = true) : cnt (List.replicate n noId) i = 0 := by
  apply Classical.byContradiction
  intro hc
  have := cnt_mem.2 hc
  rw [List.mem_replicate] at this
  rw [this.2] at h
  cases h

theorem cnt_ids_appG (a b : List Vo) (i : Idn) : cnt (ids (a ++ b)) i = cnt (ids a) i + cnt (ids b) i := by
  unfold ids
  rw [List.map_append, List.flatten_append, cnt_append]

theorem cnt_vinsG (x : Vo) (l : List Vo) (i : Idn) : cnt (ids (vins x l)) i = cnt x.bl i + cnt (ids l) i := by
  unfold vins
  rw [cnt_ids_appG, cnt_ids_cons]
  have := cnt_ids_appG (l.take (vplace x.nm l)) (l.drop (vplace x.nm l)) i
  rw [List.take_append_drop] at this
  omega

theorem vins_len (x : Vo) (l : List Vo) : (vins x l).length = l.length + 1 := by
  unfold vins
  have := vplace_le x.nm l
  rw [List.length_append, List.length_cons, List.length_take, List.length_drop]
  omega

theorem vins_memG {x v : Vo} {l : List Vo} : v ∈ vins x l ↔ v = x ∨ v ∈ l := by
  unfold vins
  rw [List.mem_append, List.mem_cons]
  constructor
  · rintro (h | rfl | h)
    · exact .inr (List.mem_of_mem_take h)
    · exact .inl rfl
    · exact .inr (List.mem_of_mem_drop h)
  · rintro (rfl | h)
    · exact .inr (.inl rfl)
    · have h2 := h
      rw [← List.take_append_drop (vplace x.nm l) l, List.mem_append] at h2
      rcases h2 with h2 | h2
      · exact .inl h2
      · exact .inr (.inr h2)

theorem vins_at {x : Vo} {l : List Vo} (h : vplace x.nm l < (vins x l).length) : (vins x l)[vplace x.nm l] = x := by
  have hle := vplace_le x.nm l
  have hl : (l.take (vplace x.nm l)).length = vplace x.nm l := by rw [List.length_take]; omega
  have e : ∀ (L : List Vo) (_ : L = l.take (vplace x.nm l) ++ x :: l.drop (vplace x.nm l)) (hL : vplace x.nm l < L.length), L[vplace x.nm l] = x := by
    rintro L rfl hL
    rw [List.getElem_append_right (by rw [hl]; exact Nat.le_refl _)]
    simp only [hl, Nat.sub_self, List.getElem_cons_zero]
  exact e _ rfl h

theorem vins_ord {x : Vo} {l : List Vo} (hl : l.Pairwise (fun a b => slt a.nm b.nm = true)) (hno : ∀ a ∈ l, a.nm ≠ x.nm) : (vins x l).Pairwise (fun a b => slt a.nm b.nm = true) := by
  refine sorted_ins (f := Vo.nm) (k := vplace x.nm l) hl (fun a ha => ?_) (fun a ha => ?_)
  · obtain ⟨q, hq, rfl⟩ := List.getElem_of_mem ha
    rw [List.length_take] at hq
    rw [List.getElem_take]
    have h9 : slt l[q].nm x.nm = true := vplace_below hno q (by omega) (by omega)
    exact h9
  · obtain ⟨q, hq, rfl⟩ := List.getElem_of_mem ha
    rw [List.length_drop] at hq
    rw [List.getElem_drop]
    have h9 : slt x.nm (l[vplace x.nm l + q]'(by omega)).nm = true := vplace_above hl _ (by omega) (by omega)
    exact h9

/-- a bag with more references, and a volume that holds them -/
theorem add_good {st : Sta} {x : Vo} {b' : List Itm} (g : Good F st) (hn : newE st x.nm = 0) (h32 : x.bl.length ≤ 32) (hb : Bag F b') (he : ∀ i, errB b' i = errB st.b i) (hx : ∀ i ∈ x.bl, errB st.b i = 0)
    (hr : ∀ y ∈ b', y.r = cnt x.bl (idOf y) + cnt (ids st.v) (idOf y)) : Good F ⟨b', vins x st.v⟩ := by
  obtain ⟨h1, h2, h3⟩ := newE_zero hn
  have hl6 := g.len
  refine ⟨hb, ?_, fun u hu => ?_, vins_ord g.ord h2, fun y hy => ?_⟩
  · show (vins x st.v).length ≤ 6
    rw [vins_len]; omega
  · rcases vins_memG.1 hu with rfl | hu
    · exact ⟨h1, h32, fun i hi => (he i).trans (hx i hi)⟩
    · have := g.vol u hu
      exact ⟨this.1, this.2.1, fun i hi => (he i).trans (this.2.2 i hi)⟩
  · show y.r = cnt (ids (vins x st.v)) (idOf y)
    rw [cnt_vinsG]
    exact hr y hy

theorem make_g {st : Sta} {s : List UInt8} {n : Int} (h : (make F st s n).2 = 0) : Good F st ∧ newE st s = 0 ∧ ∃ m : Nat, n = (m : Int) ∧ 1 ≤ m ∧ m ≤ 32 ∧ make F st s n = (⟨st.b, vins ⟨s, List.replicate m noId⟩ st.v⟩, 0) ∧ Good F (make F st s n).1 := by
  unfold make at h ⊢
  by_cases h0 : chkS F st ≠ 0
  · rw [if_pos h0] at h; exact absurd h h0
  rw [if_neg h0] at h ⊢
  by_cases h1 : n < 1 ∨ 32 < n
  · rw [if_pos h1] at h; simp at h
  rw [if_neg h1] at h ⊢
  by_cases h2 : newE st s ≠ 0
  · rw [if_pos h2] at h; exact absurd h h2
  rw [if_neg h2]
  have g : Good F st := chkS_zero.1 (by omega)
  have hn : newE st s = 0 := by omega
  refine ⟨g, hn, n.toNat, by omega, by omega, by omega, rfl, ?_⟩
  refine add_good g hn (by rw [List.length_replicate]; omega) g.bag (fun _ => rfl) (fun i hi => ?_) (fun y hy => ?_)
  · rw [List.mem_replicate] at hi
    rw [hi.2]; rfl
  · rw [cnt_holesG _ _ rfl, g.refs y hy]; simp

theorem any_retG (b : List Itm) (bl : List Idn) (i : Idn) : (ret b bl).any (idB i) = b.any (idB i) := by
  unfold ret
  rw [List.any_map]
  rfl

theorem errB_retG (b : List Itm) (bl : List Idn) (i : Idn) : errB (ret b bl) i = errB b i := by
  unfold errB
  rw [any_retG]

theorem tx_retG (b : List Itm) (bl : List Idn) (i : Idn) : tx (ret b bl) i = tx b i := by
  have e : it (ret b bl) i = (it b i).map (fun x => more x (cnt bl (idOf x))) := by
    unfold it ret
    rw [List.find?_map]
    rfl
  unfold tx
  rw [e]
  cases it b i <;> rfl

theorem ids_shortG {st : Sta} (g : Good F st) : (ids st.v).length ≤ 192 := by
  have h : ∀ vs : List Vo, (∀ v ∈ vs, v.bl.length ≤ 32) → (ids vs).length ≤ vs.length * 32 := by
    intro vs
    induction vs with
    | nil => intro _; simp [ids]
    | cons x r ih =>
      intro h
      have h1 := h x (by simp)
      have h2 := ih (fun v hv => h v (by simp [hv]))
      have e : ids (x :: r) = x.bl ++ ids r := by simp [ids]
      rw [e, List.length_append, List.length_cons]
      omega
  have := h st.v (fun v hv => (g.vol v hv).2.1)
  have := g.len
  omega

/-- how often an item is used: well below what it may be -/
theorem refs_small {st : Sta} (g : Good F st) : ∀ x ∈ st.b, x.r ≤ 192 := by
  intro x hx
  have h1 := g.refs x hx
  have h2 := cnt_le (ids st.v) (idOf x)
  have h3 := ids_shortG g
  omega

theorem ret_bagG {st : Sta} (g : Good F st) (bl : List Idn) (h : bl.length ≤ 32) : Bag F (ret st.b bl) := by
  refine ⟨by rw [ret_len]; exact g.bag.len, fun x hx => ?_, ?_, ?_⟩
  · unfold ret at hx
    rw [List.mem_map] at hx
    obtain ⟨y, hy, rfl⟩ := hx
    obtain ⟨h1, h2, h3, h4, h5, h6⟩ := g.bag.ok y hy
    have hr := refs_small g y hy
    have hc2 := cnt_le bl (idOf y)
    have hc3 := cnt_nonneg bl (idOf y)
    exact ⟨h1, h2, h3, h4, show 1 ≤ y.r + cnt bl (idOf y) by omega, show y.r + cnt bl (idOf y) ≤ 1000000 by omega⟩
  · unfold ret
    rw [List.pairwise_map]
    exact g.bag.beh
  · unfold ret
    rw [List.pairwise_map]
    exact g.bag.txt

theorem clone_g {st : Sta} {s t : List UInt8} (h : (clone F st s t).2 = 0) : Good F st ∧ newE st t = 0 ∧ ∃ k, ∃ hk : k < st.v.length, vix (nmB s) st.v = some k ∧ clone F st s t = (⟨ret st.b st.v[k].bl, vins ⟨t, st.v[k].bl⟩ st.v⟩, 0) ∧ Good F (clone F st s t).1 := by
  unfold clone at h ⊢
  by_cases h0 : (vfind F st s).2 ≠ 0
  · rw [if_pos h0] at h; exact absurd h h0
  rw [if_neg h0] at h ⊢
  obtain ⟨g, k, hk, hf, hnm, hx⟩ := vfind_g (by omega : (vfind F st s).2 = 0)
  by_cases h2 : newE st t ≠ 0
  · rw [if_pos h2] at h; exact absurd h h2
  rw [if_neg h2, hf]
  have hn : newE st t = 0 := by omega
  simp only
  rw [getElem!_pos st.v k hk]
  have hv := g.vol st.v[k] (List.getElem_mem hk)
  refine ⟨g, hn, k, hk, hx, rfl, ?_⟩
  refine add_good (x := ⟨t, st.v[k].bl⟩) g hn hv.2.1 (ret_bagG g _ hv.2.1) (fun i => errB_retG _ _ i) hv.2.2 (fun y hy => ?_)
  unfold ret at hy
  rw [List.mem_map] at hy
  obtain ⟨z, hz, rfl⟩ := hy
  have hr := g.refs z hz
  show z.r + cnt st.v[k].bl (idOf z) = cnt st.v[k].bl (idOf z) + cnt (ids st.v) (idOf z)
  omega

theorem cnt_erase {l : List Vo} {k : Nat} (hk : k < l.length) (i : Idn) : cnt (ids l) i = cnt (ids (l.eraseIdx k)) i + cnt l[k].bl i := by
  have e : l = l.take k ++ l[k] :: l.drop (k + 1) := by
    rw [← List.drop_eq_getElem_cons hk, List.take_append_drop]
  rw [List.eraseIdx_eq_take_drop_succ, cnt_ids_appG]
  conv => lhs; rw [e]
  rw [cnt_ids_appG, cnt_ids_cons]
  omega

theorem erase_good {b : List Itm} {l : List Vo} {k : Nat} (g : Good F ⟨b, l⟩) (hk : k < l.length) (h0 : ∀ i ∈ l[k].bl, i = noId) : Good F ⟨b, l.eraseIdx k⟩ := by
  have hl := g.len
  simp only at hl
  refine ⟨g.bag, ?_, fun u hu => g.vol u (List.mem_of_mem_eraseIdx hu), g.ord.sublist (List.eraseIdx_sublist _ _), fun x hx => ?_⟩
  · show (l.eraseIdx k).length ≤ 6
    have := List.length_eraseIdx_le l k
    omega
  · have hr := g.refs x hx
    have hc : cnt l[k].bl (idOf x) = 0 := by
      apply Classical.byContradiction
      intro hne
      have := h0 _ (cnt_mem.2 hne)
      cases this
    show x.r = cnt (ids (l.eraseIdx k)) (idOf x)
    have := cnt_erase hk (idOf x)
    simp only at hr
    omega

theorem vdrop_g {st : Sta} {s : List UInt8} (h : (vdrop F st s).2 = 0) : Good F st ∧ ∃ k, ∃ hk : k < st.v.length, vix (nmB s) st.v = some k ∧ vdrop F st s = (⟨rel F st.b st.v[k].bl, st.v.eraseIdx k⟩, 0) ∧ Good F (vdrop F st s).1 := by
  unfold vdrop at h ⊢
  by_cases h0 : (vfind F st s).2 ≠ 0
  · rw [if_pos h0] at h; exact absurd h h0
  rw [if_neg h0] at h ⊢
  obtain ⟨g, k, hk, hf, hnm, hx⟩ := vfind_g (by omega : (vfind F st s).2 = 0)
  rw [hf]
  simp only
  rw [getElem!_pos st.v k hk]
  refine ⟨g, k, hk, hx, rfl, ?_⟩
  have hg := hol_good g hk st.v[k].bl.length (Nat.le_refl _)
  have hk' : k < (hol F st k st.v[k].bl.length).v.length := by rw [hol_len]; exact hk
  have e1 : hol F st k st.v[k].bl.length = ⟨rel F st.b st.v[k].bl, st.v.set k ⟨st.v[k].nm, List.replicate st.v[k].bl.length noId⟩⟩ := by
    unfold hol
    rw [getElem!_pos st.v k hk, List.take_length, List.drop_length, List.append_nil]
  rw [e1] at hg
  have := erase_good hg (k := k) (by rw [List.length_set]; exact hk) (fun i hi => by
    rw [List.getElem_set_self] at hi
    exact (List.mem_replicate.1 hi).2)
  rw [List.eraseIdx_set_eq] at this
  exact this

/-! ytnmdfdkagkpcaaa# deeds -/

/-- a deed: what, of which, to which, where, with which text -/
structure Opn where
  kd : Int
  nm : List UInt8
  to : List UInt8
  pl : Int
  tx : List UInt8

/-- what is wrong with a deed -/
def chkO (o : Opn) : Int :=
  if o.kd < 1 ∨ 5 < o.kd then 1
  else if nameB o.nm = false ∨ (o.kd = 5 ∧ nameB o.to = false) then 3
  else if o.pl < 0 ∨ 32 < o.pl then 1
  else if 64 < o.tx.length then 2
  else if (o.kd ≠ 5 ∧ o.to ≠ []) ∨ (o.kd ≠ 3 ∧ o.tx ≠ []) ∨ ((o.kd = 2 ∨ o.kd = 5) ∧ o.pl ≠ 0) then 3
  else 0

variable (F)

/-- a deed by its kind -/
def doK (st : Sta) (o : Opn) : Sta × Int :=
  if o.kd = 1 then make F st o.nm o.pl
  else if o.kd = 2 then vdrop F st o.nm
  else if o.kd = 3 then write F st o.nm o.pl o.tx
  else if o.kd = 4 then trim F st o.nm o.pl
  else clone F st o.nm o.to

/-- what Do answers -/
def doO (st : Sta) (o : Opn) : Sta × Int := if chkO o ≠ 0 then (zeroS, chkO o) else doK F st o

/-- a deed that is done, or left -/
def stepO (st : Sta) (o : Opn) : Sta := if (doO F st o).2 = 0 then (doO F st o).1 else st

def deeds (st : Sta) (l : List Opn) : Sta := l.foldl (stepO F) st

/-- a state by deeds -/
def madeO (l : List Opn) : Sta := deeds F zeroS (l.take 60)

variable {F}

theorem doK_good {st : Sta} {o : Opn} (h : (doK F st o).2 = 0) : Good F st ∧ Good F (doK F st o).1 := by
  unfold doK at h ⊢
  by_cases h1 : o.kd = 1
  · rw [if_pos h1] at h ⊢
    obtain ⟨g, _, _, _, _, _, _, g2⟩ := make_g h
    exact ⟨g, g2⟩
  rw [if_neg h1] at h ⊢
  by_cases h2 : o.kd = 2
  · rw [if_pos h2] at h ⊢
    obtain ⟨g, _, _, _, _, g2⟩ := vdrop_g h
    exact ⟨g, g2⟩
  rw [if_neg h2] at h ⊢
  by_cases h3 : o.kd = 3
  · rw [if_pos h3] at h ⊢
    obtain ⟨g, _, _, _, _, _, _, _, _, _, _, hk⟩ := write_g h
    exact ⟨g, hk.good⟩
  rw [if_neg h3] at h ⊢
  by_cases h4 : o.kd = 4
  · rw [if_pos h4] at h ⊢
    obtain ⟨g, _, _, _, _, _, _, _, hk⟩ := trim_g h
    exact ⟨g, hk.good⟩
  rw [if_neg h4] at h ⊢
  obtain ⟨g, _, _, _, _, _, g2⟩ := clone_g h
  exact ⟨g, g2⟩

theorem stepO_good {st : Sta} (g : Good F st) (o : Opn) : Good F (stepO F st o) := by
  unfold stepO
  by_cases h : (doO F st o).2 = 0
  · rw [if_pos h]
    unfold doO at h ⊢
    by_cases hc : chkO o ≠ 0
    · rw [if_pos hc] at h; exact absurd h hc
    · rw [if_neg hc] at h ⊢
      exact (doK_good h).2
  · rw [if_neg h]; exact g

theorem deeds_good : ∀ (l : List Opn) {st : Sta}, Good F st → Good F (deeds F st l)
  | [], _, g => g
  | o :: r, _, g => deeds_good r (stepO_good g o)

theorem zero_good : Good F zeroS :=
  ⟨(chk_zero F).1 (by rfl), by simp [zeroS], fun v hv => by simp [zeroS] at hv, by simp [zeroS], fun x hx => by simp [zeroS] at hx⟩

theorem madeO_good (l : List Opn) : Good F (madeO F l) := deeds_good _ zero_good

end WoolVol

/-
  A slice that reads as deeds; a deed as a value. Conditions: as each says.
-/
namespace Go.Proofs.Ytnmdfdkagkpcaaa
open Go.RowKit
open Go.Proofs
open WoolVol

instance : Inhabited Opn := ⟨⟨0, [], [], 0, []⟩⟩

/-- a deed as cells -/
def opC (o : Opn) : List Value := [.int .i64 o.kd, .string (bs o.nm), .string (bs o.to), .int .i64 o.pl, .string (bs o.tx)]
theorem opC_len (o : Opn) : (opC o).length = 5 := rfl
theorem opC_one (o : Opn) : ∀ u ∈ opC o, u.oneCell' = true := by
  intro u h; unfold opC at h; simp at h; rcases h with rfl | rfl | rfl | rfl | rfl <;> rfl

/-- a deed as a value -/
def opA (o : Opn) : Value := .agg #[.int .i64 o.kd, .string (bs o.nm), .string (bs o.to), .int .i64 o.pl, .string (bs o.tx)]

/-- a deed that a call can be handed -/
def OpWf (o : Opn) : Prop := (Lit.int .i64 o.kd).wf = true ∧ o.nm.length ≤ 9223372036854775807 ∧ o.to.length ≤ 9223372036854775807 ∧ (Lit.int .i64 o.pl).wf = true ∧ o.tx.length ≤ 9223372036854775807

/-- a slice that reads as deeds -/
def Ops (w : World) (v : Value) (l : List Opn) : Prop := Sl w 5 v l.length (fl opC l) ∧ ∀ o ∈ l, OpWf o

theorem Ops.up {w w' : World} {v : Value} {l : List Opn} (h : Ops w v l) (hu : Up w w') : Ops w' v l := ⟨Sl.up h.1 hu, h.2⟩
theorem Ops.slice {w : World} {v : Value} {l : List Opn} (h : Ops w v l) : ∃ o c, v = .slice o l.length c ∧ l.length ≤ c ∧ c ≤ maxLen := Sl.slice h.1
theorem Ops.nil (w : World) : Ops w (.slice none 0 0) [] := ⟨Sl.nil w 5, by simp⟩

theorem Ops.at {w : World} {o : Option Addr} {n c : Nat} {l : List Opn} (h : Ops w (.slice o n c) l) (hne : l ≠ []) : ∃ b off, o = some ⟨b, off, none⟩ ∧ ∀ k (hk : k < l.length),
    w.cell? ⟨b, off + k * 5, none⟩ = some (.int .i64 l[k].kd) ∧ w.cell? ⟨b, off + k * 5 + 1, none⟩ = some (.string (bs l[k].nm)) ∧ w.cell? ⟨b, off + k * 5 + 2, none⟩ = some (.string (bs l[k].to)) ∧
    w.cell? ⟨b, off + k * 5 + 3, none⟩ = some (.int .i64 l[k].pl) ∧ w.cell? ⟨b, off + k * 5 + 4, none⟩ = some (.string (bs l[k].tx)) := by
  obtain ⟨b, off, h1, h2⟩ := Sl.cells h.1 (by intro e; exact hne (List.eq_nil_of_length_eq_zero e))
  refine ⟨b, off, h1, fun k hk => ?_⟩
  have g := fun j hj => fl_get opC_len l k hk j hj
  exact ⟨h2 (k * 5 + 0) _ (g 0 (by omega)), h2 (k * 5 + 1) _ (g 1 (by omega)), h2 (k * 5 + 2) _ (g 2 (by omega)), h2 (k * 5 + 3) _ (g 3 (by omega)), h2 (k * 5 + 4) _ (g 4 (by omega))⟩

end Go.Proofs.Ytnmdfdkagkpcaaa
