/-
  Volumes that are added and taken away, in plain words: what is sorted is the inserted; what is trimmed, and what is counted, place by place. Conditions: as each says.
-/
import Derived.Test.YtnmdfdkagkpcaaaJVolOwn10
namespace WoolVol
open WoolBag

variable {F : List UInt8 → Int}

theorem slt_asymm {a b : List UInt8} (h : slt a b = true) : slt b a = false := by
  cases hb : slt b a with
  | false => rfl
  | true => have := slt_trans h hb; rw [slt_irrefl] at this; cases this

theorem nm_inj {α : Type} {f : α → List UInt8} {l : List α} (hl : l.Pairwise (fun a b => slt (f a) (f b) = true)) {a b : α} (ha : a ∈ l) (hb : b ∈ l) (e : f a = f b) : a = b := by
  obtain ⟨i, hi, rfl⟩ := List.getElem_of_mem ha
  obtain ⟨j, hj, rfl⟩ := List.getElem_of_mem hb
  have h := List.pairwise_iff_getElem.1 hl
  rcases Nat.lt_trichotomy i j with h1 | h1 | h1
  · have := h i j hi hj h1; rw [e, slt_irrefl] at this; cases this
  · subst h1; rfl
  · have := h j i hj hi h1; rw [e, slt_irrefl] at this; cases this

theorem sorted_ins {α : Type} {f : α → List UInt8} {l : List α} {x : α} {k : Nat} (hl : l.Pairwise (fun a b => slt (f a) (f b) = true)) (hb : ∀ a ∈ l.take k, slt (f a) (f x) = true) (ha : ∀ a ∈ l.drop k, slt (f x) (f a) = true) :
    (l.take k ++ x :: l.drop k).Pairwise (fun a b => slt (f a) (f b) = true) := by
  rw [List.pairwise_append, List.pairwise_cons]
  refine ⟨hl.sublist (List.take_sublist _ _), ⟨ha, hl.sublist (List.drop_sublist _ _)⟩, ?_⟩
  intro a h1 b h2
  rcases List.mem_cons.1 h2 with rfl | h2
  · exact hb a h1
  · exact slt_trans (hb a h1) (ha b h2)

theorem perm_ins {α : Type} {f : α → List UInt8} {l d : List α} {x : α} {k : Nat} (hl : l.Pairwise (fun a b => slt (f a) (f b) = true)) (hb : ∀ a ∈ l.take k, slt (f a) (f x) = true) (ha : ∀ a ∈ l.drop k, slt (f x) (f a) = true)
    (hp : d.Perm (l ++ [x])) (hs : d.Pairwise (fun a b => slt (f b) (f a) = false)) : d = l.take k ++ x :: l.drop k := by
  have hsl := sorted_ins hl hb ha
  have hpp : d.Perm (l.take k ++ x :: l.drop k) := by
    refine hp.trans ?_
    have h1 : (l.take k ++ x :: l.drop k).Perm (x :: (l.take k ++ l.drop k)) := List.perm_middle
    rw [List.take_append_drop] at h1
    exact (h1.trans (List.perm_append_singleton x l).symm).symm
  refine List.Perm.eq_of_pairwise (le := fun a b => slt (f b) (f a) = false) ?_ hs ?_ hpp
  · intro a b h1 h2 h3 h4
    have he : f a = f b := by
      rcases slt_total (f a) (f b) with h | h | h
      · rw [h] at h4; cases h4
      · exact h
      · rw [h] at h3; cases h3
    exact nm_inj hsl (hpp.subset h1) h2 he
  · exact hsl.imp (fun h => slt_asymm h)

theorem vplace_le (s : List UInt8) (l : List Vo) : vplace s l ≤ l.length := by
  unfold vplace
  cases hv : vix (gtB s) l with
  | none => simp
  | some k => obtain ⟨h1, _⟩ := vix_some hv; simp; omega

theorem vplace_below {s : List UInt8} {l : List Vo} (hno : ∀ a ∈ l, a.nm ≠ s) : ∀ j (hj : j < l.length), j < vplace s l → slt l[j].nm s = true := by
  intro j hjl hj
  have hf : gtB s l[j] = false := by
    unfold vplace at hj
    cases hv : vix (gtB s) l with
    | none => exact vix_none.1 hv _ (List.getElem_mem hjl)
    | some k =>
      rw [hv] at hj
      obtain ⟨_, _, h3⟩ := vix_some hv
      exact h3 j (by simpa using hj)
  unfold gtB at hf
  have : sle l[j].nm s = true := by simpa using hf
  rcases (sle_iff _ _).1 this with h | h
  · exact h
  · exact absurd h (hno _ (List.getElem_mem hjl))

theorem vplace_above {s : List UInt8} {l : List Vo} (hl : l.Pairwise (fun a b => slt a.nm b.nm = true)) : ∀ j (hj : j < l.length), vplace s l ≤ j → slt s l[j].nm = true := by
  intro j hjl hj
  unfold vplace at hj
  cases hv : vix (gtB s) l with
  | none => rw [hv] at hj; simp at hj; omega
  | some k =>
    rw [hv] at hj
    obtain ⟨h1, h2, _⟩ := vix_some hv
    have hk : slt s l[k].nm = true := by unfold gtB at h2; rw [sle_not] at h2; exact h2
    simp only [Option.getD_some] at hj
    by_cases e : k = j
    · subst e; exact hk
    · exact slt_trans hk (List.pairwise_iff_getElem.1 hl k j h1 hjl (by omega))

theorem newE_zero {st : Sta} {s : List UInt8} (h : newE st s = 0) : nameB s = true ∧ (∀ a ∈ st.v, a.nm ≠ s) ∧ st.v.length ≠ 6 := by
  unfold newE at h
  cases hn : nameB s with
  | false => rw [hn] at h; simp at h
  | true =>
    rw [hn] at h
    cases ha : st.v.any (nmB s) with
    | true => rw [ha] at h; simp at h
    | false =>
      rw [ha] at h
      simp at h
      refine ⟨rfl, fun a hm e => ?_, h⟩
      have := List.any_eq_false.1 ha a hm
      exact this (by unfold nmB; simp [e])

theorem rel_append : ∀ (a b : List Idn) (l : List Itm), rel F l (a ++ b) = rel F (rel F l a) b
  | [], _, _ => rfl
  | i :: r, b, l => by show rel F _ (r ++ b) = _; rw [rel_append r b]; rfl

/-- a state whose volume k has lost its first j blocks -/
def hol (F : List UInt8 → Int) (st : Sta) (k j : Nat) : Sta := ⟨rel F st.b ((st.v[k]!).bl.take j), st.v.set k ⟨(st.v[k]!).nm, List.replicate j noId ++ (st.v[k]!).bl.drop j⟩⟩

theorem hol_zero {st : Sta} {k : Nat} (hk : k < st.v.length) : hol F st k 0 = st := by
  have e : st.v.set k ⟨st.v[k].nm, st.v[k].bl⟩ = st.v := List.set_getElem_self hk
  unfold hol
  rw [getElem!_pos st.v k hk]
  simp only [List.take_zero, List.replicate_zero, List.nil_append, List.drop_zero, e]
  rfl

theorem hol_len (st : Sta) (k j : Nat) : (hol F st k j).v.length = st.v.length := by unfold hol; simp

theorem hol_at {st : Sta} {k j : Nat} (hk : k < st.v.length) (h : k < (hol F st k j).v.length) : (hol F st k j).v[k] = ⟨st.v[k].nm, List.replicate j noId ++ st.v[k].bl.drop j⟩ := by
  have e : (hol F st k j).v = st.v.set k ⟨st.v[k].nm, List.replicate j noId ++ st.v[k].bl.drop j⟩ := by unfold hol; rw [getElem!_pos st.v k hk]
  have e2 : ∀ (m : List Vo) (_ : m = st.v.set k ⟨st.v[k].nm, List.replicate j noId ++ st.v[k].bl.drop j⟩) (hm : k < m.length), m[k] = ⟨st.v[k].nm, List.replicate j noId ++ st.v[k].bl.drop j⟩ := by rintro m rfl hm; rw [List.getElem_set_self]
  exact e2 _ e h

theorem hol_bl {st : Sta} {k j : Nat} (hk : k < st.v.length) (hj : j ≤ st.v[k].bl.length) (h : k < (hol F st k j).v.length) : ((hol F st k j).v[k]).bl.length = st.v[k].bl.length := by
  rw [hol_at hk h]; simp; omega

theorem hol_here {st : Sta} {k j : Nat} (hk : k < st.v.length) (hj : j < st.v[k].bl.length) (h : k < (hol F st k j).v.length) (h2 : j < ((hol F st k j).v[k]).bl.length) : ((hol F st k j).v[k]).bl[j] = st.v[k].bl[j] := by
  have e : ∀ (L : List Idn) (_ : ((hol F st k j).v[k]).bl = L) (hL : j < L.length), L[j] = ((hol F st k j).v[k]).bl[j] := by rintro L rfl _; rfl
  have e2 : ((hol F st k j).v[k]).bl = List.replicate j noId ++ st.v[k].bl.drop j := by rw [hol_at hk h]
  rw [← e _ e2 (by simp; omega), List.getElem_append_right (by simp), List.getElem_drop]
  simp

theorem hol_step {st : Sta} {k j : Nat} (hk : k < st.v.length) (hj : j < st.v[k].bl.length) : (⟨rel F (hol F st k j).b [st.v[k].bl[j]], setB (hol F st k j).v k j noId⟩ : Sta) = hol F st k (j + 1) := by
  have hk' : k < (hol F st k j).v.length := by rw [hol_len]; exact hk
  rw [setB_eq hk', hol_at hk hk']
  unfold hol
  rw [getElem!_pos st.v k hk]
  congr 1
  · rw [List.take_succ_eq_append_getElem hj, rel_append]
  · simp only [List.set_set]
    congr 2
    have e0 : j - (List.replicate j noId).length = 0 := by simp
    rw [List.set_append_right _ _ (by simp), e0, List.drop_eq_getElem_cons hj, List.set_cons_zero, List.replicate_succ', List.append_assoc]
    rfl

theorem hol_good {st : Sta} {k : Nat} (g : Good F st) (hk : k < st.v.length) : ∀ j, j ≤ st.v[k].bl.length → Good F (hol F st k j)
  | 0, _ => by rw [hol_zero hk]; exact g
  | j + 1, h => by
    have ih := hol_good g hk j (by omega)
    have hk' : k < (hol F st k j).v.length := by rw [hol_len]; exact hk
    have hb := hol_bl (F := F) hk (j := j) (by omega) hk'
    have := (trim_keeps ih hk' (j := j) (by omega)).good
    rw [hol_here hk (by omega) hk' (by omega), hol_step hk (by omega)] at this
    exact this

theorem hol_bag {st : Sta} {k : Nat} (hk : k < st.v.length) : (hol F st k st.v[k].bl.length).b = rel F st.b st.v[k].bl := by
  unfold hol
  rw [getElem!_pos st.v k hk, List.take_length]

theorem hol_vol {st : Sta} {k j : Nat} : (hol F st k j).v.take k ++ (hol F st k j).v.drop (k + 1) = st.v.eraseIdx k := by
  unfold hol
  rw [List.eraseIdx_eq_take_drop_succ]
  simp [List.take_set_of_le, List.drop_set_of_lt]

theorem ret_nil (l : List Itm) : ret l [] = l := by
  unfold ret
  have : ∀ x : Itm, more x (cnt [] (idOf x)) = x := fun x => by unfold more; rw [cnt_nil]; simp
  simp [this]

theorem ret_len (l : List Itm) (bl : List Idn) : (ret l bl).length = l.length := by unfold ret; simp

theorem ret_at {l : List Itm} {bl : List Idn} {k : Nat} (hk : k < l.length) (h : k < (ret l bl).length) : (ret l bl)[k] = more l[k] (cnt bl (idOf l[k])) := by
  have e2 : ∀ (m : List Itm) (_ : m = l.map (fun x => more x (cnt bl (idOf x)))) (hm : k < m.length), m[k] = more l[k] (cnt bl (idOf l[k])) := by rintro m rfl hm; rw [List.getElem_map]
  exact e2 _ rfl h

theorem ret_hole {l : List Itm} {bl : List Idn} {i : Idn} (h : i.1 = false) : ret l (bl ++ [i]) = ret l bl := by
  unfold ret
  refine List.map_congr_left (fun x _ => ?_)
  rw [cnt_snoc, if_neg (by rintro rfl; cases h)]
  simp

theorem ret_hit {l : List Itm} {bl : List Idn} {i : Idn} (hb : Bag F l) {k : Nat} (hk : k < l.length) (hi : i = idOf l[k]) : ret l (bl ++ [i]) = (ret l bl).set k (more l[k] (cnt bl i + 1)) := by
  refine List.ext_getElem (by rw [List.length_set, ret_len, ret_len]) (fun j h1 h2 => ?_)
  have hj : j < l.length := by rwa [ret_len] at h1
  rw [ret_at hj]
  by_cases e : k = j
  · subst e
    rw [List.getElem_set_self, cnt_snoc, if_pos hi, hi]
  · rw [List.getElem_set_ne e, ret_at hj, cnt_snoc, if_neg]
    · simp
    · intro h
      exact e (hb.id_inj hk hj (hi.symm.trans h))

theorem idx_ret {l : List Itm} {bl : List Idn} {i : Idn} (hb : Bag F l) {k : Nat} (hk : k < l.length) (hi : i = idOf l[k]) : idx (idB i) (ret l bl) = some k := by
  refine idx_of (by rw [ret_len]; exact hk) ?_ (fun j hj => ?_)
  · rw [ret_at hk, idB_iff]; exact hi
  · have hjl : j < l.length := by omega
    rw [ret_at hjl, Bool.eq_false_iff, Ne, idB_iff]
    intro h
    have : j = k := hb.id_inj hjl hk (h.symm.trans hi)
    omega

end WoolVol
