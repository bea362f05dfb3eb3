/-
  The texts VolN, Fl, one behind the other; each says below what it holds and on what conditions.
-/
import Derived.Test.YtcbppfndlagodaaGreatDoorJVolMakes11
import Derived.Test.YtcbppfndlagodaaGreatDoorJVolMakes01
import Derived.Lib.SliceRun
import Derived.Maps.AppendAt

/-
  Volumes that are added and taken away, in plain words: what is sorted is the inserted; what is trimmed, and what is counted, place by place. Conditions: as each says.
-/
namespace WoolVol
open WoolBag

variable {F : List UInt8 → Int}

theorem slt_asymm {a b : List UInt8} (h : slt a b = true) : slt b a = false := by
  cases hb : slt b a with
  | false => rfl
  | true => have := slt_trans h hb; rw [slt_irrefl] at this; cases this

theorem nm_inj {α : Type} {f : α → List UInt8} {l : List α} (hl : l.Pairwise (fun a b => slt (f a) (f b) = true)) {a b : α} (ha : a ∈ l) (hb : b ∈ l) (e : f a = f b) : a = b := by
  obtain ⟨i, hi, rfl⟩ := List.getElem_of_mem ha
  obtain ⟨j, hj, rfl⟩ := List.getElem_of_mem hb
  have h := List.pairwise_iff_getElem.1 hl
  rcases Nat.lt_trichotomy i j with h1 | h1 | h1
  · have := h i j hi hj h1; rw [e, slt_irrefl] at this; cases this
  · subst h1; rfl
  · have := h j i hj hi h1; rw [e, slt_irrefl] at this; cases this

theorem sorted_ins {α : Type} {f : α → List UInt8} {l : List α} {x : α} {k : Nat} (hl : l.Pairwise (fun a b => slt (f a) (f b) = true)) (hb : ∀ a ∈ l.take k, slt (f a) (f x) = true) (ha : ∀ a ∈ l.drop k, slt (f x) (f a) = true) :
    (l.take k ++ x :: l.drop k).Pairwise (fun a b => slt (f a) (f b) = true) := by
  rw [List.pairwise_append, List.pairwise_cons]
  refine ⟨hl.sublist (List.take_sublist _ _), ⟨ha, hl.sublist (List.drop_sublist _ _)⟩, ?_⟩
  intro a h1 b h2
  rcases List.mem_cons.1 h2 with rfl | h2
  · exact hb a h1
  · exact slt_trans (hb a h1) (ha b h2)

theorem perm_ins {α : Type} {f : α → List UInt8} {l d : List α} {x : α} {k : Nat} (hl : l.Pairwise (fun a b => slt (f a) (f b) = true)) (hb : ∀ a ∈ l.take k, slt (f a) (f x) = true) (ha : ∀ a ∈ l.drop k, slt (f x) (f a) = true)
    (hp : d.Perm (l ++ [x])) (hs : d.Pairwise (fun a b => slt (f b) (f a) = false)) : d = l.take k ++ x :: l.drop k := by
  have hsl := sorted_ins hl hb ha
  have hpp : d.Perm (l.take k ++ x :: l.drop k) := by
    refine hp.trans ?_
    have h1 : (l.take k ++ x :: l.drop k).Perm (x :: (l.take k ++ l.drop k)) := List.perm_middle
    rw [List.take_append_drop] at h1
    exact (h1.trans (List.perm_append_singleton x l).symm).symm
  refine List.Perm.eq_of_pairwise (le := fun a b => slt (f b) (f a) = false) ?_ hs ?_ hpp
  · intro a b h1 h2 h3 h4
    have he : f a = f b := by
      rcases slt_total (f a) (f b) with h | h | h
      · rw [h] at h4; cases h4
      · exact h
      · rw [h] at h3; cases h3
    exact nm_inj hsl (hpp.subset h1) h2 he
  · exact hsl.imp (fun h => slt_asymm h)

theorem vplace_le (s : List UInt8) (l : List Vo) : vplace s l ≤ l.length := by
  unfold vplace
  cases hv : vix (gtB s) l with
  | none => simp
  | some k => obtain ⟨h1, _⟩ := vix_some hv; simp; omega

theorem vplace_below {s : List UInt8} {l : List Vo} (hno : ∀ a ∈ l, a.nm ≠ s) : ∀ j (hj : j < l.length), j < vplace s l → slt l[j].nm s = true := by
  intro j hjl hj
  have hf : gtB s l[j] = false := by
    unfold vplace at hj
    cases hv : vix (gtB s) l with
    | none => exact vix_none.1 hv _ (List.getElem_mem hjl)
    | some k =>
      rw [hv] at hj
      obtain ⟨_, _, h3⟩ := vix_some hv
      exact h3 j (by simpa using hj)
  unfold gtB at hf
  have : sle l[j].nm s = true := by simpa using hf
  rcases (sle_iff _ _).1 this with h | h
  · exact h
  · exact absurd h (hno _ (List.getElem_mem hjl))

theorem vplace_above {s : List UInt8} {l : List Vo} (hl : l.Pairwise (fun a b => slt a.nm b.nm = true)) : ∀ j (hj : j < l.length), vplace s l ≤ j → slt s l[j].nm = true := by
  intro j hjl hj
  unfold vplace at hj
  cases hv : vix (gtB s) l with
  | none => rw [hv] at hj; simp at hj; omega
  | some k =>
    rw [hv] at hj
    obtain ⟨h1, h2, _⟩ := vix_some hv
    have hk : slt s l[k].nm = true := by unfold gtB at h2; rw [sle_not] at h2; exact h2
    simp only [Option.getD_some] at hj
    by_cases e : k = j
    · subst e; exact hk
    · exact slt_trans hk (List.pairwise_iff_getElem.1 hl k j h1 hjl (by omega))

theorem newE_zero {st : Sta} {s : List UInt8} (h : newE st s = 0) : nameB s = true ∧ (∀ a ∈ st.v, a.nm ≠ s) ∧ st.v.length ≠ 6 := by
  unfold newE at h
  cases hn : nameB s with
  | false => rw [hn] at h; simp at h
  | true =>
    rw [hn] at h
    cases ha : st.v.any (nmB s) with
    | true => rw [ha] at h; simp at h
    | false =>
      rw [ha] at h
      simp at h
      refine ⟨rfl, fun a hm e => ?_, h⟩
      have := List.any_eq_false.1 ha a hm
      exact this (by unfold nmB; simp [e])

theorem rel_append : ∀ (a b : List Idn) (l : List Itm), rel F l (a ++ b) = rel F (rel F l a) b
  | [], _, _ => rfl
  | i :: r, b, l => by show rel F _ (r ++ b) = _; rw [rel_append r b]; rfl

/-- a state whose volume k has lost its first j blocks -/
def hol (F : List UInt8 → Int) (st : Sta) (k j : Nat) : Sta := ⟨rel F st.b ((st.v[k]!).bl.take j), st.v.set k ⟨(st.v[k]!).nm, List.replicate j noId ++ (st.v[k]!).bl.drop j⟩⟩

theorem hol_zero {st : Sta} {k : Nat} (hk : k < st.v.length) : hol F st k 0 = st := by
  have e : st.v.set k ⟨st.v[k].nm, st.v[k].bl⟩ = st.v := List.set_getElem_self hk
  unfold hol
  rw [getElem!_pos st.v k hk]
  simp only [List.take_zero, List.replicate_zero, List.nil_append, List.drop_zero, e]
  rfl

theorem hol_len (st : Sta) (k j : Nat) : (hol F st k j).v.length = st.v.length := by unfold hol; simp

theorem hol_at {st : Sta} {k j : Nat} (hk : k < st.v.length) (h : k < (hol F st k j).v.length) : (hol F st k j).v[k] = ⟨st.v[k].nm, List.replicate j noId ++ st.v[k].bl.drop j⟩ := by
  have e : (hol F st k j).v = st.v.set k ⟨st.v[k].nm, List.replicate j noId ++ st.v[k].bl.drop j⟩ := by unfold hol; rw [getElem!_pos st.v k hk]
  have e2 : ∀ (m : List Vo) (_ : m = st.v.set k ⟨st.v[k].nm, List.replicate j noId ++ st.v[k].bl.drop j⟩) (hm : k < m.length), m[k] = ⟨st.v[k].nm, List.replicate j noId ++ st.v[k].bl.drop j⟩ := by rintro m rfl hm; rw [List.getElem_set_self]
  exact e2 _ e h

theorem hol_bl {st : Sta} {k j : Nat} (hk : k < st.v.length) (hj : j ≤ st.v[k].bl.length) (h : k < (hol F st k j).v.length) : ((hol F st k j).v[k]).bl.length = st.v[k].bl.length := by
  rw [hol_at hk h]; simp; omega

theorem hol_here {st : Sta} {k j : Nat} (hk : k < st.v.length) (hj : j < st.v[k].bl.length) (h : k < (hol F st k j).v.length) (h2 : j < ((hol F st k j).v[k]).bl.length) : ((hol F st k j).v[k]).bl[j] = st.v[k].bl[j] := by
  have e : ∀ (L : List Idn) (_ : ((hol F st k j).v[k]).bl = L) (hL : j < L.length), L[j] = ((hol F st k j).v[k]).bl[j] := by rintro L rfl _; rfl
  have e2 : ((hol F st k j).v[k]).bl = List.replicate j noId ++ st.v[k].bl.drop j := by rw [hol_at hk h]
  rw [← e _ e2 (by simp; omega), List.getElem_append_right (by simp), List.getElem_drop]
  simp

theorem hol_step {st : Sta} {k j : Nat} (hk : k < st.v.length) (hj : j < st.v[k].bl.length) : (⟨rel F (hol F st k j).b [st.v[k].bl[j]], setB (hol F st k j).v k j noId⟩ : Sta) = hol F st k (j + 1) := by
  have hk' : k < (hol F st k j).v.length := by rw [hol_len]; exact hk
  rw [setB_eq hk', hol_at hk hk']
  unfold hol
  rw [getElem!_pos st.v k hk]
  congr 1
  · rw [List.take_succ_eq_append_getElem hj, rel_append]
  · simp only [List.set_set]
    congr 2
    have e0 : j - (List.replicate j noId).length = 0 := by simp
    rw [List.set_append_right _ _ (by simp), e0, List.drop_eq_getElem_cons hj, List.set_cons_zero, List.replicate_succ', List.append_assoc]
    rfl

theorem hol_good {st : Sta} {k : Nat} (g : Good F st) (hk : k < st.v.length) : ∀ j, j ≤ st.v[k].bl.length → Good F (hol F st k j)
  | 0, _ => by rw [hol_zero hk]; exact g
  | j + 1, h => by
    have ih := hol_good g hk j (by omega)
    have hk' : k < (hol F st k j).v.length := by rw [hol_len]; exact hk
    have hb := hol_bl (F := F) hk (j := j) (by omega) hk'
    have := (trim_keeps ih hk' (j := j) (by omega)).good
    rw [hol_here hk (by omega) hk' (by omega), hol_step hk (by omega)] at this
    exact this

theorem hol_bag {st : Sta} {k : Nat} (hk : k < st.v.length) : (hol F st k st.v[k].bl.length).b = rel F st.b st.v[k].bl := by
  unfold hol
  rw [getElem!_pos st.v k hk, List.take_length]

theorem hol_vol {st : Sta} {k j : Nat} : (hol F st k j).v.take k ++ (hol F st k j).v.drop (k + 1) = st.v.eraseIdx k := by
  unfold hol
  rw [List.eraseIdx_eq_take_drop_succ]
  simp [List.take_set_of_le, List.drop_set_of_lt]

theorem ret_nil (l : List Itm) : ret l [] = l := by
  unfold ret
  have : ∀ x : Itm, more x (cnt [] (idOf x)) = x := fun x => by unfold more; rw [cnt_nil]; simp
  simp [this]

theorem ret_len (l : List Itm) (bl : List Idn) : (ret l bl).length = l.length := by unfold ret; simp

theorem ret_at {l : List Itm} {bl : List Idn} {k : Nat} (hk : k < l.length) (h : k < (ret l bl).length) : (ret l bl)[k] = more l[k] (cnt bl (idOf l[k])) := by
  have e2 : ∀ (m : List Itm) (_ : m = l.map (fun x => more x (cnt bl (idOf x)))) (hm : k < m.length), m[k] = more l[k] (cnt bl (idOf l[k])) := by rintro m rfl hm; rw [List.getElem_map]
  exact e2 _ rfl h

theorem ret_hole {l : List Itm} {bl : List Idn} {i : Idn} (h : i.1 = false) : ret l (bl ++ [i]) = ret l bl := by
  unfold ret
  refine List.map_congr_left (fun x _ => ?_)
  rw [cnt_snoc, if_neg (by rintro rfl; cases h)]
  simp

theorem ret_hit {l : List Itm} {bl : List Idn} {i : Idn} (hb : Bag F l) {k : Nat} (hk : k < l.length) (hi : i = idOf l[k]) : ret l (bl ++ [i]) = (ret l bl).set k (more l[k] (cnt bl i + 1)) := by
  refine List.ext_getElem (by rw [List.length_set, ret_len, ret_len]) (fun j h1 h2 => ?_)
  have hj : j < l.length := by rwa [ret_len] at h1
  rw [ret_at hj]
  by_cases e : k = j
  · subst e
    rw [List.getElem_set_self, cnt_snoc, if_pos hi, hi]
  · rw [List.getElem_set_ne e, ret_at hj, cnt_snoc, if_neg]
    · simp
    · intro h
      exact e (hb.id_inj hk hj (hi.symm.trans h))

theorem idx_ret {l : List Itm} {bl : List Idn} {i : Idn} (hb : Bag F l) {k : Nat} (hk : k < l.length) (hi : i = idOf l[k]) : idx (idB i) (ret l bl) = some k := by
  refine idx_of (by rw [ret_len]; exact hk) ?_ (fun j hj => ?_)
  · rw [ret_at hk, idB_iff]; exact hi
  · have hjl : j < l.length := by omega
    rw [ret_at hjl, Bool.eq_false_iff, Ne, idB_iff]
    intro h
    have : j = k := hb.id_inj hjl hk (h.symm.trans hi)
    omega

end WoolVol

/-
  Lists of elements of several cells each, as rows of cells; slices that read as such rows (Sl), rows that are known whole (RowC). Conditions: as each says.
-/
namespace Go.Proofs.YtcbppfndlagodaaGreatDoor
open Go.RowKit
open Go.Proofs

/-- elements as cells -/
def fl {α : Type} (f : α → List Value) : List α → List Value
  | [] => []
  | x :: r => f x ++ fl f r

section
variable {α : Type} {f : α → List Value} {m : Nat}

theorem fl_append : ∀ a b : List α, fl f (a ++ b) = fl f a ++ fl f b
  | [], _ => rfl
  | x :: r, b => by rw [List.cons_append]; show f x ++ fl f (r ++ b) = f x ++ fl f r ++ fl f b; rw [fl_append r b, List.append_assoc]

theorem fl_length (hf : ∀ x, (f x).length = m) : ∀ l : List α, (fl f l).length = l.length * m
  | [] => by simp [fl]
  | x :: r => by show (f x ++ fl f r).length = _; rw [List.length_append, fl_length hf r, List.length_cons, hf, Nat.add_mul]; omega

theorem fl_take (hf : ∀ x, (f x).length = m) : ∀ (l : List α) (k : Nat), fl f (l.take k) = (fl f l).take (k * m)
  | [], k => by simp [fl]
  | x :: r, 0 => by simp [fl]
  | x :: r, k + 1 => by
    show f x ++ fl f (r.take k) = (f x ++ fl f r).take ((k + 1) * m)
    have e : (k + 1) * m = m + k * m := by rw [Nat.add_mul]; omega
    rw [fl_take hf r k, List.take_append, hf, List.take_of_length_le (l := f x) (by rw [hf, e]; omega), e, Nat.add_sub_cancel_left]

theorem fl_drop (hf : ∀ x, (f x).length = m) : ∀ (l : List α) (k : Nat), fl f (l.drop k) = (fl f l).drop (k * m)
  | [], k => by simp [fl]
  | x :: r, 0 => by simp
  | x :: r, k + 1 => by
    show fl f (r.drop k) = (f x ++ fl f r).drop ((k + 1) * m)
    have e : (k + 1) * m = m + k * m := by rw [Nat.add_mul]; omega
    rw [fl_drop hf r k, List.drop_append, hf, List.drop_of_length_le (l := f x) (by rw [hf, e]; omega), e, Nat.add_sub_cancel_left, List.nil_append]

theorem fl_get (hf : ∀ x, (f x).length = m) : ∀ (l : List α) (k : Nat) (h : k < l.length) (j : Nat) (_ : j < m), (fl f l)[k * m + j]? = (f l[k])[j]?
  | [], k, h, _, _ => by simp at h
  | x :: r, 0, h, j, hj => by
    show (f x ++ fl f r)[0 * m + j]? = (f x)[j]?
    rw [Nat.zero_mul, Nat.zero_add, List.getElem?_append_left (by rw [hf]; exact hj)]
  | x :: r, k + 1, h, j, hj => by
    have hk : k < r.length := by simpa using h
    show (f x ++ fl f r)[(k + 1) * m + j]? = (f r[k])[j]?
    have e : (k + 1) * m + j = m + (k * m + j) := by rw [Nat.add_mul]; omega
    rw [e, List.getElem?_append_right (by rw [hf]; omega), hf, Nat.add_sub_cancel_left]
    exact fl_get hf r k hk j hj

theorem fl_one (h1 : ∀ x, ∀ u ∈ f x, u.oneCell' = true) : ∀ (l : List α), ∀ u ∈ fl f l, u.oneCell' = true
  | [], u, h => by simp [fl] at h
  | x :: r, u, h => by
    change u ∈ f x ++ fl f r at h
    rw [List.mem_append] at h
    rcases h with h | h
    · exact h1 x u h
    · exact fl_one h1 r u h

theorem fl_set (hf : ∀ x, (f x).length = m) (l : List α) (k : Nat) (h : k < l.length) (y : α) : fl f (l.set k y) = (fl f l).take (k * m) ++ (f y ++ (fl f l).drop (k * m + m)) := by
  have e : l.set k y = l.take k ++ y :: l.drop (k + 1) := by rw [List.set_eq_take_append_cons_drop, if_pos h]
  have e2 : k * m + m = (k + 1) * m := by rw [Nat.add_mul]; omega
  rw [e, fl_append, fl_take hf, e2]
  show _ ++ (f y ++ fl f (l.drop (k + 1))) = _
  rw [fl_drop hf]

end

/-- a slice that reads as n elements of m cells each -/
def Sl (w : World) (m : Nat) (v : Value) (n : Nat) (L : List Value) : Prop :=
  L.length = n * m ∧ ∃ o c, v = .slice o n c ∧ n ≤ c ∧ c ≤ maxLen ∧ (n = 0 ∨ ∃ b off, o = some ⟨b, off, none⟩ ∧ ∀ (j : Nat) (u : Value), L[j]? = some u → w.cell? ⟨b, off + j, none⟩ = some u)

theorem Sl.below {w w' : World} {m n N : Nat} {v : Value} {L : List Value} (h : Sl w m v n L) (hu : Below N w w') (hn : ∀ b, v.ownBlock = some b → b < N) : Sl w' m v n L := by
  obtain ⟨h0, o, c, rfl, h2, h3, h4⟩ := h
  refine ⟨h0, o, c, rfl, h2, h3, ?_⟩
  rcases h4 with h4 | ⟨b, off, rfl, h6⟩
  · exact .inl h4
  · exact .inr ⟨b, off, rfl, fun j u hj => (hu.cell (p := ⟨b, _, none⟩) (hn b rfl)).trans (h6 j u hj)⟩

theorem Sl.up {w w' : World} {m n : Nat} {v : Value} {L : List Value} (h : Sl w m v n L) (hu : Up w w') : Sl w' m v n L := by
  obtain ⟨h0, o, c, h1, h2, h3, h4⟩ := h
  refine ⟨h0, o, c, h1, h2, h3, ?_⟩
  rcases h4 with h4 | ⟨b, off, h5, h6⟩
  · exact .inl h4
  · exact .inr ⟨b, off, h5, fun j u hj => (hu.cell (World.block_lt_of_cell? w _ (h6 j u hj))).trans (h6 j u hj)⟩

/-- kept by whatever leaves its block as it is -/
theorem Sl.kept {w w' : World} {m n : Nat} {v : Value} {L : List Value} {row : Option Nat} (h : Sl w m v n L) (hg : w.grownBy w' row) (hne : ∀ b, v.ownBlock = some b → row ≠ some b) : Sl w' m v n L := by
  obtain ⟨h0, o, c, rfl, h2, h3, h4⟩ := h
  refine ⟨h0, o, c, rfl, h2, h3, ?_⟩
  rcases h4 with h4 | ⟨b, off, rfl, h6⟩
  · exact .inl h4
  · refine .inr ⟨b, off, rfl, fun j u hj => ?_⟩
    have hc := h6 j u hj
    have hlt := World.block_lt_of_cell? w _ hc
    have hb := hg.block b hlt (fun e => hne b rfl e.symm)
    unfold World.cell? at hc ⊢
    rw [hb]; exact hc

theorem Sl.nil (w : World) (m : Nat) : Sl w m (.slice none 0 0) 0 [] := ⟨by simp, none, 0, rfl, Nat.le_refl _, by unfold maxLen; omega, .inl rfl⟩

theorem Sl.slice {w : World} {m n : Nat} {v : Value} {L : List Value} (h : Sl w m v n L) : ∃ o c, v = .slice o n c ∧ n ≤ c ∧ c ≤ maxLen := by
  obtain ⟨_, o, c, h1, h2, h3, _⟩ := h
  exact ⟨o, c, h1, h2, h3⟩

theorem Sl.cells {w : World} {m n : Nat} {o : Option Addr} {n' c : Nat} {L : List Value} (h : Sl w m (.slice o n' c) n L) (hne : n ≠ 0) : ∃ b off, o = some ⟨b, off, none⟩ ∧ ∀ (j : Nat) (u : Value), L[j]? = some u → w.cell? ⟨b, off + j, none⟩ = some u := by
  obtain ⟨_, o', c', h1, _, _, h4⟩ := h
  cases h1
  exact h4.resolve_left hne

theorem Sl.of_own {w : World} {base e m n : Nat} {v : Value} {L : List Value} (h : w.ownsRow base e m v n L) : Sl w m v n L := by
  refine ⟨h.1, ?_⟩
  rcases h.2 with ⟨rfl, h0⟩ | ⟨g, cap, cur, rfl, _, h2, h3, h4, h5, h6⟩
  · subst h0; exact ⟨none, 0, rfl, Nat.le_refl _, by unfold maxLen; omega, .inl rfl⟩
  · refine ⟨_, cap, rfl, h3, h4, .inr ⟨g, 0, rfl, fun j u hj => ?_⟩⟩
    have hlt : j < n * m := by rw [← h.1]; exact (List.getElem?_eq_some_iff.1 hj).1
    rw [Nat.zero_add, cell_of_row _ _ j _ _ _ h2]
    rw [← h6, List.getElem?_take_of_lt hlt] at hj
    rw [← hj]; simp

/-- a block that is a row of cells, known whole -/
def RowC (w : World) (g : Nat) (T : TypeId) (L : List Value) : Prop := w.heap[g]? = some (.cells L.toArray T (0, 0))

theorem RowC.lt {w : World} {g T : Nat} {L : List Value} (h : RowC w g T L) : g < w.heap.size := (Array.getElem?_eq_some_iff.1 h).1
theorem RowC.at {w : World} {g T : Nat} {L : List Value} (h : RowC w g T L) (j : Nat) : w.cell? ⟨g, j, none⟩ = L[j]? := by
  rw [cell_of_row _ _ j _ _ _ h, List.getElem?_toArray]
theorem RowC.cell {w : World} {g T : Nat} {L : List Value} {j : Nat} {v : Value} (h : RowC w g T L) (hj : L[j]? = some v) : w.cell? ⟨g, j, none⟩ = some v := (h.at j).trans hj
theorem RowC.frozen {w : World} {g T : Nat} {L : List Value} (h : RowC w g T L) (j : Nat) : w.frozen? ⟨g, j, none⟩ = false := by
  unfold RowC at h; simp [World.frozen?, h]
theorem RowC.set {w : World} {g T : Nat} {L : List Value} (h : RowC w g T L) (j : Nat) (v : Value) : RowC (w.setCell ⟨g, j, none⟩ v) g T (L.set j v) := by
  unfold RowC at h ⊢
  simp [World.setCell, Array.getElem?_modify, h]
theorem RowC.other {w : World} {g T g' : Nat} {L : List Value} (h : RowC w g T L) (hne : g ≠ g') (j : Nat) (v : Value) : RowC (w.setCell ⟨g', j, none⟩ v) g T L := by
  unfold RowC at h ⊢
  simp [World.setCell, Array.getElem?_modify, h, Ne.symm hne]
theorem RowC.below {w w' : World} {g T n : Nat} {L : List Value} (h : RowC w g T L) (hb : Below n w w') (hg : g < n) : RowC w' g T L := (hb.block g hg).trans h
theorem RowC.up {w w' : World} {g T : Nat} {L : List Value} (h : RowC w g T L) (hb : Up w w') : RowC w' g T L := h.below hb h.lt
theorem RowC.kept {w w' : World} {g T : Nat} {L : List Value} {row : Option Nat} (h : RowC w g T L) (hg : w.grownBy w' row) (hne : row ≠ some g) : RowC w' g T L := (hg.block g h.lt (fun e => hne e.symm)).trans h
theorem RowC.apart {w : World} {g T g' T' : Nat} {L L' : List Value} (h : RowC w g T L) (h' : RowC w g' T' L') (hne : T ≠ T') : g ≠ g' := by
  rintro rfl
  unfold RowC at h h'
  rw [h] at h'
  simp at h'
  exact hne h'.2

theorem own_mk {w : World} {base g T m n cap : Nat} {L sp : List Value} (hb : base ≤ g) (h : RowC w g T (L ++ sp)) (h0 : L.length = n * m) (h1 : n ≤ cap) (h2 : cap ≤ maxLen) (h3 : n * m + sp.length = cap * m) :
    w.ownsRow base T m (.slice (some ⟨g, 0, none⟩) n cap) n L := by
  refine ⟨h0, .inr ⟨g, cap, (L ++ sp).toArray, rfl, hb, h, h1, h2, ?_, ?_⟩⟩
  · rw [List.size_toArray, List.length_append, h0]; exact h3
  · rw [← h0]; simp

theorem own_row {w : World} {base T m n : Nat} {v : Value} {L : List Value} (h : w.ownsRow base T m v n L) :
    (v = .slice none 0 0 ∧ n = 0 ∧ L = []) ∨ ∃ g cap sp, v = .slice (some ⟨g, 0, none⟩) n cap ∧ base ≤ g ∧ RowC w g T (L ++ sp) ∧ n ≤ cap ∧ cap ≤ maxLen ∧ n * m + sp.length = cap * m := by
  have h0 := h.1
  rcases h.2 with ⟨h1, h2⟩ | ⟨g, cap, cur, h1, h2, h3, h4, h5, h6, h7⟩
  · subst h2; exact .inl ⟨h1, rfl, List.eq_nil_of_length_eq_zero (by simpa using h0)⟩
  · refine .inr ⟨g, cap, cur.toList.drop (n * m), h1, h2, ?_, h4, h5, ?_⟩
    · unfold RowC
      rw [h3, ← h7, List.take_append_drop]
    · have hs : cur.toList.length = cur.size := Array.length_toList
      have hm : n * m ≤ cap * m := Nat.mul_le_mul_right m h4
      rw [List.length_drop, hs, h6]
      omega

end Go.Proofs.YtcbppfndlagodaaGreatDoor
