/-
  The texts VolR, VolN, Print2, one behind the other; each says below what it holds and on what conditions.
-/
import Derived.Test.YtcbppfndlagodaaGreatJTopBackup05
import Derived.Test.YtcbppfndlagodaaGreatJTopBackup27
import Derived.Test.YtcbppfndlagodaaGreatJTopBackup12

/-
  Copying block by block, in plain words. Conditions: as each says.
-/
namespace Go.Proofs.YtcbppfndlagodaaGreat
open Go.RowKit
open Go.Proofs
open WoolBag
open WoolVol

theorem trim_step {st : Sta} {s : List UInt8} {a : Int} (h : (trim FP st s a).2 = 0) : ∃ k j : Nat, a = (j : Int) ∧ k < st.v.length ∧ vix (nmB s) st.v = some k ∧ Keeps FP st (trim FP st s a).1 k j none := by
  have hvl : (vloc FP st s a).2 = 0 := by
    apply Classical.byContradiction
    intro hne
    rw [trim_no hne] at h
    exact hne h
  obtain ⟨hg, k, hk, j, rfl, hj, hf, _, hx⟩ := vloc_ok hvl
  refine ⟨k, j, rfl, hk, hx, ?_⟩
  rw [trim_yes hk hj hf]
  exact trim_keeps hg hk hj

theorem write_step {st : Sta} {s t : List UInt8} {a : Int} (h : (write FP st s a t).2 = 0) : ∃ k j : Nat, a = (j : Int) ∧ k < st.v.length ∧ vix (nmB s) st.v = some k ∧ Keeps FP st (write FP st s a t).1 k j (some t) := by
  have ht : (trim FP st s a).2 = 0 := by
    apply Classical.byContradiction
    intro hne
    rw [write_no hne] at h
    exact hne h
  have hvl : (vloc FP st s a).2 = 0 := by
    apply Classical.byContradiction
    intro hne
    rw [trim_no hne] at ht
    exact hne ht
  have hp : (WoolBag.put FP (trim FP st s a).1.b t).2.2 = 0 := by
    apply Classical.byContradiction
    intro hne
    rw [write_full ht hne] at h
    exact hne h
  obtain ⟨hg, k, hk, j, rfl, hj, hf, _, hx⟩ := vloc_ok hvl
  refine ⟨k, j, rfl, hk, hx, ?_⟩
  rw [write_yes ht hp, hf]
  rw [trim_yes hk hj hf] at hp ⊢
  simp only [Int.toNat_natCast]
  exact write_keeps hg hk hj (t := t) (Prod.ext rfl (Prod.ext rfl hp))

theorem read_tx {st : Sta} {s : List UInt8} {k j : Nat} (g : WoolVol.Good FP st) (hk : k < st.v.length) (hj : j < st.v[k].bl.length) (h : vloc FP st s (j : Int) = (k, 0)) : WoolVol.read FP st s (j : Int) = ((txAt st k j).getD [], 0) := by
  unfold WoolVol.read
  rw [h, if_neg (by simp)]
  simp only [Int.toNat_natCast]
  exact get_tx g hk hj

/-- one block copied, from the texts of the first state -/
def cpStep (st0 : Sta) (kf : Nat) (b : List UInt8) (cur : Sta) (p : Int) : Sta × Int :=
  match txAt st0 kf p.toNat with
  | some t => write FP cur b p t
  | none => trim FP cur b p

/-- blocks copied, one behind the other -/
def cpL (st0 : Sta) (kf L : Nat) (b : List UInt8) : Sta → List Int → Sta × Int
  | cur, [] => (cur, 0)
  | cur, p :: r => if p < 0 ∨ (L : Int) ≤ p then (zeroS, 1) else if (cpStep st0 kf b cur p).2 ≠ 0 then (zeroS, (cpStep st0 kf b cur p).2) else cpL st0 kf L b (cpStep st0 kf b cur p).1 r

/-- a state that copying leaves -/
structure CpI (st0 : Sta) (kf : Nat) (cur : Sta) : Prop where
  good : WoolVol.Good FP cur
  len : cur.v.length = st0.v.length
  vol : ∀ q (h : q < st0.v.length) (h' : q < cur.v.length), cur.v[q].nm = st0.v[q].nm ∧ cur.v[q].bl.length = st0.v[q].bl.length
  txt : ∀ p (h : kf < st0.v.length), p < st0.v[kf].bl.length → txAt cur kf p = txAt st0 kf p

theorem CpI.first {st0 : Sta} (g : WoolVol.Good FP st0) (kf : Nat) : CpI st0 kf st0 := ⟨g, rfl, fun _ _ _ => ⟨rfl, rfl⟩, fun _ _ _ => rfl⟩

theorem CpI.keeps {st0 cur cur' : Sta} {kf k j : Nat} (h : CpI st0 kf cur) (hk : Keeps FP cur cur' k j (txAt st0 kf j)) : CpI st0 kf cur' := by
  refine ⟨hk.good, hk.len.trans h.len, fun q hq hq' => ?_, fun p hkf hp => ?_⟩
  · have hqc : q < cur.v.length := by rw [h.len]; exact hq
    exact ⟨(hk.vol q hqc hq').1.trans (h.vol q hq hqc).1, (hk.vol q hqc hq').2.trans (h.vol q hq hqc).2⟩
  · have hqc : kf < cur.v.length := by rw [h.len]; exact hkf
    rw [hk.txt kf p hqc (by rw [(h.vol kf hkf hqc).2]; exact hp), h.txt p hkf hp]
    by_cases e : kf = k ∧ p = j
    · rw [if_pos e, e.2]
    · rw [if_neg e]

theorem CpI.step {st0 cur : Sta} {kf : Nat} {b : List UInt8} {p : Int} (h : CpI st0 kf cur) (h0 : (cpStep st0 kf b cur p).2 = 0) : CpI st0 kf (cpStep st0 kf b cur p).1 := by
  unfold cpStep at h0 ⊢
  cases e : txAt st0 kf p.toNat with
  | none =>
    rw [e] at h0
    obtain ⟨k, j, rfl, _, _, hk⟩ := trim_step h0
    rw [Int.toNat_natCast] at e
    rw [← e] at hk
    exact h.keeps hk
  | some t =>
    rw [e] at h0
    obtain ⟨k, j, rfl, _, _, hk⟩ := write_step h0
    rw [Int.toNat_natCast] at e
    rw [← e] at hk
    exact h.keeps hk

theorem CpI.vix {st0 cur : Sta} {kf : Nat} (h : CpI st0 kf cur) {s : List UInt8} {k : Nat} (hx : vix (nmB s) st0.v = some k) : vix (nmB s) cur.v = some k := by
  obtain ⟨h1, h2, h3⟩ := vix_some hx
  have hl : ∀ q (hq : q < st0.v.length), nmB s (cur.v[q]'(by rw [h.len]; exact hq)) = nmB s st0.v[q] := by
    intro q hq
    unfold nmB
    rw [(h.vol q hq (by rw [h.len]; exact hq)).1]
  refine vix_of (by rw [h.len]; exact h1) (by rw [hl k h1]; exact h2) (fun j hj => by rw [hl j (by omega)]; exact h3 j hj)

/-- the text that Copy reads anew is the first state's -/
theorem CpI.read {st0 cur : Sta} {kf j : Nat} (h : CpI st0 kf cur) {s : List UInt8} (hx : WoolVol.vix (nmB s) st0.v = some kf) (hk : kf < st0.v.length) (hj : j < st0.v[kf].bl.length) : WoolVol.read FP cur s (j : Int) = ((txAt st0 kf j).getD [], 0) := by
  have hkc : kf < cur.v.length := by rw [h.len]; exact hk
  have hjc : j < cur.v[kf].bl.length := by rw [(h.vol kf hk hkc).2]; exact hj
  have hc : chkS FP cur = 0 := chkS_zero.2 h.good
  have hf : vfind FP cur s = (kf, 0) := by
    unfold vfind; rw [if_neg (by simpa using hc), h.vix hx]
  have hl : vloc FP cur s (j : Int) = (kf, 0) := by
    unfold vloc
    rw [hf, if_neg (by simp)]
    simp only
    rw [getElem!_pos cur.v kf hkc, if_neg (by omega)]
  rw [read_tx h.good hkc hjc hl, h.txt j hk hj]

end Go.Proofs.YtcbppfndlagodaaGreat

/-
  Volumes that are added and taken away, in plain words: what is sorted is the inserted; what is trimmed, and what is counted, place by place. Conditions: as each says.
-/
namespace WoolVol
open WoolBag

variable {F : List UInt8 → Int}

theorem slt_asymm {a b : List UInt8} (h : slt a b = true) : slt b a = false := by
  cases hb : slt b a with
  | false => rfl
  | true => have := slt_trans h hb; rw [slt_irrefl] at this; cases this

theorem nm_inj {α : Type} {f : α → List UInt8} {l : List α} (hl : l.Pairwise (fun a b => slt (f a) (f b) = true)) {a b : α} (ha : a ∈ l) (hb : b ∈ l) (e : f a = f b) : a = b := by
  obtain ⟨i, hi, rfl⟩ := List.getElem_of_mem ha
  obtain ⟨j, hj, rfl⟩ := List.getElem_of_mem hb
  have h := List.pairwise_iff_getElem.1 hl
  rcases Nat.lt_trichotomy i j with h1 | h1 | h1
  · have := h i j hi hj h1; rw [e, slt_irrefl] at this; cases this
  · subst h1; rfl
  · have := h j i hj hi h1; rw [e, slt_irrefl] at this; cases this

theorem sorted_ins {α : Type} {f : α → List UInt8} {l : List α} {x : α} {k : Nat} (hl : l.Pairwise (fun a b => slt (f a) (f b) = true)) (hb : ∀ a ∈ l.take k, slt (f a) (f x) = true) (ha : ∀ a ∈ l.drop k, slt (f x) (f a) = true) :
    (l.take k ++ x :: l.drop k).Pairwise (fun a b => slt (f a) (f b) = true) := by
  rw [List.pairwise_append, List.pairwise_cons]
  refine ⟨hl.sublist (List.take_sublist _ _), ⟨ha, hl.sublist (List.drop_sublist _ _)⟩, ?_⟩
  intro a h1 b h2
  rcases List.mem_cons.1 h2 with rfl | h2
  · exact hb a h1
  · exact slt_trans (hb a h1) (ha b h2)

theorem perm_ins {α : Type} {f : α → List UInt8} {l d : List α} {x : α} {k : Nat} (hl : l.Pairwise (fun a b => slt (f a) (f b) = true)) (hb : ∀ a ∈ l.take k, slt (f a) (f x) = true) (ha : ∀ a ∈ l.drop k, slt (f x) (f a) = true)
    (hp : d.Perm (l ++ [x])) (hs : d.Pairwise (fun a b => slt (f b) (f a) = false)) : d = l.take k ++ x :: l.drop k := by
  have hsl := sorted_ins hl hb ha
  have hpp : d.Perm (l.take k ++ x :: l.drop k) := by
    refine hp.trans ?_
    have h1 : (l.take k ++ x :: l.drop k).Perm (x :: (l.take k ++ l.drop k)) := List.perm_middle
    rw [List.take_append_drop] at h1
    exact (h1.trans (List.perm_append_singleton x l).symm).symm
  refine List.Perm.eq_of_pairwise (le := fun a b => slt (f b) (f a) = false) ?_ hs ?_ hpp
  · intro a b h1 h2 h3 h4
    have he : f a = f b := by
      rcases slt_total (f a) (f b) with h | h | h
      · rw [h] at h4; cases h4
      · exact h
      · rw [h] at h3; cases h3
    exact nm_inj hsl (hpp.subset h1) h2 he
  · exact hsl.imp (fun h => slt_asymm h)

theorem vplace_le (s : List UInt8) (l : List Vo) : vplace s l ≤ l.length := by
  unfold vplace
  cases hv : vix (gtB s) l with
  | none => simp
  | some k => obtain ⟨h1, _⟩ := vix_some hv; simp; omega

theorem vplace_below {s : List UInt8} {l : List Vo} (hno : ∀ a ∈ l, a.nm ≠ s) : ∀ j (hj : j < l.length), j < vplace s l → slt l[j].nm s = true := by
  intro j hjl hj
  have hf : gtB s l[j] = false := by
    unfold vplace at hj
    cases hv : vix (gtB s) l with
    | none => exact vix_none.1 hv _ (List.getElem_mem hjl)
    | some k =>
      rw [hv] at hj
      obtain ⟨_, _, h3⟩ := vix_some hv
      exact h3 j (by simpa using hj)
  unfold gtB at hf
  have : sle l[j].nm s = true := by simpa using hf
  rcases (sle_iff _ _).1 this with h | h
  · exact h
  · exact absurd h (hno _ (List.getElem_mem hjl))

theorem vplace_above {s : List UInt8} {l : List Vo} (hl : l.Pairwise (fun a b => slt a.nm b.nm = true)) : ∀ j (hj : j < l.length), vplace s l ≤ j → slt s l[j].nm = true := by
  intro j hjl hj
  unfold vplace at hj
  cases hv : vix (gtB s) l with
  | none => rw [hv] at hj; simp at hj; omega
  | some k =>
    rw [hv] at hj
    obtain ⟨h1, h2, _⟩ := vix_some hv
    have hk : slt s l[k].nm = true := by unfold gtB at h2; rw [sle_not] at h2; exact h2
    simp only [Option.getD_some] at hj
    by_cases e : k = j
    · subst e; exact hk
    · exact slt_trans hk (List.pairwise_iff_getElem.1 hl k j h1 hjl (by omega))

theorem newE_zero {st : Sta} {s : List UInt8} (h : newE st s = 0) : nameB s = true ∧ (∀ a ∈ st.v, a.nm ≠ s) ∧ st.v.length ≠ 6 := by
  unfold newE at h
  cases hn : nameB s with
  | false => rw [hn] at h; simp at h
  | true =>
    rw [hn] at h
    cases ha : st.v.any (nmB s) with
    | true => rw [ha] at h; simp at h
    | false =>
      rw [ha] at h
      simp at h
      refine ⟨rfl, fun a hm e => ?_, h⟩
      have := List.any_eq_false.1 ha a hm
      exact this (by unfold nmB; simp [e])

theorem rel_append : ∀ (a b : List Idn) (l : List Itm), rel F l (a ++ b) = rel F (rel F l a) b
  | [], _, _ => rfl
  | i :: r, b, l => by show rel F _ (r ++ b) = _; rw [rel_append r b]; rfl

/-- a state whose volume k has lost its first j blocks -/
def hol (F : List UInt8 → Int) (st : Sta) (k j : Nat) : Sta := ⟨rel F st.b ((st.v[k]!).bl.take j), st.v.set k ⟨(st.v[k]!).nm, List.replicate j noId ++ (st.v[k]!).bl.drop j⟩⟩

theorem hol_zero {st : Sta} {k : Nat} (hk : k < st.v.length) : hol F st k 0 = st := by
  have e : st.v.set k ⟨st.v[k].nm, st.v[k].bl⟩ = st.v := List.set_getElem_self hk
  unfold hol
  rw [getElem!_pos st.v k hk]
  simp only [List.take_zero, List.replicate_zero, List.nil_append, List.drop_zero, e]
  rfl

theorem hol_len (st : Sta) (k j : Nat) : (hol F st k j).v.length = st.v.length := by unfold hol; simp

theorem hol_at {st : Sta} {k j : Nat} (hk : k < st.v.length) (h : k < (hol F st k j).v.length) : (hol F st k j).v[k] = ⟨st.v[k].nm, List.replicate j noId ++ st.v[k].bl.drop j⟩ := by
  have e : (hol F st k j).v = st.v.set k ⟨st.v[k].nm, List.replicate j noId ++ st.v[k].bl.drop j⟩ := by unfold hol; rw [getElem!_pos st.v k hk]
  have e2 : ∀ (m : List Vo) (_ : m = st.v.set k ⟨st.v[k].nm, List.replicate j noId ++ st.v[k].bl.drop j⟩) (hm : k < m.length), m[k] = ⟨st.v[k].nm, List.replicate j noId ++ st.v[k].bl.drop j⟩ := by rintro m rfl hm; rw [List.getElem_set_self]
  exact e2 _ e h

theorem hol_bl {st : Sta} {k j : Nat} (hk : k < st.v.length) (hj : j ≤ st.v[k].bl.length) (h : k < (hol F st k j).v.length) : ((hol F st k j).v[k]).bl.length = st.v[k].bl.length := by
  rw [hol_at hk h]; simp; omega

theorem hol_here {st : Sta} {k j : Nat} (hk : k < st.v.length) (hj : j < st.v[k].bl.length) (h : k < (hol F st k j).v.length) (h2 : j < ((hol F st k j).v[k]).bl.length) : ((hol F st k j).v[k]).bl[j] = st.v[k].bl[j] := by
  have e : ∀ (L : List Idn) (_ : ((hol F st k j).v[k]).bl = L) (hL : j < L.length), L[j] = ((hol F st k j).v[k]).bl[j] := by rintro L rfl _; rfl
  have e2 : ((hol F st k j).v[k]).bl = List.replicate j noId ++ st.v[k].bl.drop j := by rw [hol_at hk h]
  rw [← e _ e2 (by simp; omega), List.getElem_append_right (by simp), List.getElem_drop]
  simp

theorem hol_step {st : Sta} {k j : Nat} (hk : k < st.v.length) (hj : j < st.v[k].bl.length) : (⟨rel F (hol F st k j).b [st.v[k].bl[j]], setB (hol F st k j).v k j noId⟩ : Sta) = hol F st k (j + 1) := by
  have hk' : k < (hol F st k j).v.length := by rw [hol_len]; exact hk
  rw [setB_eq hk', hol_at hk hk']
  unfold hol
  rw [getElem!_pos st.v k hk]
  congr 1
  · rw [List.take_succ_eq_append_getElem hj, rel_append]
  · simp only [List.set_set]
    congr 2
    have e0 : j - (List.replicate j noId).length = 0 := by simp
    rw [List.set_append_right _ _ (by simp), e0, List.drop_eq_getElem_cons hj, List.set_cons_zero, List.replicate_succ', List.append_assoc]
    rfl

theorem hol_good {st : Sta} {k : Nat} (g : Good F st) (hk : k < st.v.length) : ∀ j, j ≤ st.v[k].bl.length → Good F (hol F st k j)
  | 0, _ => by rw [hol_zero hk]; exact g
  | j + 1, h => by
    have ih := hol_good g hk j (by omega)
    have hk' : k < (hol F st k j).v.length := by rw [hol_len]; exact hk
    have hb := hol_bl (F := F) hk (j := j) (by omega) hk'
    have := (trim_keeps ih hk' (j := j) (by omega)).good
    rw [hol_here hk (by omega) hk' (by omega), hol_step hk (by omega)] at this
    exact this

theorem hol_bag {st : Sta} {k : Nat} (hk : k < st.v.length) : (hol F st k st.v[k].bl.length).b = rel F st.b st.v[k].bl := by
  unfold hol
  rw [getElem!_pos st.v k hk, List.take_length]

theorem hol_vol {st : Sta} {k j : Nat} : (hol F st k j).v.take k ++ (hol F st k j).v.drop (k + 1) = st.v.eraseIdx k := by
  unfold hol
  rw [List.eraseIdx_eq_take_drop_succ]
  simp [List.take_set_of_le, List.drop_set_of_lt]

theorem ret_nil (l : List Itm) : ret l [] = l := by
  unfold ret
  have : ∀ x : Itm, more x (cnt [] (idOf x)) = x := fun x => by unfold more; rw [cnt_nil]; simp
  simp [this]

theorem ret_len (l : List Itm) (bl : List Idn) : (ret l bl).length = l.length := by unfold ret; simp

theorem ret_at {l : List Itm} {bl : List Idn} {k : Nat} (hk : k < l.length) (h : k < (ret l bl).length) : (ret l bl)[k] = more l[k] (cnt bl (idOf l[k])) := by
  have e2 : ∀ (m : List Itm) (_ : m = l.map (fun x => more x (cnt bl (idOf x)))) (hm : k < m.length), m[k] = more l[k] (cnt bl (idOf l[k])) := by rintro m rfl hm; rw [List.getElem_map]
  exact e2 _ rfl h

theorem ret_hole {l : List Itm} {bl : List Idn} {i : Idn} (h : i.1 = false) : ret l (bl ++ [i]) = ret l bl := by
  unfold ret
  refine List.map_congr_left (fun x _ => ?_)
  rw [cnt_snoc, if_neg (by rintro rfl; cases h)]
  simp

theorem ret_hit {l : List Itm} {bl : List Idn} {i : Idn} (hb : Bag F l) {k : Nat} (hk : k < l.length) (hi : i = idOf l[k]) : ret l (bl ++ [i]) = (ret l bl).set k (more l[k] (cnt bl i + 1)) := by
  refine List.ext_getElem (by rw [List.length_set, ret_len, ret_len]) (fun j h1 h2 => ?_)
  have hj : j < l.length := by rwa [ret_len] at h1
  rw [ret_at hj]
  by_cases e : k = j
  · subst e
    rw [List.getElem_set_self, cnt_snoc, if_pos hi, hi]
  · rw [List.getElem_set_ne e, ret_at hj, cnt_snoc, if_neg]
    · simp
    · intro h
      exact e (hb.id_inj hk hj (hi.symm.trans h))

theorem idx_ret {l : List Itm} {bl : List Idn} {i : Idn} (hb : Bag F l) {k : Nat} (hk : k < l.length) (hi : i = idOf l[k]) : idx (idB i) (ret l bl) = some k := by
  refine idx_of (by rw [ret_len]; exact hk) ?_ (fun j hj => ?_)
  · rw [ret_at hk, idB_iff]; exact hi
  · have hjl : j < l.length := by omega
    rw [ret_at hjl, Bool.eq_false_iff, Ne, idB_iff]
    intro h
    have : j = k := hb.id_inj hjl hk (h.symm.trans hi)
    omega

end WoolVol

/-
  What Join and Roll of package print return at wrong arguments, and what Roll returns at right ones. Conditions: the arguments are ints.
-/
namespace Go.Proofs.YtcbppfndlagodaaGreat
open Go.RowKit
open Go.Proofs

/-- what Roll answers -/
def restV (M P X N : Nat) : Nat := P ^^^ WoolMath.pmod (WoolMath.pw 256 N) M ^^^ WoolMath.pmod (WoolMath.mul X (WoolMath.pmod (WoolMath.pw 256 (N - 1)) M)) M
def rollV (M P X Y N : Nat) : Nat := WoolMath.pmod (WoolMath.mul (restV M P X N) 256) M ^^^ WoolMath.pmod Y M ^^^ WoolMath.pmod (WoolMath.pw 256 N) M

theorem xor30 (a b : Nat) (ha : a < 1073741824) (hb : b < 1073741824) : a ^^^ b < 1073741824 := Nat.xor_lt_two_pow (n := 30) ha hb

end Go.Proofs.YtcbppfndlagodaaGreat
