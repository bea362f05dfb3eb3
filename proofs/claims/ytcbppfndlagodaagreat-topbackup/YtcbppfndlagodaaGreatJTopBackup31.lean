/-
  The texts DedM, BackM, BackN, one behind the other; each says below what it holds and on what conditions.
-/
import Derived.Test.YtcbppfndlagodaaGreatJTopBackup28
import Derived.Test.YtcbppfndlagodaaGreatJTopBackup30

/-
  Texts that are cut, stored and loaded, in plain words: pieces and what they join to; what a row of writes into holes leaves. Conditions: as each says.
-/
namespace Go.Proofs.YtcbppfndlagodaaGreat
open WoolBag
open WoolVol

/-- a text in pieces, by their ends -/
def lp (S : List UInt8) : Nat → List Nat → List (List UInt8)
  | _, [] => []
  | b, e :: r => (S.drop b).take (e - b) :: lp S e r

theorem lp_len (S : List UInt8) : ∀ (es : List Nat) (b : Nat), (lp S b es).length = es.length
  | [], _ => rfl
  | e :: r, b => by show (lp S e r).length + 1 = r.length + 1; rw [lp_len S r e]

theorem lp_join (S : List UInt8) : ∀ (es : List Nat) (b : Nat), es.Pairwise (· < ·) → (∀ e ∈ es, b ≤ e) → es.getLast? = some S.length → (lp S b es).flatten = S.drop b
  | [], _, _, _, h => by simp at h
  | [e], b, _, hb, h => by
    simp at h
    subst h
    show ((S.drop b).take (S.length - b) :: []).flatten = _
    rw [List.flatten_cons, List.flatten_nil, List.append_nil, List.take_of_length_le (by rw [List.length_drop]; omega)]
  | e :: f :: r, b, hp, hb, h => by
    rw [List.getLast?_cons_cons] at h
    obtain ⟨h1, h2⟩ := List.pairwise_cons.1 hp
    have ih := lp_join S (f :: r) e h2 (fun x hx => Nat.le_of_lt (h1 x hx)) h
    show ((S.drop b).take (e - b) :: lp S e (f :: r)).flatten = _
    have hbe := hb e (by simp)
    have e2 : S.drop e = (S.drop b).drop (e - b) := by rw [List.drop_drop]; congr 1; omega
    rw [List.flatten_cons, ih, e2, List.take_append_drop]

theorem lp_ahead (S T : List UInt8) : ∀ (pre : List Nat) (b : Nat), (∀ e ∈ pre, e ≤ S.length) → ∀ more : List Nat, ∃ rest, lp (S ++ T) b (pre ++ more) = lp S b pre ++ rest
  | [], b, _, more => ⟨lp (S ++ T) b more, rfl⟩
  | e :: r, b, hb, more => by
    obtain ⟨rest, ih⟩ := lp_ahead S T r e (fun x hx => hb x (by simp [hx])) more
    refine ⟨rest, ?_⟩
    show ((S ++ T).drop b).take (e - b) :: lp (S ++ T) e (r ++ more) = (S.drop b).take (e - b) :: (lp S e r ++ rest)
    rw [ih]
    congr 1
    have he := hb e (by simp)
    by_cases hbl : b ≤ S.length
    · rw [List.drop_append_of_le_length hbl, List.take_append_of_le_length (by rw [List.length_drop]; omega)]
    · have h0 : e - b = 0 := by omega
      rw [h0, List.take_zero, List.take_zero]

/-- the pieces of a text -/
def pcs (S : List UInt8) : List (List UInt8) := lp S 0 (ends 4 64 7 S)

theorem pcs_len (S : List UInt8) : (pcs S).length = (ends 4 64 7 S).length := lp_len S _ 0

theorem pcs_join (S : List UInt8) (h : S ≠ []) : (pcs S).flatten = S := by
  obtain ⟨pre, hp⟩ := ends_last 4 64 7 (by omega) (by omega) S h
  have hs := ends_sorted 4 64 7 (by omega) (by omega) S
  have := lp_join S (ends 4 64 7 S) 0 hs.1 (fun _ _ => Nat.zero_le _) (by rw [hp]; simp)
  unfold pcs
  rw [this, List.drop_zero]

/-- all pieces of a text but its last are pieces of what it begins -/
theorem pcs_ahead (S T : List UInt8) (h : S ≠ []) : ∀ i, i + 1 < (pcs S).length → (pcs (S ++ T))[i]? = (pcs S)[i]? := by
  obtain ⟨pre, more, h1, _, h3⟩ := ends_ahead 4 64 7 (by omega) (by omega) T S
  have hs := (ends_sorted 4 64 7 (by omega) (by omega) S).2
  rw [h1 h] at hs
  have hpl : ∀ e ∈ pre, e ≤ S.length := fun e he => (hs e (by simp [he])).2
  obtain ⟨rest, hr⟩ := lp_ahead S T pre 0 hpl more
  obtain ⟨rest', hr'⟩ := lp_ahead S [] pre 0 hpl [S.length]
  rw [List.append_nil] at hr'
  intro i hi
  rw [pcs_len, h1 h, List.length_append] at hi
  simp at hi
  unfold pcs
  rw [h1 h, h3, hr, hr', List.getElem?_append_left (by rw [lp_len]; omega), List.getElem?_append_left (by rw [lp_len]; omega)]

theorem pcs_more (S T : List UInt8) (h : S ≠ []) : (pcs S).length ≤ (pcs (S ++ T)).length + 1 := by
  obtain ⟨pre, more, h1, _, h3⟩ := ends_ahead 4 64 7 (by omega) (by omega) T S
  rw [pcs_len, pcs_len, h1 h, h3]
  simp

/-- is there an item of this text? -/
def Has (b : List Itm) (t : List UInt8) : Prop := ∃ x ∈ b, x.t = t

theorem has_tx {st : Sta} {q p : Nat} {t : List UInt8} (h : txAt st q p = some t) : Has st.b t := by
  unfold txAt at h
  split at h
  · unfold tx at h
    cases e : it st.b (blk st q p) with
    | none => rw [e] at h; cases h
    | some x =>
      rw [e] at h
      cases h
      exact ⟨x, List.mem_of_find?_eq_some e, rfl⟩
  · cases h

theorem write_hole {cur : Sta} {s t : List UInt8} {k j : Nat} (h : (write FP cur s (j : Int) t).2 = 0) (hx : vix (nmB s) cur.v = some k) (hn : txAt cur k j = none) :
    (Has cur.b t → (write FP cur s (j : Int) t).1.b.length = cur.b.length) ∧ (write FP cur s (j : Int) t).1.b.length ≤ cur.b.length + 1 ∧ ∀ t', Has cur.b t' → Has (write FP cur s (j : Int) t).1.b t' := by
  have ht : (trim FP cur s (j : Int)).2 = 0 := by
    apply Classical.byContradiction
    intro hne
    rw [write_no hne] at h
    exact hne h
  have hvl : (vloc FP cur s (j : Int)).2 = 0 := by
    apply Classical.byContradiction
    intro hne
    rw [trim_no hne] at ht
    exact hne ht
  have hp : (WoolBag.put FP (trim FP cur s (j : Int)).1.b t).2.2 = 0 := by
    apply Classical.byContradiction
    intro hne
    rw [write_full ht hne] at h
    exact hne h
  obtain ⟨hg, k', hk, j', hj', hj, hf, _, hx'⟩ := vloc_ok hvl
  have ej : j' = j := by omega
  subst ej
  rw [hx] at hx'
  cases hx'
  rw [write_yes ht hp]
  rw [trim_yes hk hj hf] at hp ⊢
  have hb1 : (cur.v[k].bl[j']).1 = false := by
    have := tx_is hg hk hj
    rw [hn] at this
    exact this.symm
  have hrel : rel FP cur.b [cur.v[k].bl[j']] = cur.b := by
    show rel FP (if (cur.v[k].bl[j']).1 = true then _ else cur.b) [] = cur.b
    rw [if_neg (by rw [hb1]; simp)]
    rfl
  simp only [hrel] at hp ⊢
  obtain ⟨_, _, hc⟩ := put_ok (F := FP) (l := cur.b) (t := t) (L := (WoolBag.put FP cur.b t).1) (i := (WoolBag.put FP cur.b t).2.1) (Prod.ext rfl (Prod.ext rfl hp))
  rcases hc with ⟨q, hq, hqt, _, hL, _⟩ | ⟨hno, _, hL, _⟩
  · rw [hL]
    refine ⟨fun _ => by rw [List.length_set], by rw [List.length_set]; omega, ?_⟩
    rintro t' ⟨x, hxm, hxt⟩
    obtain ⟨i, hi, rfl⟩ := List.getElem_of_mem hxm
    by_cases e : q = i
    · subst e
      exact ⟨more cur.b[q] 1, List.mem_set hq _, hxt⟩
    · refine ⟨cur.b[i], ?_, hxt⟩
      have hi' : i < (cur.b.set q (more cur.b[q] 1)).length := by rw [List.length_set]; exact hi
      have := List.getElem_mem hi'
      rwa [List.getElem_set_ne e] at this
  · rw [hL]
    refine ⟨fun hh => ?_, by rw [length_ins]; omega, ?_⟩
    · obtain ⟨x, hxm, hxt⟩ := hh
      exact absurd hxt (hno x hxm)
    · rintro t' ⟨x, hxm, hxt⟩
      exact ⟨x, mem_ins.2 (.inr hxm), hxt⟩

/-- the state after j writes of pieces P into the holes of volume k, of which the first m texts were in the bag -/
structure SI (st1 : Sta) (k : Nat) (P : List (List UInt8)) (m j : Nat) (cur : Sta) : Prop where
  good : WoolVol.Good FP cur
  len : cur.v.length = st1.v.length
  vol : ∀ q (h : q < st1.v.length) (h' : q < cur.v.length), cur.v[q].nm = st1.v[q].nm ∧ cur.v[q].bl.length = st1.v[q].bl.length
  done : ∀ i, i < j → txAt cur k i = P[i]?
  rest : ∀ i, j ≤ i → i < P.length → txAt cur k i = none
  oth : ∀ q p (h : q < st1.v.length), p < st1.v[q].bl.length → q ≠ k → txAt cur q p = txAt st1 q p
  bag : cur.b.length ≤ st1.b.length + (j - m)
  has : ∀ t, Has st1.b t → Has cur.b t

theorem vix_same {st1 cur : Sta} {nm : List UInt8} {k : Nat} (len : cur.v.length = st1.v.length) (vol : ∀ q (h : q < st1.v.length) (h' : q < cur.v.length), cur.v[q].nm = st1.v[q].nm ∧ cur.v[q].bl.length = st1.v[q].bl.length) (hx : vix (nmB nm) st1.v = some k) : vix (nmB nm) cur.v = some k := by
  obtain ⟨h1, h2, h3⟩ := vix_some hx
  refine vix_of (by omega) ?_ (fun q hq => ?_)
  · unfold nmB; rw [(vol k h1 (by omega)).1]; exact h2
  · unfold nmB; rw [(vol q (by omega) (by omega)).1]; exact h3 q hq

theorem SI.step {st1 cur : Sta} {nm : List UInt8} {k m j : Nat} {P : List (List UInt8)} (h : SI st1 k P m j cur) (hx : vix (nmB nm) st1.v = some k) (hk : k < st1.v.length) (hbl : st1.v[k].bl.length = P.length) (hj : j < P.length)
    (hm : ∀ i (_ : i < P.length), i < m → Has st1.b P[i]) (h0 : (write FP cur nm (j : Int) P[j]).2 = 0) : SI st1 k P m (j + 1) (write FP cur nm (j : Int) P[j]).1 := by
  have hxc := vix_same h.len h.vol hx
  obtain ⟨b1, b2, b3⟩ := write_hole h0 hxc (h.rest j (Nat.le_refl _) hj)
  obtain ⟨k', j', ej, hk', hx', hkeep⟩ := write_step h0
  have e1 : j' = j := by omega
  subst e1
  rw [hxc] at hx'
  cases hx'
  have hlen := h.len
  have hkc : k < cur.v.length := by omega
  have hvk := h.vol k hk hkc
  refine ⟨hkeep.good, by rw [hkeep.len]; exact h.len, fun q hq hq' => ?_, fun i hi => ?_, fun i hi hiP => ?_, fun q p hq hp hne => ?_, ?_, fun t ht => b3 t (h.has t ht)⟩
  · have hq2 : q < cur.v.length := by omega
    have a1 := hkeep.vol q hq2 hq'
    have a2 := h.vol q hq hq2
    exact ⟨a1.1.trans a2.1, a1.2.trans a2.2⟩
  · rw [hkeep.txt k i hkc (by omega)]
    by_cases e : i = j'
    · subst e
      rw [if_pos ⟨rfl, rfl⟩, List.getElem?_eq_getElem hj]
    · rw [if_neg (fun hh => e hh.2)]
      exact h.done i (by omega)
  · rw [hkeep.txt k i hkc (by omega), if_neg (fun hh => by omega)]
    exact h.rest i (by omega) hiP
  · rw [hkeep.txt q p (by omega) (by rw [(h.vol q hq (by omega)).2]; exact hp), if_neg (fun hh => hne hh.1)]
    exact h.oth q p hq hp hne
  · have hbg := h.bag
    by_cases hjm : j' < m
    · rw [b1 (h.has _ (hm j' hj hjm))]
      omega
    · omega

theorem cnt_holes (n : Nat) (i : Idn) (h : i.1 = true) : cnt (List.replicate n noId) i = 0 := by
  apply Classical.byContradiction
  intro hc
  have := cnt_mem.2 hc
  rw [List.mem_replicate] at this
  rw [this.2] at h
  cases h

theorem cnt_ids_app (a b : List Vo) (i : Idn) : cnt (ids (a ++ b)) i = cnt (ids a) i + cnt (ids b) i := by
  unfold ids
  rw [List.map_append, List.flatten_append, cnt_append]

theorem make_good {st : Sta} {nm : List UInt8} {n : Nat} (g : WoolVol.Good FP st) (hn : newE st nm = 0) (h32 : n ≤ 32) : WoolVol.Good FP ⟨st.b, vins ⟨nm, List.replicate n noId⟩ st.v⟩ := by
  obtain ⟨h1, h2, h3⟩ := newE_zero hn
  have hl6 := g.len
  refine ⟨g.bag, ?_, ?_, ?_, fun x hx => ?_⟩
  · show (vins _ st.v).length ≤ 6
    unfold vins
    have := vplace_le nm st.v
    rw [List.length_append, List.length_cons, List.length_take, List.length_drop]
    omega
  · intro v hv
    change v ∈ vins _ st.v at hv
    unfold vins at hv
    rw [List.mem_append, List.mem_cons] at hv
    rcases hv with hv | rfl | hv
    · exact g.vol v (List.mem_of_mem_take hv)
    · refine ⟨h1, by simpa using h32, fun i hi => ?_⟩
      rw [List.mem_replicate] at hi
      rw [hi.2]
      rfl
    · exact g.vol v (List.mem_of_mem_drop hv)
  · refine sorted_ins (f := Vo.nm) (k := vplace nm st.v) g.ord (fun a ha => ?_) (fun a ha => ?_)
    · obtain ⟨q, hq, rfl⟩ := List.getElem_of_mem ha
      rw [List.length_take] at hq
      rw [List.getElem_take]
      have h9 : slt st.v[q].nm nm = true := vplace_below h2 q (by omega) (by omega)
      exact h9
    · obtain ⟨q, hq, rfl⟩ := List.getElem_of_mem ha
      rw [List.length_drop] at hq
      rw [List.getElem_drop]
      have h9 : slt nm (st.v[vplace nm st.v + q]'(by omega)).nm = true := vplace_above g.ord _ (by omega) (by omega)
      exact h9
  · have hr := g.refs x hx
    show x.r = cnt (ids (vins _ st.v)) (idOf x)
    unfold vins
    rw [cnt_ids_app, cnt_ids_cons, cnt_holes n _ rfl, hr]
    have := cnt_ids_app (st.v.take (vplace nm st.v)) (st.v.drop (vplace nm st.v)) (idOf x)
    rw [List.take_append_drop] at this
    rw [this]
    simp

theorem make_vix {st : Sta} {nm : List UInt8} {bl : List Idn} (h2 : ∀ a ∈ st.v, a.nm ≠ nm) : vix (nmB nm) (vins ⟨nm, bl⟩ st.v) = some (vplace nm st.v) := by
  have hle := vplace_le nm st.v
  have hl : (st.v.take (vplace nm st.v)).length = vplace nm st.v := by rw [List.length_take]; omega
  unfold vins
  refine vix_of (by rw [List.length_append, List.length_cons, hl]; omega) ?_ (fun q hq => ?_)
  · rw [List.getElem_append_right (by rw [hl]; exact Nat.le_refl _)]
    simp only [hl, Nat.sub_self, List.getElem_cons_zero]
    unfold nmB; simp
  · rw [List.getElem_append_left (by rw [hl]; exact hq), List.getElem_take]
    have := h2 _ (List.getElem_mem (show q < st.v.length by omega))
    unfold nmB
    simpa using this

/-- a new volume of holes, ahead of any write -/
theorem SI.start {st : Sta} {nm : List UInt8} {P : List (List UInt8)} (g : WoolVol.Good FP st) (hn : newE st nm = 0) (h32 : P.length ≤ 32) (m : Nat) : SI ⟨st.b, vins ⟨nm, List.replicate P.length noId⟩ st.v⟩ (vplace nm st.v) P m 0 ⟨st.b, vins ⟨nm, List.replicate P.length noId⟩ st.v⟩ := by
  have hgood := make_good (n := P.length) g hn h32
  obtain ⟨h1, h2, h3⟩ := newE_zero hn
  obtain ⟨hk, _, _⟩ := vix_some (make_vix (bl := List.replicate P.length noId) h2)
  have hle := vplace_le nm st.v
  have hl : (st.v.take (vplace nm st.v)).length = vplace nm st.v := by rw [List.length_take]; omega
  have hat : (vins ⟨nm, List.replicate P.length noId⟩ st.v)[vplace nm st.v]'hk = ⟨nm, List.replicate P.length noId⟩ := by
    have e : ∀ (L : List Vo) (_ : L = st.v.take (vplace nm st.v) ++ ⟨nm, List.replicate P.length noId⟩ :: st.v.drop (vplace nm st.v)) (hL : vplace nm st.v < L.length), L[vplace nm st.v] = ⟨nm, List.replicate P.length noId⟩ := by
      rintro L rfl hL
      rw [List.getElem_append_right (by rw [hl]; exact Nat.le_refl _)]
      simp only [hl, Nat.sub_self, List.getElem_cons_zero]
    exact e _ rfl hk
  refine ⟨hgood, rfl, fun q hq hq' => ⟨rfl, rfl⟩, fun i hi => absurd hi (by omega), fun i _ hi => ?_, fun q p hq hp hne => rfl, by omega, fun t ht => ht⟩
  have hbl : i < ((vins ⟨nm, List.replicate P.length noId⟩ st.v)[vplace nm st.v]'hk).bl.length := by rw [hat]; simpa using hi
  unfold txAt
  rw [blk_eq (st := ⟨st.b, vins ⟨nm, List.replicate P.length noId⟩ st.v⟩) hk hbl]
  have : ((vins ⟨nm, List.replicate P.length noId⟩ st.v)[vplace nm st.v]'hk).bl[i] = noId := by
    have e : ∀ (L : Vo) (_ : L = ⟨nm, List.replicate P.length noId⟩) (hL : i < L.bl.length), L.bl[i] = noId := by
      rintro L rfl hL
      exact List.getElem_replicate hL
    exact e _ hat hbl
  show (if (((vins ⟨nm, List.replicate P.length noId⟩ st.v)[vplace nm st.v]'hk).bl[i]).1 = true then _ else none) = none
  rw [this]
  rfl

theorem make_bl {st : Sta} {nm : List UInt8} {n : Nat} (hk : vplace nm st.v < (vins ⟨nm, List.replicate n noId⟩ st.v).length) : ((vins ⟨nm, List.replicate n noId⟩ st.v)[vplace nm st.v]'hk).bl.length = n := by
  have hle := vplace_le nm st.v
  have hl : (st.v.take (vplace nm st.v)).length = vplace nm st.v := by rw [List.length_take]; omega
  have e : ∀ (L : List Vo) (_ : L = st.v.take (vplace nm st.v) ++ ⟨nm, List.replicate n noId⟩ :: st.v.drop (vplace nm st.v)) (hL : vplace nm st.v < L.length), (L[vplace nm st.v]).bl.length = n := by
    rintro L rfl hL
    rw [List.getElem_append_right (by rw [hl]; exact Nat.le_refl _)]
    simp only [hl, Nat.sub_self, List.getElem_cons_zero, List.length_replicate]
  exact e _ rfl hk

theorem vfind_is {st : Sta} {s : List UInt8} {k : Nat} (g : WoolVol.Good FP st) (hx : vix (nmB s) st.v = some k) : vfind FP st s = (k, 0) := by
  unfold vfind; rw [chkS_zero.2 g, if_neg (by simp), hx]

theorem vloc_is {st : Sta} {s : List UInt8} {k j : Nat} (g : WoolVol.Good FP st) (hk : k < st.v.length) (hx : vix (nmB s) st.v = some k) (h : j < st.v[k].bl.length) : vloc FP st s (j : Int) = (k, 0) := by
  unfold vloc
  rw [vfind_is g hx, if_neg (by simp)]
  show (if (j : Int) < 0 ∨ ((st.v[k]!).bl.length : Int) ≤ (j : Int) then (0, 1) else (k, 0)) = (k, 0)
  rw [getElem!_pos st.v k hk, if_neg (by omega)]

end Go.Proofs.YtcbppfndlagodaaGreat

/-
  Writing a text that another volume's block holds needs no room: it is done. Conditions: as it says.
-/
namespace Go.Proofs.YtcbppfndlagodaaGreat
open WoolBag
open WoolVol

theorem ids_len : ∀ vs : List Vo, (∀ v ∈ vs, v.bl.length ≤ 32) → (ids vs).length ≤ vs.length * 32
  | [], _ => by simp [ids]
  | x :: r, h => by
    have h1 := h x (by simp)
    have h2 := ids_len r (fun v hv => h v (by simp [hv]))
    have e : ids (x :: r) = x.bl ++ ids r := by simp [ids]
    rw [e, List.length_append, List.length_cons]
    omega

theorem write_has {cur : Sta} {s t : List UInt8} {k kf j : Nat} (g : WoolVol.Good FP cur) (hx : vix (nmB s) cur.v = some k) (hk : k < cur.v.length) (hj : j < cur.v[k].bl.length)
    (hkf : kf < cur.v.length) (hjf : j < cur.v[kf].bl.length) (hne : kf ≠ k) (ht : txAt cur kf j = some t) (hl : t.length ≤ 64) : (write FP cur s (j : Int) t).2 = 0 := by
  have hv := vloc_is g hk hx hj
  have hty := trim_yes hk hj hv
  have hkp := trim_keeps g hk hj
  obtain ⟨T, hT⟩ : ∃ T : Sta, (⟨rel FP cur.b [cur.v[k].bl[j]], setB cur.v k j noId⟩ : Sta) = T := ⟨_, rfl⟩
  rw [hT] at hty hkp
  have h2 : txAt T kf j = some t := by
    rw [hkp.txt kf j hkf hjf, if_neg (fun h => hne h.1)]
    exact ht
  obtain ⟨x, hxm, hxt⟩ := has_tx h2
  have gT := hkp.good
  have hr : x.r ≠ 1000000 := by
    rw [gT.refs x hxm]
    have h3 := cnt_le (ids T.v) (idOf x)
    have h4 := ids_len T.v (fun v hv => (gT.vol v hv).2.1)
    have h5 := gT.len
    omega
  obtain ⟨q, hq, rfl⟩ := List.getElem_of_mem hxm
  have hp := put_at gT.bag hl hq hxt hr
  have hp2 : (WoolBag.put FP (trim FP cur s (j : Int)).1.b t).2.2 = 0 := by
    rw [hty]
    show (WoolBag.put FP T.b t).2.2 = 0
    rw [hp]
  have ht0 : (trim FP cur s (j : Int)).2 = 0 := by rw [hty]
  rw [write_yes ht0 hp2]

end Go.Proofs.YtcbppfndlagodaaGreat

/-
  A clone of a volume in plain words: the state stays valid, every text is what it was. Conditions: as each says.
-/
namespace Go.Proofs.YtcbppfndlagodaaGreat
open WoolBag
open WoolVol

theorem idB_more (i : Idn) (x : Itm) (d : Int) : idB i (more x d) = idB i x := rfl
theorem idOf_more (x : Itm) (d : Int) : idOf (more x d) = idOf x := rfl

theorem any_ret (b : List Itm) (bl : List Idn) (i : Idn) : (ret b bl).any (idB i) = b.any (idB i) := by
  unfold ret
  rw [List.any_map]
  rfl

theorem errB_ret (b : List Itm) (bl : List Idn) (i : Idn) : errB (ret b bl) i = errB b i := by
  unfold errB
  rw [any_ret]

theorem tx_ret (b : List Itm) (bl : List Idn) (i : Idn) : tx (ret b bl) i = tx b i := by
  have e : it (ret b bl) i = (it b i).map (fun x => more x (cnt bl (idOf x))) := by
    unfold it ret
    rw [List.find?_map]
    rfl
  unfold tx
  rw [e]
  cases it b i <;> rfl

theorem ids_short {st : Sta} (g : WoolVol.Good FP st) : (ids st.v).length ≤ 192 := by
  have h : ∀ vs : List Vo, (∀ v ∈ vs, v.bl.length ≤ 32) → (ids vs).length ≤ vs.length * 32 := by
    intro vs
    induction vs with
    | nil => intro _; simp [ids]
    | cons x r ih =>
      intro h
      have h1 := h x (by simp)
      have h2 := ih (fun v hv => h v (by simp [hv]))
      have e : ids (x :: r) = x.bl ++ ids r := by simp [ids]
      rw [e, List.length_append, List.length_cons]
      omega
  have := h st.v (fun v hv => (g.vol v hv).2.1)
  have := g.len
  omega

theorem ret_bag {st : Sta} (g : WoolVol.Good FP st) (bl : List Idn) (h : bl.length ≤ 32) : Bag FP (ret st.b bl) := by
  have hi := ids_short g
  refine ⟨by rw [ret_len]; exact g.bag.len, fun x hx => ?_, ?_, ?_⟩
  · unfold ret at hx
    rw [List.mem_map] at hx
    obtain ⟨y, hy, rfl⟩ := hx
    obtain ⟨h1, h2, h3, h4, h5, h6⟩ := g.bag.ok y hy
    have hr := g.refs y hy
    have hc := cnt_le (ids st.v) (idOf y)
    have hc2 := cnt_le bl (idOf y)
    have hc3 := cnt_nonneg bl (idOf y)
    exact ⟨h1, h2, h3, h4, show 1 ≤ y.r + cnt bl (idOf y) by omega, show y.r + cnt bl (idOf y) ≤ 1000000 by omega⟩
  · unfold ret
    rw [List.pairwise_map]
    exact g.bag.beh
  · unfold ret
    rw [List.pairwise_map]
    exact g.bag.txt

theorem vins_mem {x v : Vo} {l : List Vo} (h : v ∈ vins x l) : v = x ∨ v ∈ l := by
  unfold vins at h
  rw [List.mem_append, List.mem_cons] at h
  rcases h with h | rfl | h
  · exact .inr (List.mem_of_mem_take h)
  · exact .inl rfl
  · exact .inr (List.mem_of_mem_drop h)

theorem cnt_vins (x : Vo) (l : List Vo) (i : Idn) : cnt (ids (vins x l)) i = cnt x.bl i + cnt (ids l) i := by
  unfold vins
  rw [cnt_ids_app, cnt_ids_cons]
  have := cnt_ids_app (l.take (vplace x.nm l)) (l.drop (vplace x.nm l)) i
  rw [List.take_append_drop] at this
  omega

/-- the state that a clone leaves is valid -/
theorem clone_good {st : Sta} {t : List UInt8} {v : Vo} (g : WoolVol.Good FP st) (hv : v ∈ st.v) (hn : newE st t = 0) : WoolVol.Good FP ⟨ret st.b v.bl, vins ⟨t, v.bl⟩ st.v⟩ := by
  obtain ⟨h1, h2, h3⟩ := newE_zero hn
  have hl6 := g.len
  have hvv := g.vol v hv
  refine ⟨ret_bag g _ hvv.2.1, ?_, fun u hu => ?_, ?_, fun x hx => ?_⟩
  · show (vins _ st.v).length ≤ 6
    unfold vins
    have := vplace_le t st.v
    rw [List.length_append, List.length_cons, List.length_take, List.length_drop]
    omega
  · rcases vins_mem hu with rfl | hu
    · exact ⟨h1, hvv.2.1, fun i hi => (errB_ret _ _ i).trans (hvv.2.2 i hi)⟩
    · have := g.vol u hu
      exact ⟨this.1, this.2.1, fun i hi => (errB_ret _ _ i).trans (this.2.2 i hi)⟩
  · refine sorted_ins (f := Vo.nm) (k := vplace t st.v) g.ord (fun a ha => ?_) (fun a ha => ?_)
    · obtain ⟨q, hq, rfl⟩ := List.getElem_of_mem ha
      rw [List.length_take] at hq
      rw [List.getElem_take]
      have h9 : slt st.v[q].nm t = true := vplace_below h2 q (by omega) (by omega)
      exact h9
    · obtain ⟨q, hq, rfl⟩ := List.getElem_of_mem ha
      rw [List.length_drop] at hq
      rw [List.getElem_drop]
      have h9 : slt t (st.v[vplace t st.v + q]'(by omega)).nm = true := vplace_above g.ord _ (by omega) (by omega)
      exact h9
  · change x ∈ ret st.b v.bl at hx
    unfold ret at hx
    rw [List.mem_map] at hx
    obtain ⟨y, hy, rfl⟩ := hx
    have hr := g.refs y hy
    show y.r + cnt v.bl (idOf y) = cnt (ids (vins ⟨t, v.bl⟩ st.v)) (idOf y)
    rw [cnt_vins, hr]
    show _ = cnt v.bl (idOf y) + _
    omega

end Go.Proofs.YtcbppfndlagodaaGreat
