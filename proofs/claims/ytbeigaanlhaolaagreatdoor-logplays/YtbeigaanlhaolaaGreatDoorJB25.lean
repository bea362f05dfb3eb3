/-
  The texts StL, DiffM, StW, StU, LogD, one behind the other; each says below what it holds and on what conditions.
-/
import Derived.Test.YtbeigaanlhaolaaGreatDoorJB06
import Derived.Test.YtbeigaanlhaolaaGreatDoorJB08
import Derived.Test.YtbeigaanlhaolaaGreatDoorJB23
import Derived.Test.YtbeigaanlhaolaaGreatDoorJB24
import Derived.Test.YtbeigaanlhaolaaGreatDoorJB17

/-
  What holds of states made by deeds, in plain words, by whatever fingerprint: how often blocks are used; how many there are; what reads as before; what is undone. Conditions: as each says.
-/
namespace WoolVol
open WoolBag

variable {F : List UInt8 → Int}

/-! ytbeigaanlhaolaagreatdoor# how often blocks are used -/

/-! ytbeigaanlhaolaagreatdoor# how many blocks there are -/

/-! ytbeigaanlhaolaagreatdoor# what reads as before -/

theorem Keeps.vix {st st' : Sta} {k j : Nat} {o : Option (List UInt8)} (h : Keeps F st st' k j o) (s : List UInt8) : vix (nmB s) st'.v = vix (nmB s) st.v := by
  have hl : ∀ q (hq : q < st.v.length), nmB s (st'.v[q]'(by rw [h.len]; exact hq)) = nmB s st.v[q] := by
    intro q hq
    unfold nmB
    rw [(h.vol q hq (by rw [h.len]; exact hq)).1]
  cases e : WoolVol.vix (nmB s) st.v with
  | none =>
    rw [vix_none] at e ⊢
    intro x hx
    obtain ⟨q, hq, rfl⟩ := List.getElem_of_mem hx
    have hq2 : q < st.v.length := by rw [← h.len]; exact hq
    rw [hl q hq2]
    exact e _ (List.getElem_mem hq2)
  | some k =>
    obtain ⟨h1, h2, h3⟩ := vix_some e
    exact vix_of (by rw [h.len]; exact h1) (by rw [hl k h1]; exact h2) (fun j hj => by rw [hl j (by omega)]; exact h3 j hj)

/-- any other place reads as before -/
theorem Keeps.read {st st' : Sta} {k j : Nat} {o : Option (List UInt8)} (g : Good F st) (h : Keeps F st st' k j o) (s : List UInt8) (a : Int) (hne : ¬ (WoolVol.vix (nmB s) st.v = some k ∧ a = (j : Int))) : WoolVol.read F st' s a = WoolVol.read F st s a := by
  cases e : WoolVol.vix (nmB s) st.v with
  | none =>
    have e' : WoolVol.vix (nmB s) st'.v = none := by rw [h.vix]; exact e
    have h1 := vloc_miss (a := a) g e
    have h2 := vloc_miss (a := a) h.good e'
    rw [read_no (st := st') (by rw [h2]; simp), read_no (st := st) (by rw [h1]; simp), h1, h2]
  | some q =>
    have e' : WoolVol.vix (nmB s) st'.v = some q := by rw [h.vix]; exact e
    obtain ⟨hq, _⟩ := vix_name e
    have hq' : q < st'.v.length := by rw [h.len]; exact hq
    have hl := (h.vol q hq hq').2
    by_cases ho : a < 0 ∨ (st.v[q].bl.length : Int) ≤ a
    · have h1 := vloc_off g hq e ho
      have h2 := vloc_off h.good hq' e' (by rw [hl]; exact ho)
      rw [read_no (st := st') (by rw [h2]; simp), read_no (st := st) (by rw [h1]; simp), h1, h2]
    · obtain ⟨p, rfl⟩ := Int.eq_ofNat_of_zero_le (show 0 ≤ a by omega)
      have hp : p < st.v[q].bl.length := by omega
      rw [read_of h.good hq' e' (by rw [hl]; exact hp), read_of g hq e hp, h.txt q p hq hp, if_neg]
      rintro ⟨rfl, rfl⟩
      exact hne ⟨e, rfl⟩

/-! ytbeigaanlhaolaagreatdoor# what is undone -/

theorem setB_twice {l : List Vo} {k j : Nat} {a b : Idn} (hk : k < l.length) : setB (setB l k j a) k j b = setB l k j b := by
  rw [setB_eq (l := setB l k j a) (by rw [len_setB]; exact hk)]
  have e : ∀ (m : List Vo) (_ : m = l.set k ⟨l[k].nm, l[k].bl.set j a⟩) (hm : k < m.length), m.set k ⟨m[k].nm, m[k].bl.set j b⟩ = setB l k j b := by
    rintro m rfl hm
    rw [setB_eq hk]
    simp [List.set_set]
  exact e _ (setB_eq hk) _

/-! ytbeigaanlhaolaagreatdoor# a new volume beside the others -/

/-! ytbeigaanlhaolaagreatdoor# no blocks without volumes -/

theorem bare_bag {st : Sta} (g : Good F st) (h : ∀ v ∈ st.v, ∀ i ∈ v.bl, i.1 = false) : st.b = [] := by
  cases hb : st.b with
  | nil => rfl
  | cons x r =>
    have hx : x ∈ st.b := by rw [hb]; simp
    have hr := g.refs x hx
    have h1 := (g.bag.ok x hx).2.2.2.2.1
    have hm := cnt_mem.2 (show cnt (ids st.v) (idOf x) ≠ 0 by omega)
    obtain ⟨v, hv, hi⟩ := mem_ids.1 hm
    have := h v hv _ hi
    cases this

/-! ytbeigaanlhaolaagreatdoor# errors of Write -/

theorem put_full {b : List Itm} {t : List UInt8} (hb : Bag F b) (ht : t.length ≤ 64) : (put F b t).2.2 = 0 ∨ (put F b t).2.2 = 8 := by
  unfold put
  rw [if_neg (by rw [(chk_zero F).2 hb]; simp), if_neg (by omega)]
  cases idx (txtB t) b with
  | some k => simp only; split <;> simp
  | none => simp only; split <;> simp

/-! ytbeigaanlhaolaagreatdoor# states that read alike -/

end WoolVol

/-
  Differences of volumes, and blocks copied, in plain words, by whatever fingerprint: what was copied differs no more. Conditions: as each says.
-/
namespace WoolVol
open WoolBag

variable {F : List UInt8 → Int}

/-! ytbeigaanlhaolaagreatdoor# where two volumes differ -/

def difG (a b : List Idn) (k : Nat) : List Int := ((List.range k).filter (fun i => !(a[i]! == b[i]!))).map (fun i : Nat => (i : Int))

theorem mem_difG (a b : List Idn) (k i : Nat) : (i : Int) ∈ difG a b k ↔ i < k ∧ a[i]! ≠ b[i]! := by
  unfold difG
  rw [List.mem_map]
  constructor
  · rintro ⟨j, hj, e⟩
    have e2 : j = i := by omega
    subst e2
    rw [List.mem_filter, List.mem_range] at hj
    exact ⟨hj.1, by simpa using hj.2⟩
  · rintro ⟨h1, h2⟩
    exact ⟨i, by rw [List.mem_filter, List.mem_range]; exact ⟨h1, by simpa using h2⟩, rfl⟩

theorem difG_bounds (a b : List Idn) (k : Nat) : ∀ p ∈ difG a b k, 0 ≤ p ∧ p < (k : Int) := by
  intro p hp
  unfold difG at hp
  rw [List.mem_map] at hp
  obtain ⟨i, hi, rfl⟩ := hp
  rw [List.mem_filter, List.mem_range] at hi
  omega

theorem difG_self (a : List Idn) (k : Nat) : difG a a k = [] := by
  unfold difG
  have : (List.range k).filter (fun i => !(a[i]! == a[i]!)) = [] := by
    rw [List.filter_eq_nil_iff]
    intro i _
    simp
  rw [this]
  rfl

/-! ytbeigaanlhaolaagreatdoor# one block copied -/

/-- a text that another volume's block holds is written: the block is that block -/
theorem copy_write {cur : Sta} {s t : List UInt8} {k kf j : Nat} (g : Good F cur) (hx : vix (nmB s) cur.v = some k) (hk : k < cur.v.length) (hj : j < cur.v[k].bl.length)
    (hkf : kf < cur.v.length) (hjf : j < cur.v[kf].bl.length) (hne : kf ≠ k) (ht : txAt cur kf j = some t) : ∃ b', write F cur s (j : Int) t = (⟨b', setB (setB cur.v k j noId) k j (blk cur kf j)⟩, 0) := by
  have hkp := trim_keeps g hk hj
  obtain ⟨T, hT⟩ : ∃ T : Sta, (⟨rel F cur.b [cur.v[k].bl[j]], setB cur.v k j noId⟩ : Sta) = T := ⟨_, rfl⟩
  have hTb : T.b = rel F cur.b [cur.v[k].bl[j]] := by rw [← hT]
  have hblk : blk T kf j = blk cur kf j := by
    rw [← hT, blk_setB (b := cur.b) hk hkf hjf, if_neg (fun h => hne h.1)]
  rw [hT] at hkp
  have h2 : txAt T kf j = some t := by
    rw [hkp.txt kf j hkf hjf, if_neg (fun h => hne h.1)]
    exact ht
  unfold txAt at h2
  rw [hblk] at h2
  split at h2
  · rename_i hi1
    unfold tx at h2
    cases e : it T.b (blk cur kf j) with
    | none => rw [e] at h2; cases h2
    | some x =>
      rw [e] at h2
      cases h2
      obtain ⟨hxm, hxi⟩ := (it_some hkp.good.bag).1 e
      obtain ⟨q, hq, hqx⟩ := List.getElem_of_mem hxm
      have hr := refs_small hkp.good x hxm
      have hp := put_at (F := F) (t := x.t) hkp.good.bag (hkp.good.bag.ok x hxm).1 hq (by rw [hqx]) (by rw [hqx]; omega)
      rw [hqx, ← hxi] at hp
      rw [hTb] at hp
      have hw := write_of (s := s) (t := x.t) hk hj (vloc_of g hk hx hj)
      rw [hp] at hw
      exact ⟨_, hw.trans (if_neg (by simp))⟩
  · cases h2

variable (F) in
/-- one block copied, from the texts of the first state -/
def cpSG (st0 : Sta) (kf : Nat) (b : List UInt8) (cur : Sta) (p : Int) : Sta × Int :=
  match txAt st0 kf p.toNat with
  | some t => write F cur b p t
  | none => trim F cur b p

variable (F) in
/-- blocks copied, one behind the other -/
def cpLG (st0 : Sta) (kf L : Nat) (b : List UInt8) : Sta → List Int → Sta × Int
  | cur, [] => (cur, 0)
  | cur, p :: r => if p < 0 ∨ (L : Int) ≤ p then (zeroS, 1) else if (cpSG F st0 kf b cur p).2 ≠ 0 then (zeroS, (cpSG F st0 kf b cur p).2) else cpLG st0 kf L b (cpSG F st0 kf b cur p).1 r

/-- a state in which the places D of volume kt hold what volume kf holds -/
structure CpJ (F : List UInt8 → Int) (st0 cur : Sta) (kf kt : Nat) (D : Nat → Prop) : Prop where
  good : Good F cur
  len : cur.v.length = st0.v.length
  vol : ∀ q (h : q < st0.v.length) (h' : q < cur.v.length), cur.v[q].nm = st0.v[q].nm ∧ cur.v[q].bl.length = st0.v[q].bl.length
  oth : ∀ q p (h : q < st0.v.length), p < st0.v[q].bl.length → q ≠ kt → blk cur q p = blk st0 q p ∧ txAt cur q p = txAt st0 q p
  done : ∀ p (h : kt < st0.v.length), p < st0.v[kt].bl.length → D p → blk cur kt p = blk st0 kf p
  rest : ∀ p (h : kt < st0.v.length), p < st0.v[kt].bl.length → ¬ D p → blk cur kt p = blk st0 kt p

theorem CpJ.first {st0 : Sta} (g : Good F st0) (kf kt : Nat) : CpJ F st0 st0 kf kt (fun _ => False) :=
  ⟨g, rfl, fun _ _ _ => ⟨rfl, rfl⟩, fun _ _ _ _ _ => ⟨rfl, rfl⟩, fun _ _ _ h => h.elim, fun _ _ _ _ => rfl⟩

theorem vix_alike {st1 cur : Sta} {nm : List UInt8} {k : Nat} (len : cur.v.length = st1.v.length) (vol : ∀ q (h : q < st1.v.length) (h' : q < cur.v.length), cur.v[q].nm = st1.v[q].nm ∧ cur.v[q].bl.length = st1.v[q].bl.length) (hx : vix (nmB nm) st1.v = some k) : vix (nmB nm) cur.v = some k := by
  obtain ⟨h1, h2, h3⟩ := vix_some hx
  refine vix_of (by omega) ?_ (fun q hq => ?_)
  · unfold nmB; rw [(vol k h1 (by omega)).1]; exact h2
  · unfold nmB; rw [(vol q (by omega) (by omega)).1]; exact h3 q hq

theorem hole_blk {st : Sta} (g : Good F st) {k j : Nat} (hk : k < st.v.length) (hj : j < st.v[k].bl.length) (h : txAt st k j = none) : blk st k j = noId := by
  have h1 := tx_is g hk hj
  rw [h] at h1
  rw [blk_eq hk hj]
  exact errB_hole ((g.vol _ (List.getElem_mem hk)).2.2 _ (List.getElem_mem hj)) h1.symm

theorem CpJ.step {st0 cur : Sta} {kf kt j : Nat} {D : Nat → Prop} {b : List UInt8} (g0 : Good F st0) (h : CpJ F st0 cur kf kt D) (hx : vix (nmB b) st0.v = some kt) (hkf : kf < st0.v.length) (hkt : kt < st0.v.length) (hjf : j < st0.v[kf].bl.length) (hjt : j < st0.v[kt].bl.length) (hne : kf ≠ kt) :
    (cpSG F st0 kf b cur (j : Int)).2 = 0 ∧ CpJ F st0 (cpSG F st0 kf b cur (j : Int)).1 kf kt (fun p => D p ∨ p = j) := by
  have hlen := h.len
  have hkc : kt < cur.v.length := by omega
  have hkfc : kf < cur.v.length := by omega
  have hxc := vix_alike h.len h.vol hx
  have hjc : j < cur.v[kt].bl.length := by rw [(h.vol kt hkt hkc).2]; exact hjt
  have hjfc : j < cur.v[kf].bl.length := by rw [(h.vol kf hkf hkfc).2]; exact hjf
  have hfrom := h.oth kf j hkf hjf hne
  have key : ∃ b', cpSG F st0 kf b cur (j : Int) = (⟨b', setB (setB cur.v kt j noId) kt j (blk st0 kf j)⟩, 0) ∧ ∃ o, Keeps F cur (cpSG F st0 kf b cur (j : Int)).1 kt j o := by
    unfold cpSG
    rw [Int.toNat_natCast]
    cases e : txAt st0 kf j with
    | some t =>
      simp only
      obtain ⟨b', hw⟩ := copy_write h.good hxc hkc hjc hkfc hjfc hne (hfrom.2.trans e)
      rw [hfrom.1] at hw
      refine ⟨b', hw, some t, ?_⟩
      obtain ⟨_, k, _, j', _, ej, hx2, _, _, _, _, hk⟩ := write_g (F := F) (st := cur) (s := b) (t := t) (a := (j : Int)) (by rw [hw])
      rw [hxc] at hx2
      cases hx2
      have : j' = j := by omega
      subst this
      exact hk
    | none =>
      simp only
      have ht := trim_of hkc hjc (vloc_of h.good hkc hxc hjc)
      have hhole := hole_blk g0 hkf hjf e
      refine ⟨rel F cur.b [cur.v[kt].bl[j]], ?_, none, ?_⟩
      · rw [ht, hhole, setB_twice hkc]
      · rw [ht]
        exact trim_keeps h.good hkc hjc
  obtain ⟨b', hc, o, hk⟩ := key
  have hT : kt < (setB cur.v kt j noId).length := by rw [len_setB]; exact hkc
  have hblk : ∀ q p (hq : q < cur.v.length), p < cur.v[q].bl.length → blk (cpSG F st0 kf b cur (j : Int)).1 q p = if q = kt ∧ p = j then blk st0 kf j else blk cur q p := by
    intro q p hq hp
    rw [hc, setB_twice hkc]
    exact blk_setB (b := cur.b) hkc hq hp
  refine ⟨by rw [hc], hk.good, hk.len.trans h.len, fun q hq hq' => ?_, fun q p hq hp hqt => ?_, fun p _ hp hD => ?_, fun p _ hp hD => ?_⟩
  · have hqc : q < cur.v.length := by omega
    exact ⟨(hk.vol q hqc hq').1.trans (h.vol q hq hqc).1, (hk.vol q hqc hq').2.trans (h.vol q hq hqc).2⟩
  · have hqc : q < cur.v.length := by omega
    have hpc : p < cur.v[q].bl.length := by rw [(h.vol q hq hqc).2]; exact hp
    rw [hblk q p hqc hpc, if_neg (fun e => hqt e.1), hk.txt q p hqc hpc, if_neg (fun e => hqt e.1)]
    exact h.oth q p hq hp hqt
  · have hpc : p < cur.v[kt].bl.length := by rw [(h.vol kt hkt hkc).2]; exact hp
    rw [hblk kt p hkc hpc]
    by_cases e : p = j
    · rw [if_pos ⟨rfl, e⟩, e]
    · rw [if_neg (fun h => e h.2)]
      exact h.done p hkt hp (hD.resolve_right e)
  · have hpc : p < cur.v[kt].bl.length := by rw [(h.vol kt hkt hkc).2]; exact hp
    rw [hblk kt p hkc hpc, if_neg (fun e => hD (.inr e.2))]
    exact h.rest p hkt hp (fun e => hD (.inl e))

theorem cpLG_all {st0 : Sta} {kf kt L : Nat} {b : List UInt8} (g0 : Good F st0) (hx : vix (nmB b) st0.v = some kt) (hkf : kf < st0.v.length) (hkt : kt < st0.v.length) (hlf : st0.v[kf].bl.length = L) (hlt : st0.v[kt].bl.length = L) (hne : kf ≠ kt) :
    ∀ (z : List Int) (cur : Sta) (D : Nat → Prop), (∀ p ∈ z, 0 ≤ p ∧ p < (L : Int)) → CpJ F st0 cur kf kt D → (cpLG F st0 kf L b cur z).2 = 0 ∧ CpJ F st0 (cpLG F st0 kf L b cur z).1 kf kt (fun p => D p ∨ (p : Int) ∈ z)
  | [], cur, D, _, hc => ⟨rfl, by
      have e : (fun p : Nat => D p ∨ (p : Int) ∈ ([] : List Int)) = D := by funext p; simp
      rw [e]; exact hc⟩
  | p :: r, cur, D, hz, hc => by
    obtain ⟨hp0, hpq⟩ := hz p (by simp)
    obtain ⟨j, rfl⟩ := Int.eq_ofNat_of_zero_le hp0
    obtain ⟨s1, s2⟩ := hc.step (j := j) g0 hx hkf hkt (by omega) (by omega) hne
    obtain ⟨i1, i2⟩ := cpLG_all g0 hx hkf hkt hlf hlt hne r _ _ (fun p hp => hz p (by simp [hp])) s2
    have e : cpLG F st0 kf L b cur ((j : Int) :: r) = cpLG F st0 kf L b (cpSG F st0 kf b cur (j : Int)).1 r := by
      rw [cpLG, if_neg (by omega), if_neg (by simpa using s1)]
    rw [e]
    have e2 : (fun p : Nat => (D p ∨ p = j) ∨ (p : Int) ∈ r) = (fun p : Nat => D p ∨ (p : Int) ∈ (j : Int) :: r) := by
      funext p
      rw [List.mem_cons, or_assoc]
      have : ((p : Int) = (j : Int)) = (p = j) := by rw [eq_iff_iff]; omega
      rw [this]
    rw [e2] at i2
    exact ⟨i1, i2⟩

/-- what differs, copied: the volumes are the same blocks -/
theorem copied {st : Sta} {kf kt L : Nat} {b : List UInt8} (g : Good F st) (hx : vix (nmB b) st.v = some kt) (hkf : kf < st.v.length) (hkt : kt < st.v.length) (hlf : st.v[kf].bl.length = L) (hlt : st.v[kt].bl.length = L) :
    (cpLG F st kf L b st (difG st.v[kf].bl st.v[kt].bl L)).2 = 0 ∧ ∃ x, cpLG F st kf L b st (difG st.v[kf].bl st.v[kt].bl L) = (x, 0) ∧ Good F x ∧ x.v.length = st.v.length ∧
      (∀ q (h : q < st.v.length) (h' : q < x.v.length), x.v[q].nm = st.v[q].nm ∧ x.v[q].bl.length = st.v[q].bl.length) ∧
      (∀ p, p < L → blk x kt p = blk x kf p ∧ txAt x kt p = txAt st kf p) ∧
      (∀ q p (h : q < st.v.length), p < st.v[q].bl.length → q ≠ kt → txAt x q p = txAt st q p) := by
  by_cases hne : kf = kt
  · subst hne
    rw [difG_self]
    exact ⟨rfl, st, rfl, g, rfl, fun _ _ _ => ⟨rfl, rfl⟩, fun _ _ => ⟨rfl, rfl⟩, fun _ _ _ _ _ => rfl⟩
  · obtain ⟨c1, c2⟩ := cpLG_all g hx hkf hkt hlf hlt hne _ st _ (difG_bounds st.v[kf].bl st.v[kt].bl L) (CpJ.first g kf kt)
    refine ⟨c1, _, Prod.ext rfl c1, c2.good, c2.len, c2.vol, fun p hp => ?_, fun q p hq hp hqt => (c2.oth q p hq hp hqt).2⟩
    have hf := c2.oth kf p hkf (by omega) hne
    have hsame : blk (cpLG F st kf L b st (difG st.v[kf].bl st.v[kt].bl L)).1 kt p = blk st kf p := by
      by_cases hD : (p : Int) ∈ difG st.v[kf].bl st.v[kt].bl L
      · exact c2.done p hkt (by omega) (.inr hD)
      · rw [c2.rest p hkt (by omega) (fun e => hD (e.resolve_left id))]
        rw [mem_difG] at hD
        have e : st.v[kf].bl[p]! = st.v[kt].bl[p]! := by
          apply Classical.byContradiction
          intro h9
          exact hD ⟨hp, h9⟩
        unfold blk
        rw [getElem!_pos st.v kf hkf, getElem!_pos st.v kt hkt]
        exact e.symm
    refine ⟨hsame.trans hf.1.symm, ?_⟩
    rw [← hf.2]
    unfold txAt
    rw [hsame, hf.1]

/-! ytbeigaanlhaolaagreatdoor# a clone that is written -/

/-- volume kz was volume kn, and was written at the places W since -/
structure WrJ (F : List UInt8 → Int) (st0 cur : Sta) (kn kz : Nat) (W : Nat → Prop) : Prop where
  good : Good F cur
  len : cur.v.length = st0.v.length
  vol : ∀ q (h : q < st0.v.length) (h' : q < cur.v.length), cur.v[q].nm = st0.v[q].nm ∧ cur.v[q].bl.length = st0.v[q].bl.length
  from_ : ∀ p (h : kn < st0.v.length), p < st0.v[kn].bl.length → blk cur kn p = blk st0 kn p
  wrote : ∀ p (h : kz < st0.v.length), p < st0.v[kz].bl.length → W p → (blk cur kz p).1 = true
  rest : ∀ p (h : kz < st0.v.length), p < st0.v[kz].bl.length → ¬ W p → blk cur kz p = blk st0 kz p

theorem WrJ.first {st0 : Sta} (g : Good F st0) (kn kz : Nat) : WrJ F st0 st0 kn kz (fun _ => False) :=
  ⟨g, rfl, fun _ _ _ => ⟨rfl, rfl⟩, fun _ _ _ => rfl, fun _ _ _ h => h.elim, fun _ _ _ _ => rfl⟩

theorem WrJ.step {st0 cur : Sta} {kn kz : Nat} {W : Nat → Prop} {s t : List UInt8} {a : Int} (h : WrJ F st0 cur kn kz W) (hx : vix (nmB s) st0.v = some kz) (hkn : kn < st0.v.length) (hne : kn ≠ kz) (hw : (write F cur s a t).2 = 0) :
    ∃ j : Nat, a = (j : Int) ∧ (∀ hz : kz < st0.v.length, j < st0.v[kz].bl.length) ∧ WrJ F st0 (write F cur s a t).1 kn kz (fun p => W p ∨ p = j) := by
  have hlen := h.len
  have hxc := vix_alike h.len h.vol hx
  obtain ⟨g, k, hk, j, hj, rfl, hx2, b', i, hp, he, hkp⟩ := write_g hw
  rw [hxc] at hx2
  cases hx2
  have hkz : kz < st0.v.length := by omega
  have hblk : ∀ q p (hq : q < cur.v.length), p < cur.v[q].bl.length → blk (write F cur s (j : Int) t).1 q p = if q = kz ∧ p = j then i else blk cur q p := by
    intro q p hq hp9
    rw [he, setB_twice hk]
    exact blk_setB (b := cur.b) hk hq hp9
  refine ⟨j, rfl, fun hz => by rw [← (h.vol kz hz hk).2]; exact hj, hkp.good, hkp.len.trans h.len, fun q hq hq' => ?_, fun p _ hp9 => ?_, fun p _ hp9 hW => ?_, fun p _ hp9 hW => ?_⟩
  · have hqc : q < cur.v.length := by omega
    exact ⟨(hkp.vol q hqc hq').1.trans (h.vol q hq hqc).1, (hkp.vol q hqc hq').2.trans (h.vol q hq hqc).2⟩
  · have hkc : kn < cur.v.length := by omega
    rw [hblk kn p hkc (by rw [(h.vol kn hkn hkc).2]; exact hp9), if_neg (fun e => hne e.1)]
    exact h.from_ p hkn hp9
  · rw [hblk kz p hk (by rw [(h.vol kz hkz hk).2]; exact hp9)]
    by_cases e : p = j
    · rw [if_pos ⟨rfl, e⟩]; exact (it_put hp).1
    · rw [if_neg (fun h => e h.2)]
      exact h.wrote p hkz hp9 (hW.resolve_right e)
  · rw [hblk kz p hk (by rw [(h.vol kz hkz hk).2]; exact hp9), if_neg (fun e => hW (.inr e.2))]
    exact h.rest p hkz hp9 (fun e => hW (.inl e))

end WoolVol

/-
  What the laws on volumes ask, in plain words, by whatever fingerprint. Conditions: as each says.
-/
namespace WoolVol
open WoolBag

variable {F : List UInt8 → Int}

/-! ytbeigaanlhaolaagreatdoor# the texts of a volume -/

def rdG (st : Sta) (k n : Nat) : List (List UInt8) := (List.range n).map fun i => (txAt st k i).getD []

theorem rdG_congr {a b : Sta} {k l n : Nat} (h : ∀ i, i < n → txAt a k i = txAt b l i) : rdG a k n = rdG b l n := by
  unfold rdG
  refine List.map_congr_left (fun i hi => ?_)
  rw [List.mem_range] at hi
  rw [h i hi]

variable (F) in
/-- the blocks of a volume that can be read -/
def textsG (st : Sta) (s : List UInt8) : List (List UInt8) := if (blocks F st s).2 ≠ 0 then [] else (List.range (blocks F st s).1.length).map fun i : Nat => (read F st s (i : Int)).1

theorem textsG_of {st : Sta} {s : List UInt8} {k : Nat} (g : Good F st) (hk : k < st.v.length) (hx : vix (nmB s) st.v = some k) : textsG F st s = rdG st k st.v[k].bl.length := by
  unfold textsG
  rw [blocks_of g hk hx, if_neg (by simp)]
  unfold rdG
  refine List.map_congr_left (fun i hi => ?_)
  rw [List.mem_range] at hi
  rw [read_of g hk hx hi]

theorem textsG_miss {st : Sta} {s : List UInt8} (g : Good F st) (hx : vix (nmB s) st.v = none) : textsG F st s = [] := by
  unfold textsG
  rw [blocks_miss g hx, if_pos (by simp)]

/-- texts of another volume than the one that was written -/
theorem Keeps.texts {st st' : Sta} {k j : Nat} {o : Option (List UInt8)} (g : Good F st) (h : Keeps F st st' k j o) (s : List UInt8) (hne : WoolVol.vix (nmB s) st.v ≠ some k) : textsG F st' s = textsG F st s := by
  cases e : WoolVol.vix (nmB s) st.v with
  | none => rw [textsG_miss g e, textsG_miss h.good (by rw [h.vix]; exact e)]
  | some q =>
    obtain ⟨hq, _⟩ := vix_name e
    have hq' : q < st'.v.length := by rw [h.len]; exact hq
    rw [textsG_of g hq e, textsG_of h.good hq' (by rw [h.vix]; exact e), (h.vol q hq hq').2]
    refine rdG_congr (fun i hi => ?_)
    rw [h.txt q i hq hi, if_neg]
    rintro ⟨rfl, _⟩
    exact hne e

/-! ytbeigaanlhaolaagreatdoor# VolReads -/

/-! ytbeigaanlhaolaagreatdoor# VolClones -/

/-! ytbeigaanlhaolaagreatdoor# VolNew -/

/-! ytbeigaanlhaolaagreatdoor# VolApart -/

/-! ytbeigaanlhaolaagreatdoor# VolEmpty -/

/-- all blocks of the volumes before k, and the first i of volume k, are trimmed -/
structure BareJ (F : List UInt8 → Int) (st cur : Sta) (k i : Nat) : Prop where
  good : Good F cur
  len : cur.v.length = st.v.length
  vol : ∀ q (h : q < st.v.length) (h' : q < cur.v.length), cur.v[q].nm = st.v[q].nm ∧ cur.v[q].bl.length = st.v[q].bl.length
  bare : ∀ q p (h : q < st.v.length), p < st.v[q].bl.length → (q < k ∨ (q = k ∧ p < i)) → txAt cur q p = none

theorem BareJ.first {st : Sta} (g : Good F st) : BareJ F st st 0 0 := ⟨g, rfl, fun _ _ _ => ⟨rfl, rfl⟩, fun _ _ _ _ h => by omega⟩

theorem BareJ.next {st cur : Sta} {k : Nat} (h : BareJ F st cur k st.v[k]!.bl.length) (hk : k < st.v.length) : BareJ F st cur (k + 1) 0 :=
  ⟨h.good, h.len, h.vol, fun q p hq hp hc => h.bare q p hq hp (by
    rcases hc with hc | hc
    · by_cases e : q = k
      · subst e
        exact .inr ⟨rfl, by rw [getElem!_pos st.v q hk]; exact hp⟩
      · exact .inl (by omega)
    · omega)⟩

theorem BareJ.step {st cur : Sta} {k i : Nat} (g0 : Good F st) (h : BareJ F st cur k i) (hk : k < st.v.length) (hi : i < st.v[k].bl.length) : (trim F cur st.v[k].nm (i : Int)).2 = 0 ∧ BareJ F st (trim F cur st.v[k].nm (i : Int)).1 k (i + 1) := by
  have hkc : k < cur.v.length := by rw [h.len]; exact hk
  have hx := vix_alike h.len h.vol (vix_nm g0 hk)
  have hic : i < cur.v[k].bl.length := by rw [(h.vol k hk hkc).2]; exact hi
  have ht := trim_of hkc hic (vloc_of h.good hkc hx hic)
  have hkp := trim_keeps h.good hkc hic
  rw [ht]
  refine ⟨rfl, hkp.good, hkp.len.trans h.len, fun q hq hq' => ?_, fun q p hq hp hc => ?_⟩
  · have hqc : q < cur.v.length := by rw [h.len]; exact hq
    exact ⟨(hkp.vol q hqc hq').1.trans (h.vol q hq hqc).1, (hkp.vol q hqc hq').2.trans (h.vol q hq hqc).2⟩
  · have hqc : q < cur.v.length := by rw [h.len]; exact hq
    rw [hkp.txt q p hqc (by rw [(h.vol q hq hqc).2]; exact hp)]
    by_cases e : q = k ∧ p = i
    · rw [if_pos e]
    · rw [if_neg e]
      exact h.bare q p hq hp (by omega)

theorem BareJ.bag {st cur : Sta} (h : BareJ F st cur st.v.length 0) : cur.b = [] := by
  refine bare_bag h.good (fun v hv i hi => ?_)
  obtain ⟨q, hq, rfl⟩ := List.getElem_of_mem hv
  obtain ⟨p, hp, rfl⟩ := List.getElem_of_mem hi
  have hq0 : q < st.v.length := by rw [← h.len]; exact hq
  have ht := h.bare q p hq0 (by rw [← (h.vol q hq0 hq).2]; exact hp) (.inl hq0)
  have := tx_is h.good hq hp
  rw [ht] at this
  exact this.symm

end WoolVol

/-
  Identifiers of a state's volumes, seen one behind the other; how many of them are used, and which texts; in plain words, by whatever fingerprint. Conditions: as each says.
-/
namespace WoolVol
open WoolBag

variable {F : List UInt8 → Int}

/-! ytbeigaanlhaolaagreatdoor# a state that a deed answers is valid, whether it was done or not -/

end WoolVol

/-
  What package log's apply and Replay return. Conditions: a state that can be read; a log of at most 2^48 bytes.
-/
namespace Go.Proofs.YtbeigaanlhaolaaGreatDoor
open Go.RowKit
open Go.Proofs
open WoolBag
open WoolVol

/-- frames of kind 1 -/
theorem frames1 : Frames (frm 1) getV := by
  refine ⟨fun b => frm_length 1 b, fun b more h => get_put 1 b more (by omega) (by omega) h, fun b k h hk => ?_, fun s h => ?_⟩
  · rw [get_cut 1 b k (by omega) (by omega) h hk]
  · obtain ⟨K, b, _, _, h3, h4, h5, _⟩ := get_ok s h
    rw [h5]
    exact ⟨by show 7 ≤ b.length + 7; omega, h4⟩

/-- what apply answers -/
def appR (st : Sta) (k : Int) (b : List UInt8) : Sta × Bool :=
  if k ≠ 1 then (zeroS, false) else match decO b with
    | none => (zeroS, false)
    | some o => ((doO FP st o).1, decide ((doO FP st o).2 = 0))

def AppPost (w : World) (r : Sta × Bool) (e : Ending) (w' : World) : Prop :=
  ∃ (o1 : Option Addr) (c1 : Nat) (o2 : Option Addr) (c2 : Nat), e = .returned (.tuple #[.agg #[.slice o1 r.1.b.length c1, .slice o2 r.1.v.length c2], .bool r.2]) ∧ Stat w' (.agg #[.slice o1 r.1.b.length c1, .slice o2 r.1.v.length c2]) r.1 ∧ Up w w'

theorem decO_wf {b : List UInt8} {o : Opn} (h : decO b = some o) : OpWf o := by
  obtain ⟨_, hc⟩ := enc_dec h
  obtain ⟨h1, h2, h3, _, h5, h6, h7, _⟩ := chkO_ok hc
  have hn := nameB_len h3
  have ht := chkO_to hc
  exact ⟨wf_i64L (by omega), by omega, by omega, wf_i64L (by omega), by omega⟩

set_option maxRecDepth 100000 in
set_option maxHeartbeats 2000000 in
theorem apply_any (v : Value) (st : Sta) (k : Int) (b : List UInt8) (w : World) (h : Stat w v st) (g : WoolVol.Good FP st) (hb : b.length ≤ 281474976710656) :
    Calls Tryz.prog 20 #[v, .agg #[.int .i64 k, .string (bs b)]] w (AppPost w (appR st k b)) := by
  have HST := Lib.hid h
  have HGD := Lib.hid g
  obtain ⟨RS, hRS⟩ : ∃ RS, appR st k b = RS := ⟨_, rfl⟩
  rw [hRS]
  have HRS := Lib.hid hRS
  have HDE := Lib.hid (fun W => decode_any b W hb)
  have HWF := Lib.hid (fun o (h : decO b = some o) => decO_wf h)
  unfold decR at HDE
  obtain ⟨vb, vv, rfl, hbb, hvv⟩ := h
  obtain ⟨oB, cB, rfl, _⟩ := hbb.slice
  obtain ⟨oV, cV, rfl, _, _⟩ := hvv.slice
  clear hbb hvv hRS g
  obtain ⟨M, hM⟩ : ∃ M, st.b.length = M := ⟨_, rfl⟩
  obtain ⟨N, hN⟩ : ∃ N, st.v.length = N := ⟨_, rfl⟩
  rw [hM, hN] at HST ⊢
  clear hM hN
  have HA : Hid (RowC (((w.alloc (.cells #[.slice oB M cB, .slice oV N cV] 36)).alloc (.cells #[.int .i64 k, .string (bs b)] 32)).alloc (.cells #[.slice none 0 0, .slice none 0 0] 36)) w.heap.size 36 [.slice oB M cB, .slice oV N cV]) := RowC.up (heap_alloc_new w _) ((Up.alloc _ _).trans (Up.alloc _ _))
  have HF : Hid (RowC (((w.alloc (.cells #[.slice oB M cB, .slice oV N cV] 36)).alloc (.cells #[.int .i64 k, .string (bs b)] 32)).alloc (.cells #[.slice none 0 0, .slice none 0 0] 36)) (w.heap.size + 1) 32 [.int .i64 k, .string (bs b)]) := RowC.up (rowN_at [.int .i64 k, .string (bs b)] _ (by simp)) (Up.alloc _ _)
  have HR : Hid (RowC (((w.alloc (.cells #[.slice oB M cB, .slice oV N cV] 36)).alloc (.cells #[.int .i64 k, .string (bs b)] 32)).alloc (.cells #[.slice none 0 0, .slice none 0 0] 36)) (w.heap.size + 1 + 1) 36 [.slice none 0 0, .slice none 0 0]) := rowN_at [.slice none 0 0, .slice none 0 0] _ (by simp)
  have HU : Hid (Up w (((w.alloc (.cells #[.slice oB M cB, .slice oV N cV] 36)).alloc (.cells #[.int .i64 k, .string (bs b)] 32)).alloc (.cells #[.slice none 0 0, .slice none 0 0] 36))) := ((Up.alloc _ _).trans (Up.alloc _ _)).trans (Up.alloc _ _)
  go_enter Tryz.func20, Tryz.ntmps20
  go_upto_region 1 with (fail)
  generalize ((w.alloc (.cells #[.slice oB M cB, .slice oV N cV] 36)).alloc (.cells #[.int .i64 k, .string (bs b)] 32)).alloc (.cells #[.slice none 0 0, .slice none 0 0] 36) = W0 at HA HF HR HU ⊢
  obtain ⟨X, hX⟩ : ∃ X, w.heap.size + 1 + 1 = X := ⟨_, rfl⟩
  have HXW : Hid (w.heap.size ≤ X) := by show _ ≤ _; omega
  rw [hX] at HR ⊢
  clear hX
  generalize w.heap.size + 1 = F at HF ⊢
  generalize w.heap.size = A at HA ⊢
  have f0 := HF.out.cell (j := 0) rfl
  have f1 := HF.out.cell (j := 1) rfl
  have ZF : Hid (∀ W, RowC W X 36 [.slice none 0 0, .slice none 0 0] → Up w W → RS = (zeroS, false) → (∃ W2, (W.setCell ⟨X, 0, none⟩ (.slice none 0 0)).setCell ⟨X, 1, none⟩ (.slice none 0 0) = W2 ∧ W2.cell? ⟨X, 0, none⟩ = some (.slice none 0 0) ∧ W2.cell? ⟨X, 1, none⟩ = some (.slice none 0 0) ∧ AppPost w RS (.returned (.tuple #[.agg #[.slice none 0 0, .slice none 0 0], .bool false])) W2)) := by
    intro W hW hu he
    have hz := (hW.set 0 (.slice none 0 0)).set 1 (.slice none 0 0)
    refine ⟨_, rfl, hz.cell (j := 0) rfl, hz.cell (j := 1) rfl, ?_⟩
    subst he
    exact ⟨none, 0, none, 0, rfl, Stat.zero _, up2 hu HXW.out⟩
  by_cases hk : k = 1
  · subst hk
    have hdc : ∀ q, decO b = q → appR st 1 b = match q with | none => (zeroS, false) | some o => ((doO FP st o).1, decide ((doO FP st o).2 = 0)) := by
      intro q hq
      unfold appR
      rw [if_neg (by simp), hq]
    cases hd : decO b with
    | none =>
      have HZ : Hid (RS = (zeroS, false)) := by
        show _ = _
        rw [← HRS.out, hdc _ hd]
      rw [hd] at HDE
      simp only [Option.getD_none, Option.isSome_none, Bool.false_eq_true, if_false] at HDE
      unfold opA zeroO at HDE
      have he0 : bs [] = ⟨#[]⟩ := rfl
      simp only [he0] at HDE
      clear hd hdc HWF he0
      go_wp2_with fail
      refine (HDE.out _).mono ?_
      rintro e w2 ⟨rfl, u2⟩
      have hv := u2.trans (Up.alloc w2 (.cells #[.int .i64 0, .string ⟨#[]⟩, .string ⟨#[]⟩, .int .i64 0, .string ⟨#[]⟩] 27))
      have HR2 := Lib.hid (HR.out.up hv)
      have HU2 := Lib.hid (HU.out.trans hv)
      clear u2 hv f0 f1
      go_upto_region 4 with (fail)
      generalize w2.alloc (.cells #[.int .i64 0, .string ⟨#[]⟩, .string ⟨#[]⟩, .int .i64 0, .string ⟨#[]⟩] 27) = W3 at HR2 HU2 ⊢
      generalize w2.heap.size = Q
      have r0 := HR2.out.frozen 0
      have r1 := HR2.out.frozen 1
      have r2 := HR2.out.cell (j := 0) rfl
      have r3 := HR2.out.cell (j := 1) rfl
      go_wp2_with fail
      obtain ⟨WZ, hwz, z0, z1, hpost⟩ := ZF.out _ HR2.out HU2.out HZ.out
      rw [hwz]
      exact bodyPost_ret (v := .tuple #[.agg #[.slice none 0 0, .slice none 0 0], .bool false]) (by simp [results, Tryz.results20, go_sem, z0, z1]) rfl hpost
    | some o =>
      have HZ : Hid (RS = ((doO FP st o).1, decide ((doO FP st o).2 = 0))) := by
        show _ = _
        rw [← HRS.out, hdc _ hd]
      have HDO := Lib.hid (fun W (hW : Stat W (.agg #[.slice oB M cB, .slice oV N cV]) st) => do_any _ st o W hW (good_wf HGD.out) (HWF.out o hd))
      rw [hd] at HDE
      simp only [Option.getD_some, Option.isSome_some, if_true] at HDE
      unfold opA at HDE HDO
      unfold StEPost at HDO
      obtain ⟨⟨TS, TE⟩, hR⟩ : ∃ R, doO FP st o = R := ⟨_, rfl⟩
      rw [hR] at HDO HZ
      simp only at HDO HZ
      generalize bs o.nm = S1 at HDE HDO
      generalize bs o.to = S2 at HDE HDO
      generalize bs o.tx = S3 at HDE HDO
      generalize o.kd = K1 at HDE HDO
      generalize o.pl = K2 at HDE HDO
      clear hd hdc HWF hR HRS ZF
      go_wp2_with fail
      refine (HDE.out _).mono ?_
      rintro e w2 ⟨rfl, u2⟩
      have hv := u2.trans (Up.alloc w2 (.cells #[.int .i64 K1, .string S1, .string S2, .int .i64 K2, .string S3] 27))
      have HR2 := Lib.hid (HR.out.up hv)
      have HA2 := Lib.hid (HA.out.up hv)
      have HU2 := Lib.hid (HU.out.trans hv)
      have HO2 : Hid (RowC (w2.alloc (.cells #[.int .i64 K1, .string S1, .string S2, .int .i64 K2, .string S3] 27)) w2.heap.size 27 [.int .i64 K1, .string S1, .string S2, .int .i64 K2, .string S3]) := heap_alloc_new w2 _
      clear u2 hv f0 f1
      go_upto_region 4 with (fail)
      generalize w2.alloc (.cells #[.int .i64 K1, .string S1, .string S2, .int .i64 K2, .string S3] 27) = W3 at HR2 HA2 HO2 HU2 ⊢
      generalize w2.heap.size = Q at HO2 ⊢
      have y0 := HO2.out.cell (j := 0) rfl
      have y1 := HO2.out.cell (j := 1) rfl
      have y2 := HO2.out.cell (j := 2) rfl
      have y3 := HO2.out.cell (j := 3) rfl
      have y4 := HO2.out.cell (j := 4) rfl
      have a0 := HA2.out.cell (j := 0) rfl
      have a1 := HA2.out.cell (j := 1) rfl
      have HS3 := Lib.hid (HST.out.up HU2.out)
      go_wp2_with fail
      refine (HDO.out _ HS3.out).mono ?_
      rintro e w4 ⟨v4, rfl, ho4, u4⟩
      have hs4 := ho4.stat
      obtain ⟨o3, c3, o4, c4, hv4⟩ := hs4.shape
      subst hv4
      obtain ⟨n3, hn3⟩ : ∃ n3, TS.b.length = n3 := ⟨_, rfl⟩
      obtain ⟨n4, hn4⟩ : ∃ n4, TS.v.length = n4 := ⟨_, rfl⟩
      simp only at hs4 ⊢
      rw [hn3, hn4] at hs4 ⊢
      have hv := u4.trans (Up.alloc w4 (.cells #[.slice o3 n3 c3, .slice o4 n4 c4] 36))
      have HB5 : Hid (RowC (w4.alloc (.cells #[.slice o3 n3 c3, .slice o4 n4 c4] 36)) w4.heap.size 36 [.slice o3 n3 c3, .slice o4 n4 c4]) := heap_alloc_new w4 _
      have HS5 := Lib.hid (hs4.up (Up.alloc w4 (.cells #[.slice o3 n3 c3, .slice o4 n4 c4] 36)))
      have HR5 := Lib.hid (HR2.out.up hv)
      have HU5 := Lib.hid (HU2.out.trans hv)
      clear hv u4 ho4 hs4 y0 y1 y2 y3 y4 a0 a1
      go_upto_region 7 with (fail)
      generalize w4.alloc (.cells #[.slice o3 n3 c3, .slice o4 n4 c4] 36) = W5 at HB5 HS5 HR5 HU5 ⊢
      generalize w4.heap.size = Y at HB5 ⊢
      have b0 := HB5.out.cell (j := 0) rfl
      have b1 := HB5.out.cell (j := 1) rfl
      have r0 := HR5.out.frozen 0
      have r1 := HR5.out.frozen 1
      have r2 := HR5.out.cell (j := 0) rfl
      have r3 := HR5.out.cell (j := 1) rfl
      have hde : (TE == 0) = decide (TE = 0) := by by_cases h9 : TE = 0 <;> simp [h9]
      have HSZ := Lib.hid (Stat.boxed (x := .slice o3 n3 c3) (y := .slice o4 n4 c4) HS5.out HR5.out rfl rfl rfl)
      have HUZ := Lib.hid (up2 (x := .slice o3 n3 c3) (y := .slice o4 n4 c4) HU5.out HXW.out)
      have hz := (HR5.out.set 0 (.slice o3 n3 c3)).set 1 (.slice o4 n4 c4)
      have z0 := hz.cell (j := 0) rfl
      have z1 := hz.cell (j := 1) rfl
      have HPO : Hid (AppPost w RS (.returned (.tuple #[.agg #[.slice o3 n3 c3, .slice o4 n4 c4], .bool (decide (TE = 0))])) ((W5.setCell ⟨X, 0, none⟩ (.slice o3 n3 c3)).setCell ⟨X, 1, none⟩ (.slice o4 n4 c4))) := by
        rw [HZ.out]
        refine ⟨o3, c3, o4, c4, ?_, ?_, HUZ.out⟩
        · rw [hn3, hn4]
        · rw [hn3, hn4]
          exact HSZ.out
      have HEZ := Lib.hid (⟨z0, z1⟩ : _ ∧ _)
      clear hz z0 z1 HSZ HUZ hn3 hn4 HZ
      generalize decide (TE = 0) = DB at hde HPO
      go_wp2_with fail
      obtain ⟨z0, z1⟩ := HEZ.out
      have hpo := HPO.out
      generalize (W5.setCell ⟨X, 0, none⟩ (.slice o3 n3 c3)).setCell ⟨X, 1, none⟩ (.slice o4 n4 c4) = WZ at z0 z1 hpo ⊢
      exact bodyPost_ret (v := .tuple #[.agg #[.slice o3 n3 c3, .slice o4 n4 c4], .bool DB]) (by simp [results, Tryz.results20, go_sem, z0, z1]) rfl hpo
  · have hkz : (k == 1) = false := by rw [beq_eq_false_iff_ne]; exact hk
    have HZ : Hid (RS = (zeroS, false)) := by
      show _ = _
      rw [← HRS.out]
      unfold appR
      rw [if_pos hk]
    have r0 := HR.out.frozen 0
    have r1 := HR.out.frozen 1
    have r2 := HR.out.cell (j := 0) rfl
    have r3 := HR.out.cell (j := 1) rfl
    clear hk
    go_wp2_with fail
    obtain ⟨WZ, hwz, z0, z1, hpost⟩ := ZF.out _ HR.out HU.out HZ.out
    rw [hwz]
    exact bodyPost_ret (v := .tuple #[.agg #[.slice none 0 0, .slice none 0 0], .bool false]) (by simp [results, Tryz.results20, go_sem, z0, z1]) rfl hpost

end Go.Proofs.YtbeigaanlhaolaaGreatDoor
