/-
  Differences of volumes, and blocks copied, in plain words, by whatever fingerprint: what was copied differs no more. Conditions: as each says.
-/
import Derived.Test.YtnmdfdkagkpcaaaJVolOwn42
namespace WoolVol
open WoolBag

variable {F : List UInt8 → Int}

/-! ytnmdfdkagkpcaaa# where two volumes differ -/

def difG (a b : List Idn) (k : Nat) : List Int := ((List.range k).filter (fun i => !(a[i]! == b[i]!))).map (fun i : Nat => (i : Int))

theorem mem_difG (a b : List Idn) (k i : Nat) : (i : Int) ∈ difG a b k ↔ i < k ∧ a[i]! ≠ b[i]! := by
  unfold difG
  rw [List.mem_map]
  constructor
  · rintro ⟨j, hj, e⟩
    have e2 : j = i := by omega
    subst e2
    rw [List.mem_filter, List.mem_range] at hj
    exact ⟨hj.1, by simpa using hj.2⟩
  · rintro ⟨h1, h2⟩
    exact ⟨i, by rw [List.mem_filter, List.mem_range]; exact ⟨h1, by simpa using h2⟩, rfl⟩

theorem difG_bounds (a b : List Idn) (k : Nat) : ∀ p ∈ difG a b k, 0 ≤ p ∧ p < (k : Int) := by
  intro p hp
  unfold difG at hp
  rw [List.mem_map] at hp
  obtain ⟨i, hi, rfl⟩ := hp
  rw [List.mem_filter, List.mem_range] at hi
  omega

theorem difG_self (a : List Idn) (k : Nat) : difG a a k = [] := by
  unfold difG
  have : (List.range k).filter (fun i => !(a[i]! == a[i]!)) = [] := by
    rw [List.filter_eq_nil_iff]
    intro i _
    simp
  rw [this]
  rfl

theorem difG_symm (a b : List Idn) (k : Nat) : difG a b k = difG b a k := by
  unfold difG
  congr 1
  refine List.filter_congr (fun i _ => ?_)
  rw [Bool.eq_iff_iff]
  simp only [Bool.not_eq_true', beq_eq_false_iff_ne, ne_eq]
  exact ⟨fun h e => h e.symm, fun h e => h e.symm⟩

/-- where one differs from a third, it differs from a second, or that does -/
theorem difG_tri (a b c : List Idn) (k : Nat) (i : Int) (h : i ∈ difG a c k) : i ∈ difG a b k ∨ i ∈ difG b c k := by
  obtain ⟨h0, h1⟩ := difG_bounds a c k i h
  obtain ⟨j, rfl⟩ := Int.eq_ofNat_of_zero_le h0
  rw [mem_difG] at h
  rw [mem_difG, mem_difG]
  by_cases e : a[j]! = b[j]!
  · exact .inr ⟨h.1, fun e2 => h.2 (e.trans e2)⟩
  · exact .inl ⟨h.1, e⟩

/-! ytnmdfdkagkpcaaa# one block copied -/

/-- a text that another volume's block holds is written: the block is that block -/
theorem copy_write {cur : Sta} {s t : List UInt8} {k kf j : Nat} (g : Good F cur) (hx : vix (nmB s) cur.v = some k) (hk : k < cur.v.length) (hj : j < cur.v[k].bl.length)
    (hkf : kf < cur.v.length) (hjf : j < cur.v[kf].bl.length) (hne : kf ≠ k) (ht : txAt cur kf j = some t) : ∃ b', write F cur s (j : Int) t = (⟨b', setB (setB cur.v k j noId) k j (blk cur kf j)⟩, 0) := by
  have hkp := trim_keeps g hk hj
  obtain ⟨T, hT⟩ : ∃ T : Sta, (⟨rel F cur.b [cur.v[k].bl[j]], setB cur.v k j noId⟩ : Sta) = T := ⟨_, rfl⟩
  have hTb : T.b = rel F cur.b [cur.v[k].bl[j]] := by rw [← hT]
  have hblk : blk T kf j = blk cur kf j := by
    rw [← hT, blk_setB (b := cur.b) hk hkf hjf, if_neg (fun h => hne h.1)]
  rw [hT] at hkp
  have h2 : txAt T kf j = some t := by
    rw [hkp.txt kf j hkf hjf, if_neg (fun h => hne h.1)]
    exact ht
  unfold txAt at h2
  rw [hblk] at h2
  split at h2
  · rename_i hi1
    unfold tx at h2
    cases e : it T.b (blk cur kf j) with
    | none => rw [e] at h2; cases h2
    | some x =>
      rw [e] at h2
      cases h2
      obtain ⟨hxm, hxi⟩ := (it_some hkp.good.bag).1 e
      obtain ⟨q, hq, hqx⟩ := List.getElem_of_mem hxm
      have hr := refs_small hkp.good x hxm
      have hp := put_at (F := F) (t := x.t) hkp.good.bag (hkp.good.bag.ok x hxm).1 hq (by rw [hqx]) (by rw [hqx]; omega)
      rw [hqx, ← hxi] at hp
      rw [hTb] at hp
      have hw := write_of (s := s) (t := x.t) hk hj (vloc_of g hk hx hj)
      rw [hp] at hw
      exact ⟨_, hw.trans (if_neg (by simp))⟩
  · cases h2

variable (F) in
/-- one block copied, from the texts of the first state -/
def cpSG (st0 : Sta) (kf : Nat) (b : List UInt8) (cur : Sta) (p : Int) : Sta × Int :=
  match txAt st0 kf p.toNat with
  | some t => write F cur b p t
  | none => trim F cur b p

variable (F) in
/-- blocks copied, one behind the other -/
def cpLG (st0 : Sta) (kf L : Nat) (b : List UInt8) : Sta → List Int → Sta × Int
  | cur, [] => (cur, 0)
  | cur, p :: r => if p < 0 ∨ (L : Int) ≤ p then (zeroS, 1) else if (cpSG F st0 kf b cur p).2 ≠ 0 then (zeroS, (cpSG F st0 kf b cur p).2) else cpLG st0 kf L b (cpSG F st0 kf b cur p).1 r

/-- a state in which the places D of volume kt hold what volume kf holds -/
structure CpJ (F : List UInt8 → Int) (st0 cur : Sta) (kf kt : Nat) (D : Nat → Prop) : Prop where
  good : Good F cur
  len : cur.v.length = st0.v.length
  vol : ∀ q (h : q < st0.v.length) (h' : q < cur.v.length), cur.v[q].nm = st0.v[q].nm ∧ cur.v[q].bl.length = st0.v[q].bl.length
  oth : ∀ q p (h : q < st0.v.length), p < st0.v[q].bl.length → q ≠ kt → blk cur q p = blk st0 q p ∧ txAt cur q p = txAt st0 q p
  done : ∀ p (h : kt < st0.v.length), p < st0.v[kt].bl.length → D p → blk cur kt p = blk st0 kf p
  rest : ∀ p (h : kt < st0.v.length), p < st0.v[kt].bl.length → ¬ D p → blk cur kt p = blk st0 kt p

theorem CpJ.first {st0 : Sta} (g : Good F st0) (kf kt : Nat) : CpJ F st0 st0 kf kt (fun _ => False) :=
  ⟨g, rfl, fun _ _ _ => ⟨rfl, rfl⟩, fun _ _ _ _ _ => ⟨rfl, rfl⟩, fun _ _ _ h => h.elim, fun _ _ _ _ => rfl⟩

theorem vix_alike {st1 cur : Sta} {nm : List UInt8} {k : Nat} (len : cur.v.length = st1.v.length) (vol : ∀ q (h : q < st1.v.length) (h' : q < cur.v.length), cur.v[q].nm = st1.v[q].nm ∧ cur.v[q].bl.length = st1.v[q].bl.length) (hx : vix (nmB nm) st1.v = some k) : vix (nmB nm) cur.v = some k := by
  obtain ⟨h1, h2, h3⟩ := vix_some hx
  refine vix_of (by omega) ?_ (fun q hq => ?_)
  · unfold nmB; rw [(vol k h1 (by omega)).1]; exact h2
  · unfold nmB; rw [(vol q (by omega) (by omega)).1]; exact h3 q hq

theorem hole_blk {st : Sta} (g : Good F st) {k j : Nat} (hk : k < st.v.length) (hj : j < st.v[k].bl.length) (h : txAt st k j = none) : blk st k j = noId := by
  have h1 := tx_is g hk hj
  rw [h] at h1
  rw [blk_eq hk hj]
  exact errB_hole ((g.vol _ (List.getElem_mem hk)).2.2 _ (List.getElem_mem hj)) h1.symm

theorem CpJ.step {st0 cur : Sta} {kf kt j : Nat} {D : Nat → Prop} {b : List UInt8} (g0 : Good F st0) (h : CpJ F st0 cur kf kt D) (hx : vix (nmB b) st0.v = some kt) (hkf : kf < st0.v.length) (hkt : kt < st0.v.length) (hjf : j < st0.v[kf].bl.length) (hjt : j < st0.v[kt].bl.length) (hne : kf ≠ kt) :
    (cpSG F st0 kf b cur (j : Int)).2 = 0 ∧ CpJ F st0 (cpSG F st0 kf b cur (j : Int)).1 kf kt (fun p => D p ∨ p = j) := by
  have hlen := h.len
  have hkc : kt < cur.v.length := by omega
  have hkfc : kf < cur.v.length := by omega
  have hxc := vix_alike h.len h.vol hx
  have hjc : j < cur.v[kt].bl.length := by rw [(h.vol kt hkt hkc).2]; exact hjt
  have hjfc : j < cur.v[kf].bl.length := by rw [(h.vol kf hkf hkfc).2]; exact hjf
  have hfrom := h.oth kf j hkf hjf hne
  have key : ∃ b', cpSG F st0 kf b cur (j : Int) = (⟨b', setB (setB cur.v kt j noId) kt j (blk st0 kf j)⟩, 0) ∧ ∃ o, Keeps F cur (cpSG F st0 kf b cur (j : Int)).1 kt j o := by
    unfold cpSG
    rw [Int.toNat_natCast]
    cases e : txAt st0 kf j with
    | some t =>
      simp only
      obtain ⟨b', hw⟩ := copy_write h.good hxc hkc hjc hkfc hjfc hne (hfrom.2.trans e)
      rw [hfrom.1] at hw
      refine ⟨b', hw, some t, ?_⟩
      obtain ⟨_, k, _, j', _, ej, hx2, _, _, _, _, hk⟩ := write_g (F := F) (st := cur) (s := b) (t := t) (a := (j : Int)) (by rw [hw])
      rw [hxc] at hx2
      cases hx2
      have : j' = j := by omega
      subst this
      exact hk
    | none =>
      simp only
      have ht := trim_of hkc hjc (vloc_of h.good hkc hxc hjc)
      have hhole := hole_blk g0 hkf hjf e
      refine ⟨rel F cur.b [cur.v[kt].bl[j]], ?_, none, ?_⟩
      · rw [ht, hhole, setB_twice hkc]
      · rw [ht]
        exact trim_keeps h.good hkc hjc
  obtain ⟨b', hc, o, hk⟩ := key
  have hT : kt < (setB cur.v kt j noId).length := by rw [len_setB]; exact hkc
  have hblk : ∀ q p (hq : q < cur.v.length), p < cur.v[q].bl.length → blk (cpSG F st0 kf b cur (j : Int)).1 q p = if q = kt ∧ p = j then blk st0 kf j else blk cur q p := by
    intro q p hq hp
    rw [hc, setB_twice hkc]
    exact blk_setB (b := cur.b) hkc hq hp
  refine ⟨by rw [hc], hk.good, hk.len.trans h.len, fun q hq hq' => ?_, fun q p hq hp hqt => ?_, fun p _ hp hD => ?_, fun p _ hp hD => ?_⟩
  · have hqc : q < cur.v.length := by omega
    exact ⟨(hk.vol q hqc hq').1.trans (h.vol q hq hqc).1, (hk.vol q hqc hq').2.trans (h.vol q hq hqc).2⟩
  · have hqc : q < cur.v.length := by omega
    have hpc : p < cur.v[q].bl.length := by rw [(h.vol q hq hqc).2]; exact hp
    rw [hblk q p hqc hpc, if_neg (fun e => hqt e.1), hk.txt q p hqc hpc, if_neg (fun e => hqt e.1)]
    exact h.oth q p hq hp hqt
  · have hpc : p < cur.v[kt].bl.length := by rw [(h.vol kt hkt hkc).2]; exact hp
    rw [hblk kt p hkc hpc]
    by_cases e : p = j
    · rw [if_pos ⟨rfl, e⟩, e]
    · rw [if_neg (fun h => e h.2)]
      exact h.done p hkt hp (hD.resolve_right e)
  · have hpc : p < cur.v[kt].bl.length := by rw [(h.vol kt hkt hkc).2]; exact hp
    rw [hblk kt p hkc hpc, if_neg (fun e => hD (.inr e.2))]
    exact h.rest p hkt hp (fun e => hD (.inl e))

theorem cpLG_all {st0 : Sta} {kf kt L : Nat} {b : List UInt8} (g0 : Good F st0) (hx : vix (nmB b) st0.v = some kt) (hkf : kf < st0.v.length) (hkt : kt < st0.v.length) (hlf : st0.v[kf].bl.length = L) (hlt : st0.v[kt].bl.length = L) (hne : kf ≠ kt) :
    ∀ (z : List Int) (cur : Sta) (D : Nat → Prop), (∀ p ∈ z, 0 ≤ p ∧ p < (L : Int)) → CpJ F st0 cur kf kt D → (cpLG F st0 kf L b cur z).2 = 0 ∧ CpJ F st0 (cpLG F st0 kf L b cur z).1 kf kt (fun p => D p ∨ (p : Int) ∈ z)
  | [], cur, D, _, hc => ⟨rfl, by
      have e : (fun p : Nat => D p ∨ (p : Int) ∈ ([] : List Int)) = D := by funext p; simp
      rw [e]; exact hc⟩
  | p :: r, cur, D, hz, hc => by
    obtain ⟨hp0, hpq⟩ := hz p (by simp)
    obtain ⟨j, rfl⟩ := Int.eq_ofNat_of_zero_le hp0
    obtain ⟨s1, s2⟩ := hc.step (j := j) g0 hx hkf hkt (by omega) (by omega) hne
    obtain ⟨i1, i2⟩ := cpLG_all g0 hx hkf hkt hlf hlt hne r _ _ (fun p hp => hz p (by simp [hp])) s2
    have e : cpLG F st0 kf L b cur ((j : Int) :: r) = cpLG F st0 kf L b (cpSG F st0 kf b cur (j : Int)).1 r := by
      rw [cpLG, if_neg (by omega), if_neg (by simpa using s1)]
    rw [e]
    have e2 : (fun p : Nat => (D p ∨ p = j) ∨ (p : Int) ∈ r) = (fun p : Nat => D p ∨ (p : Int) ∈ (j : Int) :: r) := by
      funext p
      rw [List.mem_cons, or_assoc]
      have : ((p : Int) = (j : Int)) = (p = j) := by rw [eq_iff_iff]; omega
      rw [this]
    rw [e2] at i2
    exact ⟨i1, i2⟩

/-- what differs, copied: the volumes are the same blocks -/
theorem copied {st : Sta} {kf kt L : Nat} {b : List UInt8} (g : Good F st) (hx : vix (nmB b) st.v = some kt) (hkf : kf < st.v.length) (hkt : kt < st.v.length) (hlf : st.v[kf].bl.length = L) (hlt : st.v[kt].bl.length = L) :
    (cpLG F st kf L b st (difG st.v[kf].bl st.v[kt].bl L)).2 = 0 ∧ ∃ x, cpLG F st kf L b st (difG st.v[kf].bl st.v[kt].bl L) = (x, 0) ∧ Good F x ∧ x.v.length = st.v.length ∧
      (∀ q (h : q < st.v.length) (h' : q < x.v.length), x.v[q].nm = st.v[q].nm ∧ x.v[q].bl.length = st.v[q].bl.length) ∧
      (∀ p, p < L → blk x kt p = blk x kf p ∧ txAt x kt p = txAt st kf p) ∧
      (∀ q p (h : q < st.v.length), p < st.v[q].bl.length → q ≠ kt → txAt x q p = txAt st q p) := by
  by_cases hne : kf = kt
  · subst hne
    rw [difG_self]
    exact ⟨rfl, st, rfl, g, rfl, fun _ _ _ => ⟨rfl, rfl⟩, fun _ _ => ⟨rfl, rfl⟩, fun _ _ _ _ _ => rfl⟩
  · obtain ⟨c1, c2⟩ := cpLG_all g hx hkf hkt hlf hlt hne _ st _ (difG_bounds st.v[kf].bl st.v[kt].bl L) (CpJ.first g kf kt)
    refine ⟨c1, _, Prod.ext rfl c1, c2.good, c2.len, c2.vol, fun p hp => ?_, fun q p hq hp hqt => (c2.oth q p hq hp hqt).2⟩
    have hf := c2.oth kf p hkf (by omega) hne
    have hsame : blk (cpLG F st kf L b st (difG st.v[kf].bl st.v[kt].bl L)).1 kt p = blk st kf p := by
      by_cases hD : (p : Int) ∈ difG st.v[kf].bl st.v[kt].bl L
      · exact c2.done p hkt (by omega) (.inr hD)
      · rw [c2.rest p hkt (by omega) (fun e => hD (e.resolve_left id))]
        rw [mem_difG] at hD
        have e : st.v[kf].bl[p]! = st.v[kt].bl[p]! := by
          apply Classical.byContradiction
          intro h9
          exact hD ⟨hp, h9⟩
        unfold blk
        rw [getElem!_pos st.v kf hkf, getElem!_pos st.v kt hkt]
        exact e.symm
    refine ⟨hsame.trans hf.1.symm, ?_⟩
    rw [← hf.2]
    unfold txAt
    rw [hsame, hf.1]

/-! ytnmdfdkagkpcaaa# a clone that is written -/

/-- two blocks that are there are one just if their texts are -/
theorem same_id {st : Sta} (g : Good F st) {k k' j j' : Nat} (hk : k < st.v.length) (hj : j < st.v[k].bl.length) (hk' : k' < st.v.length) (hj' : j' < st.v[k'].bl.length) (h1 : (blk st k j).1 = true) (h2 : (blk st k' j').1 = true) :
    blk st k j = blk st k' j' ↔ txAt st k j = txAt st k' j' := by
  constructor
  · intro e
    unfold txAt
    rw [e]
  · intro e
    have gr := g.byCount
    obtain ⟨x, hx⟩ := gr.there (List.getElem_mem hk) (i := blk st k j) (by rw [blk_eq hk hj]; exact List.getElem_mem hj) h1
    obtain ⟨y, hy⟩ := gr.there (List.getElem_mem hk') (i := blk st k' j') (by rw [blk_eq hk' hj']; exact List.getElem_mem hj') h2
    unfold txAt tx at e
    rw [if_pos h1, if_pos h2, hx, hy] at e
    simp only [Option.some.injEq] at e
    obtain ⟨hxm, hxi⟩ := (it_some g.bag).1 hx
    obtain ⟨hym, hyi⟩ := (it_some g.bag).1 hy
    have := g.bag.txt_mem hxm hym e
    subst this
    exact hxi.trans hyi.symm

/-- volume kz was volume kn, and was written at the places W since -/
structure WrJ (F : List UInt8 → Int) (st0 cur : Sta) (kn kz : Nat) (W : Nat → Prop) : Prop where
  good : Good F cur
  len : cur.v.length = st0.v.length
  vol : ∀ q (h : q < st0.v.length) (h' : q < cur.v.length), cur.v[q].nm = st0.v[q].nm ∧ cur.v[q].bl.length = st0.v[q].bl.length
  from_ : ∀ p (h : kn < st0.v.length), p < st0.v[kn].bl.length → blk cur kn p = blk st0 kn p
  wrote : ∀ p (h : kz < st0.v.length), p < st0.v[kz].bl.length → W p → (blk cur kz p).1 = true
  rest : ∀ p (h : kz < st0.v.length), p < st0.v[kz].bl.length → ¬ W p → blk cur kz p = blk st0 kz p

theorem WrJ.first {st0 : Sta} (g : Good F st0) (kn kz : Nat) : WrJ F st0 st0 kn kz (fun _ => False) :=
  ⟨g, rfl, fun _ _ _ => ⟨rfl, rfl⟩, fun _ _ _ => rfl, fun _ _ _ h => h.elim, fun _ _ _ _ => rfl⟩

theorem WrJ.step {st0 cur : Sta} {kn kz : Nat} {W : Nat → Prop} {s t : List UInt8} {a : Int} (h : WrJ F st0 cur kn kz W) (hx : vix (nmB s) st0.v = some kz) (hkn : kn < st0.v.length) (hne : kn ≠ kz) (hw : (write F cur s a t).2 = 0) :
    ∃ j : Nat, a = (j : Int) ∧ (∀ hz : kz < st0.v.length, j < st0.v[kz].bl.length) ∧ WrJ F st0 (write F cur s a t).1 kn kz (fun p => W p ∨ p = j) := by
  have hlen := h.len
  have hxc := vix_alike h.len h.vol hx
  obtain ⟨g, k, hk, j, hj, rfl, hx2, b', i, hp, he, hkp⟩ := write_g hw
  rw [hxc] at hx2
  cases hx2
  have hkz : kz < st0.v.length := by omega
  have hblk : ∀ q p (hq : q < cur.v.length), p < cur.v[q].bl.length → blk (write F cur s (j : Int) t).1 q p = if q = kz ∧ p = j then i else blk cur q p := by
    intro q p hq hp9
    rw [he, setB_twice hk]
    exact blk_setB (b := cur.b) hk hq hp9
  refine ⟨j, rfl, fun hz => by rw [← (h.vol kz hz hk).2]; exact hj, hkp.good, hkp.len.trans h.len, fun q hq hq' => ?_, fun p _ hp9 => ?_, fun p _ hp9 hW => ?_, fun p _ hp9 hW => ?_⟩
  · have hqc : q < cur.v.length := by omega
    exact ⟨(hkp.vol q hqc hq').1.trans (h.vol q hq hqc).1, (hkp.vol q hqc hq').2.trans (h.vol q hq hqc).2⟩
  · have hkc : kn < cur.v.length := by omega
    rw [hblk kn p hkc (by rw [(h.vol kn hkn hkc).2]; exact hp9), if_neg (fun e => hne e.1)]
    exact h.from_ p hkn hp9
  · rw [hblk kz p hk (by rw [(h.vol kz hkz hk).2]; exact hp9)]
    by_cases e : p = j
    · rw [if_pos ⟨rfl, e⟩]; exact (it_put hp).1
    · rw [if_neg (fun h => e h.2)]
      exact h.wrote p hkz hp9 (hW.resolve_right e)
  · rw [hblk kz p hk (by rw [(h.vol kz hkz hk).2]; exact hp9), if_neg (fun e => hW (.inr e.2))]
    exact h.rest p hkz hp9 (fun e => hW (.inl e))

/-- .. and differs just where it was written, and the text is another, or there was none -/
theorem WrJ.differs {st0 cur : Sta} {kn kz L : Nat} {W : Nat → Prop} (h : WrJ F st0 cur kn kz W) (hkn : kn < st0.v.length) (hkz : kz < st0.v.length) (hln : st0.v[kn].bl.length = L) (hlz : st0.v[kz].bl.length = L) (h0 : ∀ p, p < L → blk st0 kn p = blk st0 kz p) {p : Nat} (hp : p < L) :
    blk cur kn p ≠ blk cur kz p ↔ W p ∧ ((txAt cur kn p).getD [] ≠ (txAt cur kz p).getD [] ∨ (blk cur kn p).1 = false) := by
  have hlen := h.len
  have hknc : kn < cur.v.length := by omega
  have hkzc : kz < cur.v.length := by omega
  have hpn : p < cur.v[kn].bl.length := by rw [(h.vol kn hkn hknc).2]; omega
  have hpz : p < cur.v[kz].bl.length := by rw [(h.vol kz hkz hkzc).2]; omega
  by_cases hW : W p
  · have hz1 := h.wrote p hkz (by omega) hW
    have tz := tx_is h.good hkzc hpz
    rw [← blk_eq hkzc hpz, hz1] at tz
    cases hn1 : (blk cur kn p).1 with
    | false =>
      refine ⟨fun _ => ⟨hW, .inr rfl⟩, fun _ e => ?_⟩
      rw [e, hz1] at hn1
      cases hn1
    | true =>
      have tn := tx_is h.good hknc hpn
      rw [← blk_eq hknc hpn, hn1] at tn
      have hs := same_id h.good hknc hpn hkzc hpz hn1 hz1
      rw [Ne, hs]
      obtain ⟨x, hx⟩ := Option.isSome_iff_exists.1 tn
      obtain ⟨y, hy⟩ := Option.isSome_iff_exists.1 tz
      rw [hx, hy]
      simp [hW]
  · refine ⟨fun hne => ?_, fun hh => absurd hh.1 hW⟩
    exfalso
    apply hne
    rw [h.from_ p hkn (by omega), h.rest p hkz (by omega) hW]
    exact h0 p hp

end WoolVol
