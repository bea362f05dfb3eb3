/-
  The texts StW, StB, TxE, one behind the other; each says below what it holds and on what conditions.
-/
import Derived.Test.YtnmdfdkagkpcaaaJVolOwn43
import Derived.Test.YtnmdfdkagkpcaaaJVolOwn07

/-
  What the laws on volumes ask, in plain words, by whatever fingerprint. Conditions: as each says.
-/
namespace WoolVol
open WoolBag

variable {F : List UInt8 → Int}

/-! ytnmdfdkagkpcaaa# the texts of a volume -/

def rdG (st : Sta) (k n : Nat) : List (List UInt8) := (List.range n).map fun i => (txAt st k i).getD []

theorem rdG_len (st : Sta) (k n : Nat) : (rdG st k n).length = n := by simp [rdG]
theorem rdG_succ (st : Sta) (k n : Nat) : rdG st k (n + 1) = rdG st k n ++ [(txAt st k n).getD []] := by
  unfold rdG
  rw [List.range_succ, List.map_append]
  rfl

theorem rdG_congr {a b : Sta} {k l n : Nat} (h : ∀ i, i < n → txAt a k i = txAt b l i) : rdG a k n = rdG b l n := by
  unfold rdG
  refine List.map_congr_left (fun i hi => ?_)
  rw [List.mem_range] at hi
  rw [h i hi]

variable (F) in
/-- the blocks of a volume that can be read -/
def textsG (st : Sta) (s : List UInt8) : List (List UInt8) := if (blocks F st s).2 ≠ 0 then [] else (List.range (blocks F st s).1.length).map fun i : Nat => (read F st s (i : Int)).1

theorem textsG_of {st : Sta} {s : List UInt8} {k : Nat} (g : Good F st) (hk : k < st.v.length) (hx : vix (nmB s) st.v = some k) : textsG F st s = rdG st k st.v[k].bl.length := by
  unfold textsG
  rw [blocks_of g hk hx, if_neg (by simp)]
  unfold rdG
  refine List.map_congr_left (fun i hi => ?_)
  rw [List.mem_range] at hi
  rw [read_of g hk hx hi]

theorem textsG_miss {st : Sta} {s : List UInt8} (g : Good F st) (hx : vix (nmB s) st.v = none) : textsG F st s = [] := by
  unfold textsG
  rw [blocks_miss g hx, if_pos (by simp)]

/-- texts of another volume than the one that was written -/
theorem Keeps.texts {st st' : Sta} {k j : Nat} {o : Option (List UInt8)} (g : Good F st) (h : Keeps F st st' k j o) (s : List UInt8) (hne : WoolVol.vix (nmB s) st.v ≠ some k) : textsG F st' s = textsG F st s := by
  cases e : WoolVol.vix (nmB s) st.v with
  | none => rw [textsG_miss g e, textsG_miss h.good (by rw [h.vix]; exact e)]
  | some q =>
    obtain ⟨hq, _⟩ := vix_name e
    have hq' : q < st'.v.length := by rw [h.len]; exact hq
    rw [textsG_of g hq e, textsG_of h.good hq' (by rw [h.vix]; exact e), (h.vol q hq hq').2]
    refine rdG_congr (fun i hi => ?_)
    rw [h.txt q i hq hi, if_neg]
    rintro ⟨rfl, _⟩
    exact hne e

/-! ytnmdfdkagkpcaaa# VolReads -/

theorem law_reads {st : Sta} (g : Good F st) (name also s : List UInt8) (a b : Int) :
    ((trim F st name a).2 ≠ 0 → (write F st name a s).2 = (trim F st name a).2) ∧
    ((trim F st name a).2 = 0 →
      ((write F st name a s).2 = 0 → read F (write F st name a s).1 name a = (s, 0) ∧ (¬ (name = also ∧ a = b) → read F (write F st name a s).1 also b = read F st also b)) ∧
      ((write F st name a s).2 ≠ 0 → (write F st name a s).2 = 8 ∨ (write F st name a s).2 = 2) ∧
      read F (trim F st name a).1 name a = ([], 0) ∧ (¬ (name = also ∧ a = b) → read F (trim F st name a).1 also b = read F st also b)) := by
  refine ⟨fun h => ?_, fun h => ?_⟩
  · unfold write
    rw [if_pos h]
  · obtain ⟨_, k, hk, j, hj, rfl, hx, _, hkp⟩ := trim_g h
    have hoth : ¬ (name = also ∧ (j : Int) = b) → ¬ (vix (nmB also) st.v = some k ∧ b = (j : Int)) := by
      rintro hne ⟨h1, h2⟩
      obtain ⟨_, e1⟩ := vix_name hx
      obtain ⟨_, e2⟩ := vix_name h1
      exact hne ⟨e1.symm.trans e2, h2.symm⟩
    refine ⟨fun hw => ?_, fun hw => ?_, ?_, fun hne => hkp.read g also b (hoth hne)⟩
    · obtain ⟨_, k', hk', j', hj', ej, hx', b', i, _, _, hkw⟩ := write_g hw
      have : j' = j := by omega
      subst this
      rw [hx] at hx'
      cases hx'
      refine ⟨hkw.here hk hj hx, fun hne => hkw.read g also b (hoth hne)⟩
    · rcases write_fails (t := s) g hk hx hj with h1 | h1 | h1
      · exact absurd h1 hw
      · exact .inr h1
      · exact .inl h1
    · have := hkp.here hk hj hx
      exact this

/-! ytnmdfdkagkpcaaa# VolClones -/

theorem clone_txt_new {st : Sta} {t : List UInt8} {k : Nat} (hk : k < st.v.length) (p : Nat) : txAt ⟨ret st.b st.v[k].bl, vins ⟨t, st.v[k].bl⟩ st.v⟩ (vplace t st.v) p = txAt st k p := by
  have hat := vins_at (x := ⟨t, st.v[k].bl⟩) (l := st.v) (by have := vplace_le t st.v; rw [vins_len]; show vplace t st.v < _; omega)
  have e : blk ⟨ret st.b st.v[k].bl, vins ⟨t, st.v[k].bl⟩ st.v⟩ (vplace t st.v) p = blk st k p := by
    unfold blk
    rw [getElem!_pos (vins ⟨t, st.v[k].bl⟩ st.v) (vplace t st.v) (by have := vplace_le t st.v; rw [vins_len]; omega), getElem!_pos st.v k hk]
    have h9 := congrArg (fun v : Vo => v.bl[p]!) hat
    exact h9
  unfold txAt
  rw [e]
  show (if _ then tx (ret st.b st.v[k].bl) _ else none) = _
  rw [tx_retG]

theorem clone_txt_old {st : Sta} {t : List UInt8} {bl : List Idn} {q : Nat} (hq : q < st.v.length) (p : Nat) : txAt ⟨ret st.b bl, vins ⟨t, bl⟩ st.v⟩ (shiftQ t st.v q) p = txAt st q p := by
  obtain ⟨hlt, hat⟩ := vins_shift (x := ⟨t, bl⟩) hq
  have e : blk ⟨ret st.b bl, vins ⟨t, bl⟩ st.v⟩ (shiftQ t st.v q) p = blk st q p := by
    unfold blk
    rw [getElem!_pos (vins ⟨t, bl⟩ st.v) (shiftQ t st.v q) hlt, getElem!_pos st.v q hq]
    exact congrArg (fun v : Vo => v.bl[p]!) hat
  unfold txAt
  rw [e]
  show (if _ then tx (ret st.b bl) _ else none) = _
  rw [tx_retG]

/-- in a state with one volume more each elder is found at its new place -/
theorem vix_shift {st' : Sta} {x : Vo} {l : List Vo} (g' : Good F st') (hv : st'.v = vins x l) {s : List UInt8} {q : Nat} (hx : vix (nmB s) l = some q) : vix (nmB s) st'.v = some (shiftQ x.nm l q) := by
  obtain ⟨hq, hn⟩ := vix_name hx
  obtain ⟨hlt, hat⟩ := vins_shift (x := x) hq
  have hlt' : shiftQ x.nm l q < st'.v.length := by rw [hv]; exact hlt
  have e : st'.v[shiftQ x.nm l q].nm = s := by
    have h9 : ∀ (L : List Vo) (_ : L = vins x l) (h : shiftQ x.nm l q < L.length), L[shiftQ x.nm l q].nm = s := by
      rintro L rfl h
      rw [hat]; exact hn
    exact h9 _ hv _
  have := vix_nm g' hlt'
  rw [e] at this
  exact this

theorem law_clones {st : Sta} {s t : List UInt8} (h : (clone F st s t).2 = 0) :
    textsG F (clone F st s t).1 t = textsG F st s ∧ (clone F st s t).1.b.length = st.b.length ∧
    (∀ (a : Int) (u : List UInt8), (write F (clone F st s t).1 t a u).2 = 0 → textsG F (write F (clone F st s t).1 t a u).1 s = textsG F st s) ∧
    (∀ (a : Int) (u : List UInt8), (write F (clone F st s t).1 s a u).2 = 0 → textsG F (write F (clone F st s t).1 s a u).1 t = textsG F st s) ∧
    vdrop F (clone F st s t).1 t = (st, 0) := by
  have hd := drop_clone h
  obtain ⟨g, hn, k, hk, hx, he, g2⟩ := clone_g h
  obtain ⟨hnB, hno, _⟩ := newE_zero hn
  have hv2 : (clone F st s t).1.v = vins ⟨t, st.v[k].bl⟩ st.v := by rw [he]
  have hst : s ≠ t := by
    rintro rfl
    obtain ⟨_, hnm⟩ := vix_name hx
    exact hno _ (List.getElem_mem hk) hnm
  have hle := vplace_le t st.v
  have hxt : vix (nmB t) (clone F st s t).1.v = some (vplace t st.v) := by rw [hv2]; exact vplace_ins (x := ⟨t, st.v[k].bl⟩) hno
  have hxs : vix (nmB s) (clone F st s t).1.v = some (shiftQ t st.v k) := vix_shift (x := ⟨t, st.v[k].bl⟩) g2 hv2 hx
  have hkt : vplace t st.v < (clone F st s t).1.v.length := by rw [hv2, vins_len]; omega
  obtain ⟨hks0, hats⟩ := vins_shift (x := ⟨t, st.v[k].bl⟩) hk
  have hks : shiftQ t st.v k < (clone F st s t).1.v.length := by rw [hv2]; exact hks0
  have hbt : ((clone F st s t).1.v[vplace t st.v]).bl.length = st.v[k].bl.length := by
    have h9 : ∀ (L : List Vo) (_ : L = vins ⟨t, st.v[k].bl⟩ st.v) (h : vplace t st.v < L.length), L[vplace t st.v].bl.length = st.v[k].bl.length := by
      rintro L rfl h
      have h8 := congrArg (fun v : Vo => v.bl.length) (vins_at (x := ⟨t, st.v[k].bl⟩) h)
      exact h8
    exact h9 _ hv2 _
  have hbs : ((clone F st s t).1.v[shiftQ t st.v k]).bl.length = st.v[k].bl.length := by
    have h9 : ∀ (L : List Vo) (_ : L = vins ⟨t, st.v[k].bl⟩ st.v) (h : shiftQ t st.v k < L.length), L[shiftQ t st.v k].bl.length = st.v[k].bl.length := by
      rintro L rfl h
      exact congrArg (fun v : Vo => v.bl.length) hats
    exact h9 _ hv2 _
  have hne : shiftQ t st.v k ≠ vplace t st.v := by unfold shiftQ; split <;> omega
  have t1 : textsG F (clone F st s t).1 t = textsG F st s := by
    rw [textsG_of g2 hkt hxt, textsG_of g hk hx, hbt]
    refine rdG_congr (fun i _ => ?_)
    rw [he]
    exact clone_txt_new hk i
  have t2 : textsG F (clone F st s t).1 s = textsG F st s := by
    rw [textsG_of g2 hks hxs, textsG_of g hk hx, hbs]
    refine rdG_congr (fun i _ => ?_)
    rw [he]
    exact clone_txt_old hk i
  refine ⟨t1, by rw [he]; exact ret_len _ _, fun a u hw => ?_, fun a u hw => ?_, hd⟩
  · obtain ⟨_, k', _, j, _, _, hx', _, _, _, _, hkp⟩ := write_g hw
    rw [hxt] at hx'
    cases hx'
    rw [hkp.texts g2 s (by rw [hxs]; intro e; exact hne (Option.some.inj e)), t2]
  · obtain ⟨_, k', _, j, _, _, hx', _, _, _, _, hkp⟩ := write_g hw
    rw [hxs] at hx'
    cases hx'
    rw [hkp.texts g2 t (by rw [hxt]; intro e; exact hne (Option.some.inj e).symm), t1]

/-! ytnmdfdkagkpcaaa# VolNew -/

theorem law_new {st : Sta} {s : List UInt8} {n : Int} (h : (make F st s n).2 = 0) : ∃ m : Nat, n = (m : Int) ∧ m ≤ 32 ∧ blocks F (make F st s n).1 s = (List.replicate m noId, 0) ∧ (make F st s n).1.b.length = st.b.length ∧ (make F st s n).1.v.length = st.v.length + 1 ∧
    ∀ i, i < m → read F (make F st s n).1 s (i : Int) = ([], 0) := by
  obtain ⟨g, hn, m, rfl, h1, h32, he, g2⟩ := make_g h
  have hno := (newE_zero hn).2.1
  have hv2 : (make F st s (m : Int)).1.v = vins ⟨s, List.replicate m noId⟩ st.v := by rw [he]
  have hle := vplace_le s st.v
  have hxt : vix (nmB s) (make F st s (m : Int)).1.v = some (vplace s st.v) := by rw [hv2]; exact vplace_ins (x := ⟨s, List.replicate m noId⟩) hno
  have hkt : vplace s st.v < (make F st s (m : Int)).1.v.length := by rw [hv2, vins_len]; omega
  have hbt : ((make F st s (m : Int)).1.v[vplace s st.v]).bl = List.replicate m noId := by
    have h9 : ∀ (L : List Vo) (_ : L = vins ⟨s, List.replicate m noId⟩ st.v) (h : vplace s st.v < L.length), L[vplace s st.v].bl = List.replicate m noId := by
      rintro L rfl h
      exact congrArg (fun v : Vo => v.bl) (vins_at (x := ⟨s, List.replicate m noId⟩) h)
    exact h9 _ hv2 _
  refine ⟨m, rfl, h32, ?_, by rw [he], by rw [hv2, vins_len], fun i hi => ?_⟩
  · rw [blocks_of g2 hkt hxt, hbt]
  · have hib : i < ((make F st s (m : Int)).1.v[vplace s st.v]).bl.length := by rw [hbt, List.length_replicate]; exact hi
    rw [read_of g2 hkt hxt hib]
    have ht := tx_is g2 hkt hib
    have hz : ((make F st s (m : Int)).1.v[vplace s st.v]).bl[i] = noId := by
      have h9 : ∀ (L : List Idn) (_ : L = List.replicate m noId) (h : i < L.length), L[i] = noId := by
        rintro L rfl h
        exact List.getElem_replicate h
      exact h9 _ hbt _
    rw [hz] at ht
    cases e : txAt (make F st s (m : Int)).1 (vplace s st.v) i with
    | none => rfl
    | some u => rw [e] at ht; cases ht

/-! ytnmdfdkagkpcaaa# VolApart -/

theorem law_apart {st : Sta} {a b s t : List UInt8} {p q : Int} (h1 : (write F st a p s).2 = 0) (h2 : (write F st b q t).2 = 0) (hne : ¬ (a = b ∧ p = q)) :
    ((write F (write F st a p s).1 b q t).2 = 0 ∨ (write F (write F st a p s).1 b q t).2 = 8) ∧ ((write F (write F st b q t).1 a p s).2 = 0 ∨ (write F (write F st b q t).1 a p s).2 = 8) ∧
    ((write F (write F st a p s).1 b q t).2 = 0 → (write F (write F st b q t).1 a p s).2 = 0 →
      textsG F (write F (write F st a p s).1 b q t).1 a = textsG F (write F (write F st b q t).1 a p s).1 a ∧ textsG F (write F (write F st a p s).1 b q t).1 b = textsG F (write F (write F st b q t).1 a p s).1 b ∧
      (write F (write F st a p s).1 b q t).1.b.length = (write F (write F st b q t).1 a p s).1.b.length) := by
  have l1 := write_short h1
  have l2 := write_short h2
  obtain ⟨g, ka, hka, i, hi, rfl, hxa, _, _, _, _, k1⟩ := write_g h1
  obtain ⟨_, kb, hkb, j, hj, rfl, hxb, _, _, _, _, k2⟩ := write_g h2
  have hpl : ¬ (ka = kb ∧ i = j) := by
    rintro ⟨rfl, rfl⟩
    obtain ⟨_, e1⟩ := vix_name hxa
    obtain ⟨_, e2⟩ := vix_name hxb
    exact hne ⟨e1.symm.trans e2, rfl⟩
  have hk1 : kb < (write F st a (i : Int) s).1.v.length := by rw [k1.len]; exact hkb
  have hk2 : ka < (write F st b (j : Int) t).1.v.length := by rw [k2.len]; exact hka
  have hb1 : j < ((write F st a (i : Int) s).1.v[kb]).bl.length := by rw [(k1.vol kb hkb hk1).2]; exact hj
  have hb2 : i < ((write F st b (j : Int) t).1.v[ka]).bl.length := by rw [(k2.vol ka hka hk2).2]; exact hi
  have x1 : vix (nmB b) (write F st a (i : Int) s).1.v = some kb := by rw [k1.vix]; exact hxb
  have x2 : vix (nmB a) (write F st b (j : Int) t).1.v = some ka := by rw [k2.vix]; exact hxa
  refine ⟨write_full8 k1.good hk1 x1 hb1 l2, write_full8 k2.good hk2 x2 hb2 l1, fun e1 e2 => ?_⟩
  obtain ⟨_, kb', _, j', _, ej, hx1, _, _, _, _, m1⟩ := write_g e1
  obtain ⟨_, ka', _, i', _, ei, hx2, _, _, _, _, m2⟩ := write_g e2
  have ej2 : j' = j := by omega
  have ei2 : i' = i := by omega
  subst ej2 ei2
  rw [x1] at hx1
  rw [x2] at hx2
  cases hx1
  cases hx2
  obtain ⟨X, hX⟩ : ∃ X, (write F (write F st a (i' : Int) s).1 b (j' : Int) t).1 = X := ⟨_, rfl⟩
  obtain ⟨Y, hY⟩ : ∃ Y, (write F (write F st b (j' : Int) t).1 a (i' : Int) s).1 = Y := ⟨_, rfl⟩
  rw [hX] at m1 ⊢
  rw [hY] at m2 ⊢
  have hlX : X.v.length = st.v.length := m1.len.trans k1.len
  have hlY : Y.v.length = st.v.length := m2.len.trans k2.len
  have hvX : ∀ r (h : r < st.v.length) (h' : r < X.v.length), X.v[r].nm = st.v[r].nm ∧ X.v[r].bl.length = st.v[r].bl.length := fun r h h' => by
    have h9 : r < (write F st a (i' : Int) s).1.v.length := by rw [k1.len]; exact h
    exact ⟨(m1.vol r h9 h').1.trans (k1.vol r h h9).1, (m1.vol r h9 h').2.trans (k1.vol r h h9).2⟩
  have hvY : ∀ r (h : r < st.v.length) (h' : r < Y.v.length), Y.v[r].nm = st.v[r].nm ∧ Y.v[r].bl.length = st.v[r].bl.length := fun r h h' => by
    have h9 : r < (write F st b (j' : Int) t).1.v.length := by rw [k2.len]; exact h
    exact ⟨(m2.vol r h9 h').1.trans (k2.vol r h h9).1, (m2.vol r h9 h').2.trans (k2.vol r h h9).2⟩
  have ht : ∀ r p (h : r < st.v.length), p < st.v[r].bl.length → txAt X r p = txAt Y r p := fun r p h hp => by
    have h9 : r < (write F st a (i' : Int) s).1.v.length := by rw [k1.len]; exact h
    have h8 : r < (write F st b (j' : Int) t).1.v.length := by rw [k2.len]; exact h
    rw [m1.txt r p h9 (by rw [(k1.vol r h h9).2]; exact hp), m2.txt r p h8 (by rw [(k2.vol r h h8).2]; exact hp), k1.txt r p h hp, k2.txt r p h hp]
    by_cases c1 : r = kb ∧ p = j'
    · rw [if_pos c1, if_pos c1, if_neg]
      rintro ⟨rfl, rfl⟩
      exact hpl ⟨c1.1, c1.2⟩
    · rw [if_neg c1, if_neg c1]
  have hxX : ∀ u, vix (nmB u) X.v = vix (nmB u) st.v := fun u => by rw [m1.vix, k1.vix]
  have hxY : ∀ u, vix (nmB u) Y.v = vix (nmB u) st.v := fun u => by rw [m2.vix, k2.vix]
  have htx : ∀ u r, vix (nmB u) st.v = some r → textsG F X u = textsG F Y u := fun u r hu => by
    obtain ⟨hr, _⟩ := vix_name hu
    have hrX : r < X.v.length := by omega
    have hrY : r < Y.v.length := by omega
    rw [textsG_of m1.good hrX (by rw [hxX]; exact hu), textsG_of m2.good hrY (by rw [hxY]; exact hu), (hvX r hr hrX).2, (hvY r hr hrY).2]
    exact rdG_congr (fun p hp => ht r p hr hp)
  refine ⟨htx a ka hxa, htx b kb hxb, same_bag m1.good m2.good (by omega) (fun r h h' => ?_) (fun r p h hp => ?_)⟩
  · rw [(hvX r (by omega) h).2, (hvY r (by omega) h').2]
  · have hr : r < st.v.length := by omega
    exact ht r p hr (by rw [← (hvX r hr h).2]; exact hp)

/-! ytnmdfdkagkpcaaa# VolEmpty -/

/-- all blocks of the volumes before k, and the first i of volume k, are trimmed -/
structure BareJ (F : List UInt8 → Int) (st cur : Sta) (k i : Nat) : Prop where
  good : Good F cur
  len : cur.v.length = st.v.length
  vol : ∀ q (h : q < st.v.length) (h' : q < cur.v.length), cur.v[q].nm = st.v[q].nm ∧ cur.v[q].bl.length = st.v[q].bl.length
  bare : ∀ q p (h : q < st.v.length), p < st.v[q].bl.length → (q < k ∨ (q = k ∧ p < i)) → txAt cur q p = none

theorem BareJ.first {st : Sta} (g : Good F st) : BareJ F st st 0 0 := ⟨g, rfl, fun _ _ _ => ⟨rfl, rfl⟩, fun _ _ _ _ h => by omega⟩

theorem BareJ.next {st cur : Sta} {k : Nat} (h : BareJ F st cur k st.v[k]!.bl.length) (hk : k < st.v.length) : BareJ F st cur (k + 1) 0 :=
  ⟨h.good, h.len, h.vol, fun q p hq hp hc => h.bare q p hq hp (by
    rcases hc with hc | hc
    · by_cases e : q = k
      · subst e
        exact .inr ⟨rfl, by rw [getElem!_pos st.v q hk]; exact hp⟩
      · exact .inl (by omega)
    · omega)⟩

theorem BareJ.step {st cur : Sta} {k i : Nat} (g0 : Good F st) (h : BareJ F st cur k i) (hk : k < st.v.length) (hi : i < st.v[k].bl.length) : (trim F cur st.v[k].nm (i : Int)).2 = 0 ∧ BareJ F st (trim F cur st.v[k].nm (i : Int)).1 k (i + 1) := by
  have hkc : k < cur.v.length := by rw [h.len]; exact hk
  have hx := vix_alike h.len h.vol (vix_nm g0 hk)
  have hic : i < cur.v[k].bl.length := by rw [(h.vol k hk hkc).2]; exact hi
  have ht := trim_of hkc hic (vloc_of h.good hkc hx hic)
  have hkp := trim_keeps h.good hkc hic
  rw [ht]
  refine ⟨rfl, hkp.good, hkp.len.trans h.len, fun q hq hq' => ?_, fun q p hq hp hc => ?_⟩
  · have hqc : q < cur.v.length := by rw [h.len]; exact hq
    exact ⟨(hkp.vol q hqc hq').1.trans (h.vol q hq hqc).1, (hkp.vol q hqc hq').2.trans (h.vol q hq hqc).2⟩
  · have hqc : q < cur.v.length := by rw [h.len]; exact hq
    rw [hkp.txt q p hqc (by rw [(h.vol q hq hqc).2]; exact hp)]
    by_cases e : q = k ∧ p = i
    · rw [if_pos e]
    · rw [if_neg e]
      exact h.bare q p hq hp (by omega)

theorem BareJ.bag {st cur : Sta} (h : BareJ F st cur st.v.length 0) : cur.b = [] := by
  refine bare_bag h.good (fun v hv i hi => ?_)
  obtain ⟨q, hq, rfl⟩ := List.getElem_of_mem hv
  obtain ⟨p, hp, rfl⟩ := List.getElem_of_mem hi
  have hq0 : q < st.v.length := by rw [← h.len]; exact hq
  have ht := h.bare q p hq0 (by rw [← (h.vol q hq0 hq).2]; exact hp) (.inl hq0)
  have := tx_is h.good hq hp
  rw [ht] at this
  exact this.symm

/-- the first volume of what is left, dropped -/
theorem drop_head {st cur : Sta} {k : Nat} (gc : Good F cur) (hk : k < st.v.length) (h : cur.v = st.v.drop k) : (vdrop F cur st.v[k].nm).2 = 0 ∧ Good F (vdrop F cur st.v[k].nm).1 ∧ (vdrop F cur st.v[k].nm).1.v = st.v.drop (k + 1) := by
  have h0 : 0 < cur.v.length := by rw [h, List.length_drop]; omega
  have hat : cur.v[0] = st.v[k] := by
    have h9 : ∀ (L : List Vo) (_ : L = st.v.drop k) (hL : 0 < L.length), L[0] = st.v[k] := by
      rintro L rfl hL
      rw [List.getElem_drop]
      simp
    exact h9 _ h _
  have hx : vix (nmB st.v[k].nm) cur.v = some 0 := by
    have := vix_nm gc h0
    rwa [hat] at this
  have hz : (vdrop F cur st.v[k].nm).2 = 0 := by
    unfold vdrop
    rw [vfind_of gc hx, if_neg (by simp)]
  obtain ⟨_, k', hk', hx', he, g2⟩ := vdrop_g hz
  rw [hx] at hx'
  cases hx'
  refine ⟨hz, g2, ?_⟩
  rw [he]
  show cur.v.eraseIdx 0 = _
  rw [h]
  rw [List.drop_eq_getElem_cons hk]
  rfl

end WoolVol

/-
  What the laws' begun asks, in plain words, by whatever fingerprint; a volume's name that is picked. Conditions: as each says.
-/
namespace WoolVol
open WoolBag

variable {F : List UInt8 → Int}

/-- a volume made, written, read -/
theorem begun_plain : ∃ s1 s2 : Sta, make F zeroS [97] 2 = (s1, 0) ∧ Good F s1 ∧ s1.v.length = 1 ∧ write F s1 [97] 1 [120] = (s2, 0) ∧ Good F s2 ∧ read F s2 [97] 1 = ([120], 0) ∧ s2.b.length = 1 := by
  have hn : newE zeroS [97] = 0 := by rfl
  have hm : make F zeroS [97] 2 = (⟨[], [⟨[97], [noId, noId]⟩]⟩, 0) := by
    unfold make
    rw [chkS_zero.2 zero_good, if_neg (by simp), if_neg (by omega), hn, if_neg (by simp)]
    rfl
  obtain ⟨_, _, m, _, _, _, _, g1⟩ := make_g (F := F) (st := zeroS) (s := [97]) (n := 2) (by rw [hm])
  rw [hm] at g1
  have hx : vix (nmB [97]) (⟨[], [⟨[97], [noId, noId]⟩]⟩ : Sta).v = some 0 := by rfl
  have hw := write_of (F := F) (t := [120]) (st := ⟨[], [⟨[97], [noId, noId]⟩]⟩) (s := [97]) (k := 0) (j := 1) (by simp) (by simp) (vloc_of g1 (by simp) hx (by simp))
  have hrel : rel F ([] : List Itm) [([(⟨[97], [noId, noId]⟩ : Vo)][0]).bl[1]] = [] := by rfl
  have hp := put_new (F := F) (l := []) (t := [120]) (Bag.nil) (by simp) (by simp) (by simp)
  have hw2 : write F ⟨[], [⟨[97], [noId, noId]⟩]⟩ [97] 1 [120] = (⟨ins (new F [] [120]) [], setB (setB [⟨[97], [noId, noId]⟩] 0 1 noId) 0 1 (idOf (new F [] [120]))⟩, 0) := by
    refine (show write F ⟨[], [⟨[97], [noId, noId]⟩]⟩ [97] 1 [120] = _ from hw).trans ?_
    show (if (put F (rel F ([] : List Itm) [([(⟨[97], [noId, noId]⟩ : Vo)][0]).bl[1]]) [120]).2.2 ≠ 0 then _ else _) = _
    rw [hrel, hp]
    exact if_neg (by simp)
  obtain ⟨_, k, hk, j, hj, ej, hx2, _, _, _, _, hkp⟩ := write_g (F := F) (st := ⟨[], [⟨[97], [noId, noId]⟩]⟩) (s := [97]) (t := [120]) (a := 1) (by rw [hw2])
  have e1 : j = 1 := by omega
  subst e1
  have hrd := hkp.here hk hj hx2
  have hg2 := hkp.good
  rw [hw2] at hrd hg2
  exact ⟨_, _, hm, g1, rfl, hw2, hg2, hrd, length_ins _ _⟩

end WoolVol

/-
  slices.Equal of two slices of texts. Conditions: they can be read.
-/
namespace Go.Proofs.Ytnmdfdkagkpcaaa
open Go.RowKit
open Go.Proofs
open WoolTree

theorem txt_eqT (a b : List UInt8) : ((bs a).toList == (bs b).toList) = (a == b) := by
  rw [ByteArray.toList_eq, ByteArray.toList_eq, bs_list, bs_list]

def EqTRel (l m : List (List UInt8)) (w : World) (i : Value) (wr : World) : Prop :=
  ∃ k : Nat, k ≤ l.length ∧ i = .int .i64 (k : Int) ∧ Up w wr ∧ (l == m) = (l.drop k == m.drop k)

set_option maxRecDepth 100000 in
set_option maxHeartbeats 1000000 in
theorem equalT_any (v1 v2 : Value) (l m : List (List UInt8)) (w : World) (hl : l.length ≤ 140737488351232) (h1 : Txs w v1 l) (h2 : Txs w v2 m) :
    Calls Try.prog 11 #[v1, v2] w fun e w' => e = .returned (.bool (l == m)) ∧ Up w w' := by
  have H1 := Lib.hid h1
  have H2 := Lib.hid h2
  obtain ⟨o1, c1, rfl, _, _⟩ := h1.slice
  obtain ⟨o2, c2, rfl, _, _⟩ := h2.slice
  obtain ⟨R, hR⟩ : ∃ R, (l == m) = R := ⟨_, rfl⟩
  rw [hR]
  have HR := Lib.hid hR
  by_cases hlen : l.length = m.length
  · obtain ⟨n, hn⟩ : ∃ n, l.length = n := ⟨_, rfl⟩
    have hm : m.length = n := by omega
    have HN := Lib.hid hn
    have HM := Lib.hid hm
    rw [hn] at H1 hl ⊢
    rw [hm] at H2 ⊢
    have dn : ((n : Int) != (n : Int)) = false := by simp
    clear h1 h2 hR hlen hn hm
    go_enter Try.func11, Try.ntmps11
    go_wp2_with fail
    go_loopw [5, 13] (fun _ i wr => EqTRel l m w i wr) (fun _ i _ => n - (intOf i).toNat)
    case atStart => exact ⟨0, Nat.zero_le _, rfl, Up.refl w, rfl⟩
    case round =>
      obtain ⟨k, hk, rfl, hu, he⟩ := hrel
      have HU := Lib.hid hu
      rw [HR.out] at he
      rw [HN.out] at hk
      by_cases hlt : k < n
      · have d1 : decide (k < n) = true := decide_eq_true hlt
        have hkl : k < l.length := by rw [HN.out]; exact hlt
        have hkm : k < m.length := by rw [HM.out]; exact hlt
        obtain ⟨b1, f1, rfl, g1⟩ := (H1.out.up hu).at (fun e => by rw [e] at hkl; simp at hkl)
        obtain ⟨b2, f2, rfl, g2⟩ := (H2.out.up hu).at (fun e => by rw [e] at hkm; simp at hkm)
        have a1 := g1 k hkl
        have a2 := g2 k hkm
        have q := txt_eqT l[k] m[k]
        rw [List.drop_eq_getElem_cons hkl, List.drop_eq_getElem_cons hkm, List.cons_beq_cons] at he
        obtain ⟨Q, hQ⟩ : ∃ Q, (l[k] == m[k]) = Q := ⟨_, rfl⟩
        rw [hQ] at q he
        generalize l[k] = x at a1 q
        generalize m[k] = y at a2 q
        have HE := Lib.hid he
        clear g1 g2 hu he hQ
        cases Q with
        | true =>
          go_wp2_with fail
          go_quiet (fail)
          go_wp2_with fail
          go_roundw
          case rel => exact ⟨k + 1, hkl, by go_num, HU.out.trans (Up.drewN _ _), by rw [HR.out, HE.out, Bool.true_and]⟩
          case measure => simp only [intOf]; omega
        | false =>
          have HF : Hid (R = false) := by show _ = _; rw [HE.out, Bool.false_and]
          go_wp2_with fail
          go_quiet (fail)
          go_wp2_with fail
          go_ret
          exact ⟨by rw [HF.out]; rfl, HU.out.trans (Up.drewN _ _)⟩
      · have d1 : decide (k < n) = false := decide_eq_false hlt
        rw [List.drop_of_length_le (by rw [HN.out]; omega), List.drop_of_length_le (by rw [HM.out]; omega)] at he
        have HT : Hid (R = true) := by show _ = _; rw [he]; rfl
        clear he hu
        go_wp2_with fail
        go_ret
        exact ⟨by rw [HT.out]; rfl, HU.out⟩
  · have hf : R = false := by
      rw [← hR, beq_eq_false_iff_ne]
      intro e; exact hlen (by rw [e])
    rw [hf]
    have dn : ((l.length : Int) != (m.length : Int)) = true := by rw [bne_iff_ne]; omega
    obtain ⟨n, hn⟩ : ∃ n, l.length = n := ⟨_, rfl⟩
    obtain ⟨q, hq⟩ : ∃ q, m.length = q := ⟨_, rfl⟩
    rw [hn] at dn ⊢
    rw [hq] at dn ⊢
    clear h1 h2 hR hlen hn hq H1 H2 HR hf
    go_enter Try.func11, Try.ntmps11
    go_wp2_with fail
    go_ret
    exact ⟨rfl, Up.refl _⟩

end Go.Proofs.Ytnmdfdkagkpcaaa
