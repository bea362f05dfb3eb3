/-
  The texts LawDf, DfW, WrM, one behind the other; each says below what it holds and on what conditions.
-/
import Derived.Test.YtnmdfdkagkpcaaaJDiffWritten49
import Derived.Test.YtnmdfdkagkpcaaaJDiffWritten42
import Derived.Test.YtnmdfdkagkpcaaaJDiffWritten46
import Derived.Test.YtnmdfdkagkpcaaaJDiffWritten15
import Derived.Test.YtnmdfdkagkpcaaaJDiffWritten43
import Derived.Test.YtnmdfdkagkpcaaaJDiffWritten18

/-
  What the laws of differences say, in plain words. Conditions: a valid state.
-/
namespace Go.Proofs.Ytnmdfdkagkpcaaa
open Go.RowKit
open Go.Proofs
open WoolBag
open WoolVol

theorem dif_G (a b : List Idn) (k : Nat) : dif a b k = difG a b k := rfl

theorem cpL_G (st0 : Sta) (kf L : Nat) (b : List UInt8) : ∀ (z : List Int) (cur : Sta), cpL st0 kf L b cur z = cpLG FP st0 kf L b cur z
  | [], _ => rfl
  | p :: r, cur => by
    show (if p < 0 ∨ (L : Int) ≤ p then (zeroS, 1) else if (cpStep st0 kf b cur p).2 ≠ 0 then (zeroS, (cpStep st0 kf b cur p).2) else cpL st0 kf L b (cpStep st0 kf b cur p).1 r) = (if p < 0 ∨ (L : Int) ≤ p then (zeroS, 1) else if (cpSG FP st0 kf b cur p).2 ≠ 0 then (zeroS, (cpSG FP st0 kf b cur p).2) else cpLG FP st0 kf L b (cpSG FP st0 kf b cur p).1 r)
    rw [cpL_G st0 kf L b r]
    rfl

/-- what differs, and an error, in the shape that a walk meets -/
def DfO (w : World) (r : List Int × Int) (e : Ending) (w' : World) : Prop := ∃ (o : Option Addr) (c base : Nat), e = .returned (.tuple #[.slice o r.1.length c, .int .i64 r.2]) ∧ OInts w' base (.slice o r.1.length c) r.1 ∧ c ≤ maxLen ∧ Up w w'

theorem DfO.of {f : FuncId} {a : Array Value} {w : World} {r : List Int × Int} (h : Calls Try.prog f a w (DfPost w r)) : Calls Try.prog f a w (DfO w r) := by
  refine h.mono ?_
  rintro e w' ⟨v, rfl, h1, h2⟩
  obtain ⟨o, c, rfl, _, hc, _⟩ := h1.shape
  exact ⟨o, c, _, rfl, h1, hc, h2⟩

/-- a deed written out -/
theorem ops_one (w : World) (o : Opn) (h : OpWf o) : Ops (w.alloc (.cells (opC o).toArray 44)) (.slice (some ⟨w.heap.size, 0, none⟩) 1 1) [o] := by
  have := World.ownsRow_lit (base := w.heap.size) (e := 44) (size := 5) w (opC o).toArray 1 (Nat.le_refl w.heap.size) (by unfold maxLen; omega) rfl
  refine ⟨?_, by simpa using h⟩
  have h2 := Sl.of_own this
  exact h2

section
variable {st : Sta}

/-- Diff by places -/
theorem difR_of (g : WoolVol.Good FP st) {a b : List UInt8} {ka kb : Nat} (ha : ka < st.v.length) (hb : kb < st.v.length) (hxa : vix (nmB a) st.v = some ka) (hxb : vix (nmB b) st.v = some kb) :
    difR st a b = if st.v[ka].bl.length ≠ st.v[kb].bl.length then ([], 11) else (difG st.v[ka].bl st.v[kb].bl st.v[ka].bl.length, 0) := by
  have h : bothR st a b = (st.v[ka].bl, st.v[kb].bl, 0) := by
    unfold bothR
    rw [blocks_of g ha hxa, blocks_of g hb hxb]
    rfl
  unfold difR
  rw [h]
  rfl

theorem difR_miss (g : WoolVol.Good FP st) {a b : List UInt8} (h : vix (nmB a) st.v = none ∨ vix (nmB b) st.v = none) : difR st a b = ([], 4) := by
  have h2 : bothR st a b = ([], [], 4) := by
    unfold bothR
    rcases h with h | h
    · rw [blocks_miss g h]
      rfl
    · rw [blocks_miss g h]
      cases hx : vix (nmB a) st.v with
      | none => rw [blocks_miss g hx]; rfl
      | some k =>
        obtain ⟨hk, _⟩ := vix_name hx
        rw [blocks_of g hk hx]
        rfl
  unfold difR
  rw [h2]
  rfl

theorem difR_cases (g : WoolVol.Good FP st) (a b : List UInt8) : (difR st a b = ([], 4) ∧ (vix (nmB a) st.v = none ∨ vix (nmB b) st.v = none)) ∨ ∃ ka kb, ∃ ha : ka < st.v.length, ∃ hb : kb < st.v.length, vix (nmB a) st.v = some ka ∧ vix (nmB b) st.v = some kb ∧
    difR st a b = if st.v[ka].bl.length ≠ st.v[kb].bl.length then ([], 11) else (difG st.v[ka].bl st.v[kb].bl st.v[ka].bl.length, 0) := by
  cases hxa : vix (nmB a) st.v with
  | none => exact .inl ⟨difR_miss g (.inl hxa), .inl rfl⟩
  | some ka =>
    cases hxb : vix (nmB b) st.v with
    | none => exact .inl ⟨difR_miss g (.inr hxb), .inr rfl⟩
    | some kb =>
      obtain ⟨ha, _⟩ := vix_name hxa
      obtain ⟨hb, _⟩ := vix_name hxb
      exact .inr ⟨ka, kb, ha, hb, rfl, rfl, difR_of g ha hb hxa hxb⟩

theorem difR_err (g : WoolVol.Good FP st) (a b : List UInt8) (h : (difR st a b).2 ≠ 0) : (difR st a b).1 = [] := by
  rcases difR_cases g a b with ⟨e, _⟩ | ⟨ka, kb, ha, hb, _, _, e⟩
  · rw [e]
  · rw [e] at h ⊢
    split
    · rfl
    · rename_i h2
      rw [if_neg h2] at h
      exact absurd rfl h

theorem difR_self (g : WoolVol.Good FP st) (a : List UInt8) : (difR st a a).1 = [] := by
  rcases difR_cases g a a with ⟨e, _⟩ | ⟨ka, kb, ha, hb, hxa, hxb, e⟩
  · rw [e]
  · rw [hxa] at hxb
    cases hxb
    rw [e, if_neg (by simp), difG_self]

theorem difR_symm (g : WoolVol.Good FP st) (a b : List UInt8) : difR st a b = difR st b a := by
  rcases difR_cases g a b with ⟨e, h⟩ | ⟨ka, kb, ha, hb, hxa, hxb, e⟩
  · rw [e, difR_miss g h.symm]
  · rw [e, difR_of g hb ha hxb hxa]
    by_cases hl : st.v[ka].bl.length = st.v[kb].bl.length
    · rw [if_neg (by simpa using hl), if_neg (by simpa using hl.symm), difG_symm, hl]
    · rw [if_pos hl, if_pos (fun h => hl h.symm)]

theorem difR_tri (g : WoolVol.Good FP st) (a b c : List UInt8) (h1 : (difR st a b).2 = 0) (h2 : (difR st b c).2 = 0) : ∀ i ∈ (difR st a c).1, i ∈ (difR st a b).1 ∨ i ∈ (difR st b c).1 := by
  rcases difR_cases g a b with ⟨e, _⟩ | ⟨ka, kb, ha, hb, hxa, hxb, e⟩
  · rw [e] at h1; cases h1
  rcases difR_cases g b c with ⟨e2, _⟩ | ⟨kb', kc, hb', hc, hxb', hxc, e2⟩
  · rw [e2] at h2; cases h2
  rw [hxb] at hxb'
  cases hxb'
  rw [e] at h1
  rw [e2] at h2
  by_cases l1 : st.v[ka].bl.length = st.v[kb].bl.length
  · by_cases l2 : st.v[kb].bl.length = st.v[kc].bl.length
    · intro i hi
      rw [difR_of g ha hc hxa hxc, if_neg (by rw [l1, l2]; simp)] at hi
      rw [e, e2, if_neg (by simpa using l1), if_neg (by simpa using l2)]
      have := difG_tri _ st.v[kb].bl _ _ i hi
      rw [l1] at this ⊢
      exact this
    · rw [if_pos l2] at h2; cases h2
  · rw [if_pos l1] at h1; cases h1

/-- what differs, copied -/
theorem copied_law (g : WoolVol.Good FP st) (a b : List UInt8) (h : (difR st a b).2 = 0) : ∃ x, cpR st a b (difR st a b).1 = (x, 0) ∧ WoolVol.Good FP x ∧ difR x a b = ([], 0) ∧ textsG FP x b = textsG FP st a ∧ ∀ c, c ≠ b → textsG FP x c = textsG FP st c := by
  rcases difR_cases g a b with ⟨e, _⟩ | ⟨ka, kb, ha, hb, hxa, hxb, e⟩
  · rw [e] at h; cases h
  by_cases hl : st.v[ka].bl.length = st.v[kb].bl.length
  · rw [if_neg (by simpa using hl)] at e
    obtain ⟨_, x, hx, gx, hlen, hvol, hcp, hoth⟩ := copied (F := FP) (st := st) (kf := ka) (kt := kb) (L := st.v[ka].bl.length) (b := b) g hxb ha hb rfl hl.symm
    have hbo : bothR st a b = (st.v[ka].bl, st.v[kb].bl, 0) := by
      unfold bothR
      rw [blocks_of g ha hxa, blocks_of g hb hxb]
      rfl
    have hvf : (vfind FP st a).1 = ka := by rw [vfind_of g hxa]
    have hxa' := vix_alike hlen hvol hxa
    have hxb' := vix_alike hlen hvol hxb
    have ha' : ka < x.v.length := by omega
    have hb' : kb < x.v.length := by omega
    have la := (hvol ka ha ha').2
    have lb := (hvol kb hb hb').2
    refine ⟨x, ?_, gx, ?_, ?_, fun c hc => ?_⟩
    · unfold cpR
      rw [hbo, if_neg (by simp), hvf, e, cpL_G]
      exact hx
    · rw [difR_of gx ha' hb' hxa' hxb', if_neg (by rw [la, lb]; simpa using hl)]
      have he : ∀ p, p < st.v[ka].bl.length → x.v[ka].bl[p]! = x.v[kb].bl[p]! := by
        intro p hp
        have h1 := (hcp p hp).1
        rw [blk_eq hb' (by rw [lb]; omega), blk_eq ha' (by rw [la]; exact hp)] at h1
        rw [getElem!_pos _ p (by rw [la]; exact hp), getElem!_pos _ p (by rw [lb]; omega)]
        exact h1.symm
      have hn : difG x.v[ka].bl x.v[kb].bl x.v[ka].bl.length = [] := by
        apply Classical.byContradiction
        intro hne
        obtain ⟨i, hi⟩ := List.exists_mem_of_ne_nil _ hne
        have hb2 := difG_bounds _ _ _ i hi
        obtain ⟨p, rfl⟩ := Int.eq_ofNat_of_zero_le hb2.1
        obtain ⟨hp, hd⟩ := (mem_difG _ _ _ p).1 hi
        exact hd (he p (by rw [la] at hp; exact hp))
      rw [hn]
    · rw [textsG_of gx hb' hxb', textsG_of g ha hxa, lb, ← hl]
      exact rdG_congr (fun p hp => (hcp p hp).2)
    · cases hxc : vix (nmB c) st.v with
      | none =>
        have hxc' : vix (nmB c) x.v = none := by
          rw [vix_none] at hxc ⊢
          intro u hu
          obtain ⟨q, hq, rfl⟩ := List.getElem_of_mem hu
          have h9 := hxc _ (List.getElem_mem (show q < st.v.length by omega))
          unfold nmB at h9 ⊢
          rw [(hvol q (by omega) hq).1]
          exact h9
        rw [textsG_miss gx hxc', textsG_miss g hxc]
      | some kc =>
        obtain ⟨hkc, hnc⟩ := vix_name hxc
        have hkc' : kc < x.v.length := by omega
        have hne : kc ≠ kb := by
          rintro rfl
          obtain ⟨_, hnb⟩ := vix_name hxb
          exact hc (hnc.symm.trans hnb)
        rw [textsG_of gx hkc' (vix_alike hlen hvol hxc), textsG_of g hkc hxc, (hvol kc hkc hkc').2]
        exact rdG_congr (fun p hp => hoth kc p hkc hp hne)
  · rw [if_pos hl] at e
    rw [e] at h
    cases h

end

/-- a volume of two holes and its clone -/
theorem metric_start : ∃ s1 s2 : Sta, madeO FP [⟨1, [97], [], 2, []⟩] = s1 ∧ WoolVol.Good FP s1 ∧ clone FP s1 [97] [98] = (s2, 0) ∧ WoolVol.Good FP s2 ∧ difR s2 [97] [98] = ([], 0) := by
  have hn : newE zeroS [97] = 0 := by rfl
  have hm : make FP zeroS [97] 2 = (⟨[], [⟨[97], [noId, noId]⟩]⟩, 0) := by
    unfold make
    rw [chkS_zero.2 zero_good, if_neg (by simp), if_neg (by omega), hn, if_neg (by simp)]
    rfl
  have hd : doO FP zeroS ⟨1, [97], [], 2, []⟩ = (⟨[], [⟨[97], [noId, noId]⟩]⟩, 0) := by
    have hc : chkO ⟨1, [97], [], 2, []⟩ = 0 := by decide
    unfold doO
    rw [hc, if_neg (by simp)]
    exact hm
  have h1 : madeO FP [⟨1, [97], [], 2, []⟩] = ⟨[], [⟨[97], [noId, noId]⟩]⟩ := by
    unfold madeO deeds
    rw [List.take_of_length_le (by simp), List.foldl_cons, List.foldl_nil]
    unfold stepO
    rw [hd, if_pos rfl]
  have g1 : WoolVol.Good FP (⟨[], [⟨[97], [noId, noId]⟩]⟩ : Sta) := by rw [← h1]; exact madeO_good _
  have hx : vix (nmB [97]) (⟨[], [⟨[97], [noId, noId]⟩]⟩ : Sta).v = some 0 := by rfl
  have hc : clone FP ⟨[], [⟨[97], [noId, noId]⟩]⟩ [97] [98] = (⟨[], [⟨[97], [noId, noId]⟩, ⟨[98], [noId, noId]⟩]⟩, 0) := by
    unfold clone
    rw [vfind_of g1 hx, if_neg (by simp)]
    rfl
  have g2 : WoolVol.Good FP (⟨[], [⟨[97], [noId, noId]⟩, ⟨[98], [noId, noId]⟩]⟩ : Sta) := by
    have := clone_goodA (F := FP) ⟨[], [⟨[97], [noId, noId]⟩]⟩ [97] [98]
    rwa [hc] at this
  refine ⟨_, _, h1, g1, hc, g2, ?_⟩
  have hx1 : vix (nmB [97]) (⟨[], [⟨[97], [noId, noId]⟩, ⟨[98], [noId, noId]⟩]⟩ : Sta).v = some 0 := by rfl
  have hx2 : vix (nmB [98]) (⟨[], [⟨[97], [noId, noId]⟩, ⟨[98], [noId, noId]⟩]⟩ : Sta).v = some 1 := by rfl
  have hk : ∀ ka kb, ka = 0 → kb = 1 → ∀ (ha : ka < (⟨[], [⟨[97], [noId, noId]⟩, ⟨[98], [noId, noId]⟩]⟩ : Sta).v.length) (hb : kb < (⟨[], [⟨[97], [noId, noId]⟩, ⟨[98], [noId, noId]⟩]⟩ : Sta).v.length), True := fun _ _ _ _ _ _ => trivial
  rcases difR_cases g2 [97] [98] with ⟨e, h⟩ | ⟨ka, kb, ha, hb, hxa, hxb, e⟩
  · rw [hx1, hx2] at h
    rcases h with h | h <;> cases h
  · rw [hx1] at hxa
    rw [hx2] at hxb
    cases hxa
    cases hxb
    rw [e, if_neg (by simp)]
    exact congrArg (fun l => (l, (0 : Int))) (difG_self [noId, noId] 2)

end Go.Proofs.Ytnmdfdkagkpcaaa

/-
  A clone and what it is a clone of, in plain words: where they stand, and where they differ when the clone was written. Conditions: as each says.
-/
namespace WoolVol
open WoolBag

variable {F : List UInt8 → Int}

/-- where a clone stands, and what it was made of -/
theorem clone_pair {st : Sta} {s t : List UInt8} (h : (clone F st s t).2 = 0) : Good F (clone F st s t).1 ∧ ∃ kn kz L, ∃ hn : kn < (clone F st s t).1.v.length, ∃ hz : kz < (clone F st s t).1.v.length, kn ≠ kz ∧
    vix (nmB s) (clone F st s t).1.v = some kn ∧ vix (nmB t) (clone F st s t).1.v = some kz ∧ (clone F st s t).1.v[kn].bl.length = L ∧ (clone F st s t).1.v[kz].bl = (clone F st s t).1.v[kn].bl ∧ L ≤ 32 := by
  obtain ⟨g, hn, k, hk, hx, he, g2⟩ := clone_g h
  obtain ⟨hnB, hno, _⟩ := newE_zero hn
  have hv2 : (clone F st s t).1.v = vins ⟨t, st.v[k].bl⟩ st.v := by rw [he]
  have hle := vplace_le t st.v
  have hxt : vix (nmB t) (clone F st s t).1.v = some (vplace t st.v) := by rw [hv2]; exact vplace_ins (x := ⟨t, st.v[k].bl⟩) hno
  have hxs : vix (nmB s) (clone F st s t).1.v = some (shiftQ t st.v k) := vix_shift (x := ⟨t, st.v[k].bl⟩) g2 hv2 hx
  have hkt : vplace t st.v < (clone F st s t).1.v.length := by rw [hv2, vins_len]; omega
  obtain ⟨hks0, hats⟩ := vins_shift (x := ⟨t, st.v[k].bl⟩) hk
  have hks : shiftQ t st.v k < (clone F st s t).1.v.length := by rw [hv2]; exact hks0
  have hbt : ((clone F st s t).1.v[vplace t st.v]).bl = st.v[k].bl := by
    have h9 : ∀ (L : List Vo) (_ : L = vins ⟨t, st.v[k].bl⟩ st.v) (h : vplace t st.v < L.length), L[vplace t st.v].bl = st.v[k].bl := by
      rintro L rfl h
      have h8 := congrArg (fun v : Vo => v.bl) (vins_at (x := ⟨t, st.v[k].bl⟩) h)
      exact h8
    exact h9 _ hv2 _
  have hbs : ((clone F st s t).1.v[shiftQ t st.v k]).bl = st.v[k].bl := by
    have h9 : ∀ (L : List Vo) (_ : L = vins ⟨t, st.v[k].bl⟩ st.v) (h : shiftQ t st.v k < L.length), L[shiftQ t st.v k].bl = st.v[k].bl := by
      rintro L rfl h
      exact congrArg (fun v : Vo => v.bl) hats
    exact h9 _ hv2 _
  have hne : shiftQ t st.v k ≠ vplace t st.v := by unfold shiftQ; split <;> omega
  exact ⟨g2, _, _, st.v[k].bl.length, hks, hkt, hne, hxs, hxt, by rw [hbs], by rw [hbt, hbs], (g.vol _ (List.getElem_mem hk)).2.1⟩

/-- a written clone differs from what it was made of just where it was written, and the text is another, or there was none -/
theorem written_at {st0 cur : Sta} {kn kz L : Nat} {S : Nat → Bool} (h : WrJ F st0 cur kn kz (fun p => S p = true)) (hkn : kn < st0.v.length) (hkz : kz < st0.v.length) (hln : st0.v[kn].bl.length = L) (hbl : st0.v[kz].bl = st0.v[kn].bl)
    (hn : kn < cur.v.length) (hz : kz < cur.v.length) {i : Nat} (hi : i < L) (hib : i < cur.v[kn].bl.length) :
    (difG cur.v[kn].bl cur.v[kz].bl L).contains (i : Int) = (S i && (!((txAt cur kn i).getD [] == (txAt cur kz i).getD []) || !(cur.v[kn].bl[i]).1)) := by
  have hzb : i < cur.v[kz].bl.length := by rw [(h.vol kz hkz hz).2, hbl]; omega
  have hd := h.differs (L := L) hkn hkz hln (by rw [hbl]; exact hln) (fun p hp => by
    have e1 := blk_eq (st := st0) (q := kn) (p := p) hkn (by omega)
    have e2 := blk_eq (st := st0) (q := kz) (p := p) hkz (by rw [hbl]; omega)
    rw [e1, e2]
    have h9 : ∀ (A B : List Idn) (_ : B = A) (h1 : p < A.length) (h2 : p < B.length), A[p] = B[p] := by rintro A _ rfl _ _; rfl
    exact h9 _ _ hbl _ _) hi
  have e1 := blk_eq (st := cur) (q := kn) (p := i) hn hib
  have e2 := blk_eq (st := cur) (q := kz) (p := i) hz hzb
  rw [e1, e2] at hd
  rw [Bool.eq_iff_iff, List.contains_iff_mem, mem_difG, getElem!_pos cur.v[kn].bl i hib, getElem!_pos cur.v[kz].bl i hzb]
  constructor
  · intro hh
    have := hd.1 hh.2
    simp only [Bool.and_eq_true, Bool.or_eq_true, Bool.not_eq_true', beq_eq_false_iff_ne]
    exact this
  · intro hh
    simp only [Bool.and_eq_true, Bool.or_eq_true, Bool.not_eq_true', beq_eq_false_iff_ne] at hh
    exact ⟨hi, hd.2 hh⟩

theorem WrJ.congr {st0 cur : Sta} {kn kz : Nat} {W W' : Nat → Prop} (h : WrJ F st0 cur kn kz W) (e : ∀ p, W p ↔ W' p) : WrJ F st0 cur kn kz W' := by
  have : W = W' := funext fun p => propext (e p)
  rwa [← this]

end WoolVol

/-
  The map of places that were written; a state stays as it reads while the map turns. Conditions: as each says.
-/
namespace Go.Proofs.Ytnmdfdkagkpcaaa
open Go.RowKit
open Go.Proofs
open Go.Maps
open WoolBag
open WoolVol

theorem intKey : Keyed Try.prog 3 := int_keyed Try.underlying3
theorem boolZero (w : World) : (zeroValue 4).run Try.prog w = .ok (.bool false) w := by kernel_rfl

/-- a map that answers S below 64 -/
def WMap (w : World) (B n : Nat) (S : Nat → Bool) : Prop :=
  ∃ D : DataW Unit, w.ownsMap Try.prog 3 (plainElem Try.prog 4) B n D ∧ ∀ i : Nat, i < 64 → D.atKey (.int .i64 (i : Int)) (.lit (.bool false)) = .lit (.bool (S i))

theorem WMap.made (w : World) : WMap (w.alloc (.map #[] 0)) w.heap.size 0 (fun _ => false) :=
  ⟨.map [], World.ownsMap_made w _ _ _, fun _ _ => rfl⟩
theorem WMap.lt {w : World} {B n : Nat} {S : Nat → Bool} (k : WMap w B n S) : B < w.heap.size := by
  obtain ⟨D, h1, _⟩ := k
  exact h1.lt
theorem WMap.mono {w : World} {B n n' : Nat} {S : Nat → Bool} (k : WMap w B n S) (hn : n ≤ n') : WMap w B n' S := by
  obtain ⟨D, h1, h2⟩ := k
  exact ⟨D, h1.mono hn, h2⟩
theorem WMap.up {w w' : World} {B n : Nat} {S : Nat → Bool} (k : WMap w B n S) (hb : Up w w') : WMap w' B n S := by
  have hlt := k.lt
  obtain ⟨D, h1, h2⟩ := k
  refine ⟨D, ?_, h2⟩
  unfold World.ownsMap at h1 ⊢
  rw [hb.block B hlt]
  exact h1
theorem WMap.setCell {w : World} {B n : Nat} {S : Nat → Bool} (k : WMap w B n S) {a : Addr} (ha : B ≠ a.block) (u : Value) : WMap (w.setCell a u) B n S := by
  obtain ⟨D, h1, h2⟩ := k
  exact ⟨D, h1.setCell ha u, h2⟩
theorem WMap.apart {w : World} {B n X T : Nat} {S : Nat → Bool} {L : List Value} (k : WMap w B n S) (hr : RowC w X T L) : B ≠ X := by
  obtain ⟨D, ⟨es, clock, hb, _⟩, _⟩ := k
  intro e
  subst e
  unfold RowC at hr
  rw [hb] at hr
  cases hr

theorem keyI (i : Nat) (h : i < 64) : keyOf Try.prog 3 (.int .i64 (i : Int)) = some (.int .i64 (i : Int)) := keyOf_int_mk Try.underlying3 (WalkArith.wf_i64 (by omega))

set_option maxRecDepth 100000 in
theorem WMap.look {w : World} {B n : Nat} {S : Nat → Bool} (k : WMap w B n S) {i : Nat} (hi : i < 64) : (Instr.lookup 42 (.map (some B)) (.int .i64 (i : Int)) false).run Try.prog w = .ok (.bool (S i)) w := by
  obtain ⟨D, h1, h2⟩ := k
  obtain ⟨v, ps, hrun, hv⟩ := h1.lookup intKey Try.underlying42 (boolZero _) (plainElem_bool Try.underlying4 false) (keyI i hi)
  rw [h2 i hi] at hv
  have e : v = .bool (S i) := by
    unfold plainElem at hv
    rw [Try.underlying4] at hv
    cases v <;> simp at hv
    rw [hv.1]
  rw [hrun, e]

theorem isKey_int (a : Int) : WideAt.IsKeyLit (.int .i64 a) := trivial

set_option maxRecDepth 100000 in
theorem WMap.store {w : World} {B n : Nat} {S : Nat → Bool} (k : WMap w B n S) (hn : n < maxLen) {j : Nat} (hj : j < 64) :
    ∃ w', (Instr.mapUpdate 42 (.map (some B)) (.int .i64 (j : Int)) (.bool true)).run Try.prog w = .ok () w' ∧ WMap w' B (n + 1) (fun i => i == j || S i) ∧ w.grownBy w' (some B) := by
  obtain ⟨D, h1, h2⟩ := k
  obtain ⟨w', hrun, h3, h4⟩ := h1.update intKey Try.underlying42 hn (keyI j hj) (plainElem_bool Try.underlying4 true)
  refine ⟨w', hrun, ⟨_, h3, fun i hi => ?_⟩, h4⟩
  by_cases e : i = j
  · subst e
    rw [atKey_put_same h1.isMap (isKey_int _)]
    simp
  · have hne : (Lit.int .i64 (i : Int)) ≠ .int .i64 (j : Int) := by
      intro he
      simp only [Lit.int.injEq, true_and] at he
      omega
    rw [atKey_put_other hne, h2 i hi]
    simp [e]

/-! ytnmdfdkagkpcaaa# what reads stays while the map turns -/

theorem cell_turn {w w' : World} {B n : Nat} {S : Nat → Bool} (k : WMap w B n S) (hg : w.grownBy w' (some B)) {a : Addr} {v : Value} (h : w.cell? a = some v) : w'.cell? a = some v := by
  obtain ⟨D, ⟨es, clock, hb, _⟩, _⟩ := k
  have hne : a.block ≠ B := by
    intro e
    unfold World.cell? at h
    rw [e, hb] at h
    simp at h
  have hlt := World.block_lt_of_cell? w _ h
  have hbk := hg.block a.block hlt (fun e => hne (Option.some.inj e))
  unfold World.cell? at h ⊢
  rw [hbk]
  exact h

theorem Sl.cellsT {w w' : World} {m n : Nat} {v : Value} {L : List Value} (h : Sl w m v n L) (hc : ∀ a u, w.cell? a = some u → w'.cell? a = some u) : Sl w' m v n L := by
  obtain ⟨h0, o, c, h1, h2, h3, h4⟩ := h
  refine ⟨h0, o, c, h1, h2, h3, ?_⟩
  rcases h4 with h4 | ⟨b, off, h5, h6⟩
  · exact .inl h4
  · exact .inr ⟨b, off, h5, fun j u hj => hc _ _ (h6 j u hj)⟩

theorem Stat.cells {w w' : World} {v : Value} {st : Sta} (h : Stat w v st) (hc : ∀ a u, w.cell? a = some u → w'.cell? a = some u) : Stat w' v st := by
  obtain ⟨vb, vv, h1, hi, hv⟩ := h
  refine ⟨vb, vv, h1, ?_, ?_⟩
  · obtain ⟨o, c, e1, e2, e3, h4⟩ := hi
    refine ⟨o, c, e1, e2, e3, ?_⟩
    rcases h4 with h4 | ⟨bb, off, h5, h6⟩
    · exact .inl h4
    · refine .inr ⟨bb, off, h5, fun k hk => ?_⟩
      obtain ⟨a1, a2, a3, a4⟩ := h6 k hk
      exact ⟨hc _ _ a1, hc _ _ a2, hc _ _ a3, hc _ _ a4⟩
  · obtain ⟨C, g1, g2⟩ := hv
    exact ⟨C, Sl.cellsT g1 hc, ⟨g2.len, g2.nm, fun k hk => Sl.cellsT (g2.bl k hk) hc⟩⟩

theorem RowC.turn {w w' : World} {B X T : Nat} {L : List Value} (h : RowC w X T L) (hg : w.grownBy w' (some B)) (hne : B ≠ X) : RowC w' X T L := by
  have hlt := h.lt
  unfold RowC at h ⊢
  rw [hg.block X hlt (fun e => hne (Option.some.inj e).symm)]
  exact h

theorem BoxS.turn {w w' : World} {B n X : Nat} {S : Nat → Bool} {st : Sta} {o1 o2 : Option Addr} {n1 c1 n2 c2 : Nat} (h : BoxS w X st o1 n1 c1 o2 n2 c2) (k : WMap w B n S) (hg : w.grownBy w' (some B)) : BoxS w' X st o1 n1 c1 o2 n2 c2 :=
  ⟨h.row.turn hg (k.apart h.row), h.st.cells (fun _ _ hc => cell_turn k hg hc), h.e1, h.e2⟩

theorem up_turn {w0 w w' : World} {B : Nat} (hu : Up w0 w) (hg : w.grownBy w' (some B)) (hB : w0.heap.size ≤ B) : Up w0 w' :=
  Below.grown (show Below w0.heap.size w0 w from hu) hg hu.size (fun k hk => by rw [← Option.some.inj hk]; exact hB)

end Go.Proofs.Ytnmdfdkagkpcaaa
