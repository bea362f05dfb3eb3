/-
  The texts LawDf, VOw, one behind the other; each says below what it holds and on what conditions.
-/
import Derived.Test.YtnmdfdkagkpcaaaJVolOwn49
import Derived.Test.YtnmdfdkagkpcaaaJVolOwn43
import Derived.Test.YtnmdfdkagkpcaaaJVolOwn46
import Derived.Test.YtnmdfdkagkpcaaaJVolOwn12
import Derived.Test.YtnmdfdkagkpcaaaJVolOwn32
import Derived.Test.YtnmdfdkagkpcaaaJVolOwn33
import Derived.Test.YtnmdfdkagkpcaaaJVolOwn37

/-
  What the laws of differences say, in plain words. Conditions: a valid state.
-/
namespace Go.Proofs.Ytnmdfdkagkpcaaa
open Go.RowKit
open Go.Proofs
open WoolBag
open WoolVol

theorem dif_G (a b : List Idn) (k : Nat) : dif a b k = difG a b k := rfl

theorem cpL_G (st0 : Sta) (kf L : Nat) (b : List UInt8) : ∀ (z : List Int) (cur : Sta), cpL st0 kf L b cur z = cpLG FP st0 kf L b cur z
  | [], _ => rfl
  | p :: r, cur => by
    show (if p < 0 ∨ (L : Int) ≤ p then (zeroS, 1) else if (cpStep st0 kf b cur p).2 ≠ 0 then (zeroS, (cpStep st0 kf b cur p).2) else cpL st0 kf L b (cpStep st0 kf b cur p).1 r) = (if p < 0 ∨ (L : Int) ≤ p then (zeroS, 1) else if (cpSG FP st0 kf b cur p).2 ≠ 0 then (zeroS, (cpSG FP st0 kf b cur p).2) else cpLG FP st0 kf L b (cpSG FP st0 kf b cur p).1 r)
    rw [cpL_G st0 kf L b r]
    rfl

/-- what differs, and an error, in the shape that a walk meets -/
def DfO (w : World) (r : List Int × Int) (e : Ending) (w' : World) : Prop := ∃ (o : Option Addr) (c base : Nat), e = .returned (.tuple #[.slice o r.1.length c, .int .i64 r.2]) ∧ OInts w' base (.slice o r.1.length c) r.1 ∧ c ≤ maxLen ∧ Up w w'

theorem DfO.of {f : FuncId} {a : Array Value} {w : World} {r : List Int × Int} (h : Calls Try.prog f a w (DfPost w r)) : Calls Try.prog f a w (DfO w r) := by
  refine h.mono ?_
  rintro e w' ⟨v, rfl, h1, h2⟩
  obtain ⟨o, c, rfl, _, hc, _⟩ := h1.shape
  exact ⟨o, c, _, rfl, h1, hc, h2⟩

/-- a deed written out -/
theorem ops_one (w : World) (o : Opn) (h : OpWf o) : Ops (w.alloc (.cells (opC o).toArray 44)) (.slice (some ⟨w.heap.size, 0, none⟩) 1 1) [o] := by
  have := World.ownsRow_lit (base := w.heap.size) (e := 44) (size := 5) w (opC o).toArray 1 (Nat.le_refl w.heap.size) (by unfold maxLen; omega) rfl
  refine ⟨?_, by simpa using h⟩
  have h2 := Sl.of_own this
  exact h2

section
variable {st : Sta}

/-- Diff by places -/
theorem difR_of (g : WoolVol.Good FP st) {a b : List UInt8} {ka kb : Nat} (ha : ka < st.v.length) (hb : kb < st.v.length) (hxa : vix (nmB a) st.v = some ka) (hxb : vix (nmB b) st.v = some kb) :
    difR st a b = if st.v[ka].bl.length ≠ st.v[kb].bl.length then ([], 11) else (difG st.v[ka].bl st.v[kb].bl st.v[ka].bl.length, 0) := by
  have h : bothR st a b = (st.v[ka].bl, st.v[kb].bl, 0) := by
    unfold bothR
    rw [blocks_of g ha hxa, blocks_of g hb hxb]
    rfl
  unfold difR
  rw [h]
  rfl

theorem difR_miss (g : WoolVol.Good FP st) {a b : List UInt8} (h : vix (nmB a) st.v = none ∨ vix (nmB b) st.v = none) : difR st a b = ([], 4) := by
  have h2 : bothR st a b = ([], [], 4) := by
    unfold bothR
    rcases h with h | h
    · rw [blocks_miss g h]
      rfl
    · rw [blocks_miss g h]
      cases hx : vix (nmB a) st.v with
      | none => rw [blocks_miss g hx]; rfl
      | some k =>
        obtain ⟨hk, _⟩ := vix_name hx
        rw [blocks_of g hk hx]
        rfl
  unfold difR
  rw [h2]
  rfl

theorem difR_cases (g : WoolVol.Good FP st) (a b : List UInt8) : (difR st a b = ([], 4) ∧ (vix (nmB a) st.v = none ∨ vix (nmB b) st.v = none)) ∨ ∃ ka kb, ∃ ha : ka < st.v.length, ∃ hb : kb < st.v.length, vix (nmB a) st.v = some ka ∧ vix (nmB b) st.v = some kb ∧
    difR st a b = if st.v[ka].bl.length ≠ st.v[kb].bl.length then ([], 11) else (difG st.v[ka].bl st.v[kb].bl st.v[ka].bl.length, 0) := by
  cases hxa : vix (nmB a) st.v with
  | none => exact .inl ⟨difR_miss g (.inl hxa), .inl rfl⟩
  | some ka =>
    cases hxb : vix (nmB b) st.v with
    | none => exact .inl ⟨difR_miss g (.inr hxb), .inr rfl⟩
    | some kb =>
      obtain ⟨ha, _⟩ := vix_name hxa
      obtain ⟨hb, _⟩ := vix_name hxb
      exact .inr ⟨ka, kb, ha, hb, rfl, rfl, difR_of g ha hb hxa hxb⟩

theorem difR_err (g : WoolVol.Good FP st) (a b : List UInt8) (h : (difR st a b).2 ≠ 0) : (difR st a b).1 = [] := by
  rcases difR_cases g a b with ⟨e, _⟩ | ⟨ka, kb, ha, hb, _, _, e⟩
  · rw [e]
  · rw [e] at h ⊢
    split
    · rfl
    · rename_i h2
      rw [if_neg h2] at h
      exact absurd rfl h

theorem difR_self (g : WoolVol.Good FP st) (a : List UInt8) : (difR st a a).1 = [] := by
  rcases difR_cases g a a with ⟨e, _⟩ | ⟨ka, kb, ha, hb, hxa, hxb, e⟩
  · rw [e]
  · rw [hxa] at hxb
    cases hxb
    rw [e, if_neg (by simp), difG_self]

theorem difR_symm (g : WoolVol.Good FP st) (a b : List UInt8) : difR st a b = difR st b a := by
  rcases difR_cases g a b with ⟨e, h⟩ | ⟨ka, kb, ha, hb, hxa, hxb, e⟩
  · rw [e, difR_miss g h.symm]
  · rw [e, difR_of g hb ha hxb hxa]
    by_cases hl : st.v[ka].bl.length = st.v[kb].bl.length
    · rw [if_neg (by simpa using hl), if_neg (by simpa using hl.symm), difG_symm, hl]
    · rw [if_pos hl, if_pos (fun h => hl h.symm)]

theorem difR_tri (g : WoolVol.Good FP st) (a b c : List UInt8) (h1 : (difR st a b).2 = 0) (h2 : (difR st b c).2 = 0) : ∀ i ∈ (difR st a c).1, i ∈ (difR st a b).1 ∨ i ∈ (difR st b c).1 := by
  rcases difR_cases g a b with ⟨e, _⟩ | ⟨ka, kb, ha, hb, hxa, hxb, e⟩
  · rw [e] at h1; cases h1
  rcases difR_cases g b c with ⟨e2, _⟩ | ⟨kb', kc, hb', hc, hxb', hxc, e2⟩
  · rw [e2] at h2; cases h2
  rw [hxb] at hxb'
  cases hxb'
  rw [e] at h1
  rw [e2] at h2
  by_cases l1 : st.v[ka].bl.length = st.v[kb].bl.length
  · by_cases l2 : st.v[kb].bl.length = st.v[kc].bl.length
    · intro i hi
      rw [difR_of g ha hc hxa hxc, if_neg (by rw [l1, l2]; simp)] at hi
      rw [e, e2, if_neg (by simpa using l1), if_neg (by simpa using l2)]
      have := difG_tri _ st.v[kb].bl _ _ i hi
      rw [l1] at this ⊢
      exact this
    · rw [if_pos l2] at h2; cases h2
  · rw [if_pos l1] at h1; cases h1

/-- what differs, copied -/
theorem copied_law (g : WoolVol.Good FP st) (a b : List UInt8) (h : (difR st a b).2 = 0) : ∃ x, cpR st a b (difR st a b).1 = (x, 0) ∧ WoolVol.Good FP x ∧ difR x a b = ([], 0) ∧ textsG FP x b = textsG FP st a ∧ ∀ c, c ≠ b → textsG FP x c = textsG FP st c := by
  rcases difR_cases g a b with ⟨e, _⟩ | ⟨ka, kb, ha, hb, hxa, hxb, e⟩
  · rw [e] at h; cases h
  by_cases hl : st.v[ka].bl.length = st.v[kb].bl.length
  · rw [if_neg (by simpa using hl)] at e
    obtain ⟨_, x, hx, gx, hlen, hvol, hcp, hoth⟩ := copied (F := FP) (st := st) (kf := ka) (kt := kb) (L := st.v[ka].bl.length) (b := b) g hxb ha hb rfl hl.symm
    have hbo : bothR st a b = (st.v[ka].bl, st.v[kb].bl, 0) := by
      unfold bothR
      rw [blocks_of g ha hxa, blocks_of g hb hxb]
      rfl
    have hvf : (vfind FP st a).1 = ka := by rw [vfind_of g hxa]
    have hxa' := vix_alike hlen hvol hxa
    have hxb' := vix_alike hlen hvol hxb
    have ha' : ka < x.v.length := by omega
    have hb' : kb < x.v.length := by omega
    have la := (hvol ka ha ha').2
    have lb := (hvol kb hb hb').2
    refine ⟨x, ?_, gx, ?_, ?_, fun c hc => ?_⟩
    · unfold cpR
      rw [hbo, if_neg (by simp), hvf, e, cpL_G]
      exact hx
    · rw [difR_of gx ha' hb' hxa' hxb', if_neg (by rw [la, lb]; simpa using hl)]
      have he : ∀ p, p < st.v[ka].bl.length → x.v[ka].bl[p]! = x.v[kb].bl[p]! := by
        intro p hp
        have h1 := (hcp p hp).1
        rw [blk_eq hb' (by rw [lb]; omega), blk_eq ha' (by rw [la]; exact hp)] at h1
        rw [getElem!_pos _ p (by rw [la]; exact hp), getElem!_pos _ p (by rw [lb]; omega)]
        exact h1.symm
      have hn : difG x.v[ka].bl x.v[kb].bl x.v[ka].bl.length = [] := by
        apply Classical.byContradiction
        intro hne
        obtain ⟨i, hi⟩ := List.exists_mem_of_ne_nil _ hne
        have hb2 := difG_bounds _ _ _ i hi
        obtain ⟨p, rfl⟩ := Int.eq_ofNat_of_zero_le hb2.1
        obtain ⟨hp, hd⟩ := (mem_difG _ _ _ p).1 hi
        exact hd (he p (by rw [la] at hp; exact hp))
      rw [hn]
    · rw [textsG_of gx hb' hxb', textsG_of g ha hxa, lb, ← hl]
      exact rdG_congr (fun p hp => (hcp p hp).2)
    · cases hxc : vix (nmB c) st.v with
      | none =>
        have hxc' : vix (nmB c) x.v = none := by
          rw [vix_none] at hxc ⊢
          intro u hu
          obtain ⟨q, hq, rfl⟩ := List.getElem_of_mem hu
          have h9 := hxc _ (List.getElem_mem (show q < st.v.length by omega))
          unfold nmB at h9 ⊢
          rw [(hvol q (by omega) hq).1]
          exact h9
        rw [textsG_miss gx hxc', textsG_miss g hxc]
      | some kc =>
        obtain ⟨hkc, hnc⟩ := vix_name hxc
        have hkc' : kc < x.v.length := by omega
        have hne : kc ≠ kb := by
          rintro rfl
          obtain ⟨_, hnb⟩ := vix_name hxb
          exact hc (hnc.symm.trans hnb)
        rw [textsG_of gx hkc' (vix_alike hlen hvol hxc), textsG_of g hkc hxc, (hvol kc hkc hkc').2]
        exact rdG_congr (fun p hp => hoth kc p hkc hp hne)
  · rw [if_pos hl] at e
    rw [e] at h
    cases h

end

/-- a volume of two holes and its clone -/
theorem metric_start : ∃ s1 s2 : Sta, madeO FP [⟨1, [97], [], 2, []⟩] = s1 ∧ WoolVol.Good FP s1 ∧ clone FP s1 [97] [98] = (s2, 0) ∧ WoolVol.Good FP s2 ∧ difR s2 [97] [98] = ([], 0) := by
  have hn : newE zeroS [97] = 0 := by rfl
  have hm : make FP zeroS [97] 2 = (⟨[], [⟨[97], [noId, noId]⟩]⟩, 0) := by
    unfold make
    rw [chkS_zero.2 zero_good, if_neg (by simp), if_neg (by omega), hn, if_neg (by simp)]
    rfl
  have hd : doO FP zeroS ⟨1, [97], [], 2, []⟩ = (⟨[], [⟨[97], [noId, noId]⟩]⟩, 0) := by
    have hc : chkO ⟨1, [97], [], 2, []⟩ = 0 := by decide
    unfold doO
    rw [hc, if_neg (by simp)]
    exact hm
  have h1 : madeO FP [⟨1, [97], [], 2, []⟩] = ⟨[], [⟨[97], [noId, noId]⟩]⟩ := by
    unfold madeO deeds
    rw [List.take_of_length_le (by simp), List.foldl_cons, List.foldl_nil]
    unfold stepO
    rw [hd, if_pos rfl]
  have g1 : WoolVol.Good FP (⟨[], [⟨[97], [noId, noId]⟩]⟩ : Sta) := by rw [← h1]; exact madeO_good _
  have hx : vix (nmB [97]) (⟨[], [⟨[97], [noId, noId]⟩]⟩ : Sta).v = some 0 := by rfl
  have hc : clone FP ⟨[], [⟨[97], [noId, noId]⟩]⟩ [97] [98] = (⟨[], [⟨[97], [noId, noId]⟩, ⟨[98], [noId, noId]⟩]⟩, 0) := by
    unfold clone
    rw [vfind_of g1 hx, if_neg (by simp)]
    rfl
  have g2 : WoolVol.Good FP (⟨[], [⟨[97], [noId, noId]⟩, ⟨[98], [noId, noId]⟩]⟩ : Sta) := by
    have := clone_goodA (F := FP) ⟨[], [⟨[97], [noId, noId]⟩]⟩ [97] [98]
    rwa [hc] at this
  refine ⟨_, _, h1, g1, hc, g2, ?_⟩
  have hx1 : vix (nmB [97]) (⟨[], [⟨[97], [noId, noId]⟩, ⟨[98], [noId, noId]⟩]⟩ : Sta).v = some 0 := by rfl
  have hx2 : vix (nmB [98]) (⟨[], [⟨[97], [noId, noId]⟩, ⟨[98], [noId, noId]⟩]⟩ : Sta).v = some 1 := by rfl
  have hk : ∀ ka kb, ka = 0 → kb = 1 → ∀ (ha : ka < (⟨[], [⟨[97], [noId, noId]⟩, ⟨[98], [noId, noId]⟩]⟩ : Sta).v.length) (hb : kb < (⟨[], [⟨[97], [noId, noId]⟩, ⟨[98], [noId, noId]⟩]⟩ : Sta).v.length), True := fun _ _ _ _ _ _ => trivial
  rcases difR_cases g2 [97] [98] with ⟨e, h⟩ | ⟨ka, kb, ha, hb, hxa, hxb, e⟩
  · rw [hx1, hx2] at h
    rcases h with h | h <;> cases h
  · rw [hx1] at hxa
    rw [hx2] at hxb
    cases hxa
    cases hxb
    rw [e, if_neg (by simp)]
    exact congrArg (fun l => (l, (0 : Int))) (difG_self [noId, noId] 2)

end Go.Proofs.Ytnmdfdkagkpcaaa

/-
  States between places, many of them: what spoiling one leaves of the others; sizes of what the calls answer. Conditions: as each says.
-/
namespace Go.Proofs.Ytnmdfdkagkpcaaa
open Go.RowKit
open Go.Proofs
open WoolBag
open WoolVol

theorem RowC.btw {w w' : World} {a b X T : Nat} {L : List Value} (h : RowC w X T L) (k : Btw a b w w') (hd : X < a ∨ b ≤ X) : RowC w' X T L := by
  have hlt := h.lt
  unfold RowC at h ⊢
  rw [k.block X hlt hd]
  exact h

theorem own_btw {w w' : World} {a b base T m n : Nat} {v : Value} {L : List Value} (h : w.ownsRow base T m v n L) (k : Btw a b w w') (hd : b ≤ base) : w'.ownsRow base T m v n L := by
  refine ⟨h.1, ?_⟩
  rcases h.2 with h2 | ⟨g, cap, cur, h1, h2, h3, h4⟩
  · exact .inl h2
  · have hlt : g < w.heap.size := (Array.getElem?_eq_some_iff.1 h3).1
    exact .inr ⟨g, cap, cur, h1, h2, (k.block g hlt (.inr (Nat.le_trans hd h2))).trans h3, h4⟩

theorem OSt.btw {w w' : World} {a b base : Nat} {v : Value} {st : Sta} (h : OSt w base v st) (k : Btw a b w w') (hd : b ≤ base) : OSt w' base v st := by
  obtain ⟨vb, vv, rfl, hb, C, hC, hR⟩ := h
  exact ⟨vb, vv, rfl, own_btw hb k hd, C, own_btw hC k hd, ⟨hR.len, hR.nm, fun q hq => own_btw (hR.bl q hq) k hd, hR.apart⟩⟩

/-- kept where a row of states grows -/
theorem OSt.growS {w w' : World} {base b2 n : Nat} {v v2 : Value} {st : Sta} {L : List Value} (h : OSt w base v st) (ho : w.ownsRow b2 31 2 v2 n L) (hg : w.grownBy w' v2.ownBlock) : OSt w' base v st := by
  obtain ⟨vb, vv, rfl, hb, C, hC, hR⟩ := h
  exact ⟨vb, vv, rfl, own_growK hb hg (own_apartT hb ho (by decide)), C, own_growK hC hg (own_apartT hC ho (by decide)), ⟨hR.len, hR.nm, fun q hq => own_growK (hR.bl q hq) hg (own_apartT (hR.bl q hq) ho (by decide)), hR.apart⟩⟩

theorem CpS.up {w w' : World} {lo : Nat} {v : Value} {st : Sta} (h : CpS w lo v st) (hu : Up w w') : CpS w' lo v st := by
  obtain ⟨gB, vv, C, h1, h2, h3, h4, h5⟩ := h
  exact ⟨gB, vv, C, h1, h2, RowI.up h3 hu, own_up h4 hu, h5.up hu⟩

theorem good_sizes {st : Sta} (g : WoolVol.Good FP st) : st.b.length ≤ 64 ∧ st.v.length ≤ 6 ∧ ∀ x ∈ st.v, x.bl.length ≤ 32 := ⟨g.bag.len, g.len, fun x hx => (g.vol x hx).2.1⟩

theorem doO_goodA (st : Sta) (o : Opn) : WoolVol.Good FP (doO FP st o).1 := by
  unfold doO
  by_cases hc : chkO o ≠ 0
  · rw [if_pos hc]; exact zero_good
  · rw [if_neg hc]
    unfold doK
    by_cases h1 : o.kd = 1
    · rw [if_pos h1]; exact make_goodA _ _ _
    rw [if_neg h1]
    by_cases h2 : o.kd = 2
    · rw [if_pos h2]; exact vdrop_goodA _ _
    rw [if_neg h2]
    by_cases h3 : o.kd = 3
    · rw [if_pos h3]; exact write_goodA _ _ _ _
    rw [if_neg h3]
    by_cases h4 : o.kd = 4
    · rw [if_pos h4]; exact trim_goodA _ _ _
    rw [if_neg h4]
    exact clone_goodA _ _ _

theorem cpR_goodN {st : Sta} (g : WoolVol.Good FP st) (a b : List UInt8) : WoolVol.Good FP (cpR st a b []).1 := by
  unfold cpR
  by_cases h : (bothR st a b).2.2 ≠ 0
  · rw [if_pos h]; exact zero_good
  · rw [if_neg h]; exact g

/-! ytnmdfdkagkpcaaa# many states -/

structure Seg where
  lo : Nat
  hi : Nat
  x : Value
  y : Value
  st : Sta

def sgC (s : Seg) : List Value := [s.x, s.y]
theorem sgC_len (s : Seg) : (sgC s).length = 2 := rfl
def uC (p : Value × Value) : List Value := [p.1, p.2]
theorem uC_len (p : Value × Value) : (uC p).length = 2 := rfl

/-- each of them reads, and lies between its places -/
def Segs (w : World) (L : List Seg) : Prop := ∀ k (hk : k < L.length), RSt w L[k].lo L[k].hi (.agg #[L[k].x, L[k].y]) L[k].st ∧ WoolVol.Good FP L[k].st
/-- one behind the other, from lo on and below hi -/
def Ordd (L : List Seg) (lo hi : Nat) : Prop := (∀ j k (hj : j < L.length) (hk : k < L.length), j < k → L[j].hi ≤ L[k].lo) ∧ ∀ k (hk : k < L.length), lo ≤ L[k].lo ∧ L[k].hi ≤ hi

theorem Segs.up {w w' : World} {L : List Seg} (h : Segs w L) (hu : Up w w') : Segs w' L := fun k hk => ⟨(h k hk).1.up hu, (h k hk).2⟩
theorem Segs.at {w : World} {L : List Seg} (h : Segs w L) (k : Nat) (hk : k < L.length) : ∃ o1 n1 c1 o2 n2 c2, L[k].x = .slice o1 n1 c1 ∧ L[k].y = .slice o2 n2 c2 := by
  obtain ⟨ob, cb, ov, cv, e, _⟩ := (h k hk).1.ost.slices
  simp only [Value.agg.injEq] at e
  have e2 := congrArg Array.toList e
  simp at e2
  exact ⟨_, _, _, _, _, _, e2.1, e2.2⟩

theorem seg_cells {w : World} {AB k : Nat} {L : List Seg} (h : RowC w AB 31 (fl sgC L)) (hk : k < L.length) : w.cell? ⟨AB, k * 2, none⟩ = some L[k].x ∧ w.cell? ⟨AB, k * 2 + 1, none⟩ = some L[k].y :=
  ⟨h.cell (fl_get sgC_len L k hk 0 (by omega)), h.cell (fl_get sgC_len L k hk 1 (by omega))⟩

/-- the copies that are wanted, so far -/
structure WtI (L : List Seg) (AB base : Nat) (W : World) (i : Nat) (wv : Value) (U : List (Value × Value)) (wr : World) : Prop where
  row : RowC wr AB 31 (fl sgC L)
  len : U.length = i
  want : wr.ownsRow W.heap.size 31 2 wv i (fl uC U)
  rd : ∀ k (h1 : k < U.length) (h2 : k < L.length), OSt wr base (.agg #[U[k].1, U[k].2]) L[k].st
  up : Up W wr

def WtRel (L : List Seg) (AB base : Nat) (W : World) (wv i : Value) (wr : World) : Prop := ∃ j U, j ≤ L.length ∧ i = .int .i64 ((j : Nat) : Int) ∧ WtI L AB base W j wv U wr

/-- the states that are not spoilt yet, and the copies -/
structure SpI (L : List Seg) (U : List (Value × Value)) (AB base : Nat) (wv : Value) (w : World) (i : Nat) (wr : World) : Prop where
  row : RowC wr AB 31 (fl sgC L)
  want : wr.ownsRow base 31 2 wv L.length (fl uC U)
  seg : ∀ k (hk : k < L.length), i ≤ k → RSt wr L[k].lo L[k].hi (.agg #[L[k].x, L[k].y]) L[k].st
  rd : ∀ k (h1 : k < U.length) (h2 : k < L.length), OSt wr base (.agg #[U[k].1, U[k].2]) L[k].st
  up : Up w wr

def SpRel (L : List Seg) (U : List (Value × Value)) (AB base : Nat) (wv : Value) (w : World) (i : Value) (wr : World) : Prop := ∃ j, j ≤ L.length ∧ i = .int .i64 ((j : Nat) : Int) ∧ SpI L U AB base wv w j wr

theorem SpI.upW {L : List Seg} {U : List (Value × Value)} {AB base i : Nat} {wv : Value} {w wr w' : World} (h : SpI L U AB base wv w i wr) (hu : Up wr w') : SpI L U AB base wv w i w' :=
  ⟨h.row.up hu, own_up h.want hu, fun k hk hi => (h.seg k hk hi).up hu, fun k h1 h2 => (h.rd k h1 h2).up hu, h.up.trans hu⟩

theorem SpI.step {L : List Seg} {U : List (Value × Value)} {AB base i lo : Nat} {wv : Value} {w wr w' : World} (h : SpI L U AB base wv w i wr) (hi : i < L.length) (ho : Ordd L lo base) (hl : w.heap.size ≤ lo) (hA : base ≤ AB) (hb : Btw L[i].lo L[i].hi wr w') : SpI L U AB base wv w (i + 1) w' :=
  ⟨h.row.btw hb (.inr (Nat.le_trans (ho.2 i hi).2 hA)), own_btw h.want hb (ho.2 i hi).2, fun k hk hik => (h.seg k hk (by omega)).btw hb (.inl (ho.1 i k hi hk (by omega))), fun k h1 h2 => (h.rd k h1 h2).btw hb (ho.2 i hi).2, hb.above h.up (Nat.le_trans hl (ho.2 i hi).1)⟩

theorem WtI.upW {L : List Seg} {U : List (Value × Value)} {AB base i : Nat} {W wr w' : World} {wv : Value} (h : WtI L AB base W i wv U wr) (hu : Up wr w') : WtI L AB base W i wv U w' :=
  ⟨h.row.up hu, h.len, own_up h.want hu, fun k h1 h2 => (h.rd k h1 h2).up hu, h.up.trans hu⟩

theorem WtI.step {L : List Seg} {U : List (Value × Value)} {AB base i gA cA : Nat} {oP : Option Addr} {cP : Nat} {W w4 wA : World} {b v : Value} (h : WtI L AB base W i (.slice oP i cP) U w4) (hAB : AB < W.heap.size) (hi : i < L.length) (hcp : OSt w4 base (.agg #[b, v]) L[i].st)
    (hA : wA.ownsRow W.heap.size 31 2 (.slice (some ⟨gA, 0, none⟩) (i + 1) cA) (i + 1) (fl uC U ++ [b, v])) (hgA : w4.grownBy wA (Value.slice oP i cP).ownBlock) : WtI L AB base W (i + 1) (.slice (some ⟨gA, 0, none⟩) (i + 1) cA) (U ++ [(b, v)]) wA := by
  have hl := h.len
  refine ⟨h.row.growK hgA (fun e => ?_), by rw [List.length_append, hl]; rfl, ?_, fun k h1 h2 => ?_, ?_⟩
  · have := (World.ownsRow.lt h.want AB e).1
    omega
  · rw [fl_append]; exact hA
  · rw [List.length_append, List.length_singleton] at h1
    by_cases hk : k < U.length
    · rw [List.getElem_append_left hk]
      exact (h.rd k hk h2).growS h.want hgA
    · have e : k = U.length := by omega
      subst e
      have e2 : (U ++ [(b, v)])[U.length] = (b, v) := by simp
      rw [e2]
      have e3 : L[U.length].st = L[i].st := by
        have h9 : ∀ q (hq : q < L.length), q = i → L[q].st = L[i].st := by rintro q hq rfl; rfl
        exact h9 _ h2 hl
      rw [e3]
      exact hcp.growS h.want hgA
  · exact Below.grown (show Below W.heap.size W w4 from h.up) hgA h.up.size (fun k hk => (World.ownsRow.lt h.want k hk).1)

theorem Segs.nil (w : World) : Segs w [] := fun k hk => absurd hk (by simp)
theorem Segs.snoc {w : World} {L : List Seg} {s : Seg} (h : Segs w L) (hs : RSt w s.lo s.hi (.agg #[s.x, s.y]) s.st) (hg : WoolVol.Good FP s.st) : Segs w (L ++ [s]) := by
  intro k hk
  rw [List.length_append, List.length_singleton] at hk
  by_cases h1 : k < L.length
  · rw [List.getElem_append_left h1]; exact h k h1
  · have e : k = L.length := by omega
    subst e
    have e2 : (L ++ [s])[L.length] = s := by simp
    rw [e2]
    exact ⟨hs, hg⟩

theorem Ordd.nil (lo hi : Nat) : Ordd [] lo hi := ⟨fun j k hj => absurd hj (by simp), fun k hk => absurd hk (by simp)⟩
theorem Ordd.snoc {L : List Seg} {s : Seg} {lo m hi : Nat} (h : Ordd L lo m) (h1 : m ≤ s.lo) (h2 : lo ≤ m) (h3 : s.lo ≤ s.hi) (h4 : s.hi ≤ hi) : Ordd (L ++ [s]) lo hi := by
  have e2 : (L ++ [s])[L.length]'(by simp) = s := by simp
  refine ⟨fun j k hj hk hjk => ?_, fun k hk => ?_⟩
  · rw [List.length_append, List.length_singleton] at hj hk
    have hj2 : j < L.length := by omega
    rw [List.getElem_append_left hj2]
    by_cases hk2 : k < L.length
    · rw [List.getElem_append_left hk2]; exact h.1 j k hj2 hk2 hjk
    · have e : k = L.length := by omega
      subst e
      rw [e2]
      exact Nat.le_trans (h.2 j hj2).2 h1
  · rw [List.length_append, List.length_singleton] at hk
    by_cases hk2 : k < L.length
    · rw [List.getElem_append_left hk2]
      have := h.2 k hk2
      omega
    · have e : k = L.length := by omega
      subst e
      rw [e2]
      omega

theorem stateInfo : (Try.prog.info? 31).map (fun i => (i.zero, i.size, i.bytes)) = some (some (.agg #[.slice none 0 0, .slice none 0 0]), 2, 48) := by kernel_rfl
theorem stateInfo' : ∃ i, Try.prog.info? 31 = some i ∧ i.zero = some (.agg #[.slice none 0 0, .slice none 0 0]) ∧ i.size = 2 ∧ i.bytes = 48 := by
  have h := stateInfo
  cases hq : Try.prog.info? 31 with
  | none => rw [hq] at h; cases h
  | some i =>
    rw [hq] at h
    simp only [Option.map_some, Option.some.injEq, Prod.mk.injEq] at h
    exact ⟨i, rfl, h.1, h.2.1, h.2.2⟩

end Go.Proofs.Ytnmdfdkagkpcaaa
