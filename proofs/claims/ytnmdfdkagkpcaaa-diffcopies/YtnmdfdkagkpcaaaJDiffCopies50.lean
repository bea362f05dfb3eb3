/-
  What the laws of differences say, in plain words. Conditions: a valid state.
-/
import Derived.Test.YtnmdfdkagkpcaaaJDiffCopies49
import Derived.Test.YtnmdfdkagkpcaaaJDiffCopies42
import Derived.Test.YtnmdfdkagkpcaaaJDiffCopies46
import Derived.Test.YtnmdfdkagkpcaaaJDiffCopies15
namespace Go.Proofs.Ytnmdfdkagkpcaaa
open Go.RowKit
open Go.Proofs
open WoolBag
open WoolVol

theorem dif_G (a b : List Idn) (k : Nat) : dif a b k = difG a b k := rfl

theorem cpL_G (st0 : Sta) (kf L : Nat) (b : List UInt8) : ∀ (z : List Int) (cur : Sta), cpL st0 kf L b cur z = cpLG FP st0 kf L b cur z
  | [], _ => rfl
  | p :: r, cur => by
    show (if p < 0 ∨ (L : Int) ≤ p then (zeroS, 1) else if (cpStep st0 kf b cur p).2 ≠ 0 then (zeroS, (cpStep st0 kf b cur p).2) else cpL st0 kf L b (cpStep st0 kf b cur p).1 r) = (if p < 0 ∨ (L : Int) ≤ p then (zeroS, 1) else if (cpSG FP st0 kf b cur p).2 ≠ 0 then (zeroS, (cpSG FP st0 kf b cur p).2) else cpLG FP st0 kf L b (cpSG FP st0 kf b cur p).1 r)
    rw [cpL_G st0 kf L b r]
    rfl

/-- what differs, and an error, in the shape that a walk meets -/
def DfO (w : World) (r : List Int × Int) (e : Ending) (w' : World) : Prop := ∃ (o : Option Addr) (c base : Nat), e = .returned (.tuple #[.slice o r.1.length c, .int .i64 r.2]) ∧ OInts w' base (.slice o r.1.length c) r.1 ∧ c ≤ maxLen ∧ Up w w'

theorem DfO.of {f : FuncId} {a : Array Value} {w : World} {r : List Int × Int} (h : Calls Try.prog f a w (DfPost w r)) : Calls Try.prog f a w (DfO w r) := by
  refine h.mono ?_
  rintro e w' ⟨v, rfl, h1, h2⟩
  obtain ⟨o, c, rfl, _, hc, _⟩ := h1.shape
  exact ⟨o, c, _, rfl, h1, hc, h2⟩

/-- a deed written out -/
theorem ops_one (w : World) (o : Opn) (h : OpWf o) : Ops (w.alloc (.cells (opC o).toArray 44)) (.slice (some ⟨w.heap.size, 0, none⟩) 1 1) [o] := by
  have := World.ownsRow_lit (base := w.heap.size) (e := 44) (size := 5) w (opC o).toArray 1 (Nat.le_refl w.heap.size) (by unfold maxLen; omega) rfl
  refine ⟨?_, by simpa using h⟩
  have h2 := Sl.of_own this
  exact h2

section
variable {st : Sta}

/-- Diff by places -/
theorem difR_of (g : WoolVol.Good FP st) {a b : List UInt8} {ka kb : Nat} (ha : ka < st.v.length) (hb : kb < st.v.length) (hxa : vix (nmB a) st.v = some ka) (hxb : vix (nmB b) st.v = some kb) :
    difR st a b = if st.v[ka].bl.length ≠ st.v[kb].bl.length then ([], 11) else (difG st.v[ka].bl st.v[kb].bl st.v[ka].bl.length, 0) := by
  have h : bothR st a b = (st.v[ka].bl, st.v[kb].bl, 0) := by
    unfold bothR
    rw [blocks_of g ha hxa, blocks_of g hb hxb]
    rfl
  unfold difR
  rw [h]
  rfl

theorem difR_miss (g : WoolVol.Good FP st) {a b : List UInt8} (h : vix (nmB a) st.v = none ∨ vix (nmB b) st.v = none) : difR st a b = ([], 4) := by
  have h2 : bothR st a b = ([], [], 4) := by
    unfold bothR
    rcases h with h | h
    · rw [blocks_miss g h]
      rfl
    · rw [blocks_miss g h]
      cases hx : vix (nmB a) st.v with
      | none => rw [blocks_miss g hx]; rfl
      | some k =>
        obtain ⟨hk, _⟩ := vix_name hx
        rw [blocks_of g hk hx]
        rfl
  unfold difR
  rw [h2]
  rfl

theorem difR_cases (g : WoolVol.Good FP st) (a b : List UInt8) : (difR st a b = ([], 4) ∧ (vix (nmB a) st.v = none ∨ vix (nmB b) st.v = none)) ∨ ∃ ka kb, ∃ ha : ka < st.v.length, ∃ hb : kb < st.v.length, vix (nmB a) st.v = some ka ∧ vix (nmB b) st.v = some kb ∧
    difR st a b = if st.v[ka].bl.length ≠ st.v[kb].bl.length then ([], 11) else (difG st.v[ka].bl st.v[kb].bl st.v[ka].bl.length, 0) := by
  cases hxa : vix (nmB a) st.v with
  | none => exact .inl ⟨difR_miss g (.inl hxa), .inl rfl⟩
  | some ka =>
    cases hxb : vix (nmB b) st.v with
    | none => exact .inl ⟨difR_miss g (.inr hxb), .inr rfl⟩
    | some kb =>
      obtain ⟨ha, _⟩ := vix_name hxa
      obtain ⟨hb, _⟩ := vix_name hxb
      exact .inr ⟨ka, kb, ha, hb, rfl, rfl, difR_of g ha hb hxa hxb⟩

theorem difR_err (g : WoolVol.Good FP st) (a b : List UInt8) (h : (difR st a b).2 ≠ 0) : (difR st a b).1 = [] := by
  rcases difR_cases g a b with ⟨e, _⟩ | ⟨ka, kb, ha, hb, _, _, e⟩
  · rw [e]
  · rw [e] at h ⊢
    split
    · rfl
    · rename_i h2
      rw [if_neg h2] at h
      exact absurd rfl h

theorem difR_self (g : WoolVol.Good FP st) (a : List UInt8) : (difR st a a).1 = [] := by
  rcases difR_cases g a a with ⟨e, _⟩ | ⟨ka, kb, ha, hb, hxa, hxb, e⟩
  · rw [e]
  · rw [hxa] at hxb
    cases hxb
    rw [e, if_neg (by simp), difG_self]

theorem difR_symm (g : WoolVol.Good FP st) (a b : List UInt8) : difR st a b = difR st b a := by
  rcases difR_cases g a b with ⟨e, h⟩ | ⟨ka, kb, ha, hb, hxa, hxb, e⟩
  · rw [e, difR_miss g h.symm]
  · rw [e, difR_of g hb ha hxb hxa]
    by_cases hl : st.v[ka].bl.length = st.v[kb].bl.length
    · rw [if_neg (by simpa using hl), if_neg (by simpa using hl.symm), difG_symm, hl]
    · rw [if_pos hl, if_pos (fun h => hl h.symm)]

theorem difR_tri (g : WoolVol.Good FP st) (a b c : List UInt8) (h1 : (difR st a b).2 = 0) (h2 : (difR st b c).2 = 0) : ∀ i ∈ (difR st a c).1, i ∈ (difR st a b).1 ∨ i ∈ (difR st b c).1 := by
  rcases difR_cases g a b with ⟨e, _⟩ | ⟨ka, kb, ha, hb, hxa, hxb, e⟩
  · rw [e] at h1; cases h1
  rcases difR_cases g b c with ⟨e2, _⟩ | ⟨kb', kc, hb', hc, hxb', hxc, e2⟩
  · rw [e2] at h2; cases h2
  rw [hxb] at hxb'
  cases hxb'
  rw [e] at h1
  rw [e2] at h2
  by_cases l1 : st.v[ka].bl.length = st.v[kb].bl.length
  · by_cases l2 : st.v[kb].bl.length = st.v[kc].bl.length
    · intro i hi
      rw [difR_of g ha hc hxa hxc, if_neg (by rw [l1, l2]; simp)] at hi
      rw [e, e2, if_neg (by simpa using l1), if_neg (by simpa using l2)]
      have := difG_tri _ st.v[kb].bl _ _ i hi
      rw [l1] at this ⊢
      exact this
    · rw [if_pos l2] at h2; cases h2
  · rw [if_pos l1] at h1; cases h1

/-- what differs, copied -/
theorem copied_law (g : WoolVol.Good FP st) (a b : List UInt8) (h : (difR st a b).2 = 0) : ∃ x, cpR st a b (difR st a b).1 = (x, 0) ∧ WoolVol.Good FP x ∧ difR x a b = ([], 0) ∧ textsG FP x b = textsG FP st a ∧ ∀ c, c ≠ b → textsG FP x c = textsG FP st c := by
  rcases difR_cases g a b with ⟨e, _⟩ | ⟨ka, kb, ha, hb, hxa, hxb, e⟩
  · rw [e] at h; cases h
  by_cases hl : st.v[ka].bl.length = st.v[kb].bl.length
  · rw [if_neg (by simpa using hl)] at e
    obtain ⟨_, x, hx, gx, hlen, hvol, hcp, hoth⟩ := copied (F := FP) (st := st) (kf := ka) (kt := kb) (L := st.v[ka].bl.length) (b := b) g hxb ha hb rfl hl.symm
    have hbo : bothR st a b = (st.v[ka].bl, st.v[kb].bl, 0) := by
      unfold bothR
      rw [blocks_of g ha hxa, blocks_of g hb hxb]
      rfl
    have hvf : (vfind FP st a).1 = ka := by rw [vfind_of g hxa]
    have hxa' := vix_alike hlen hvol hxa
    have hxb' := vix_alike hlen hvol hxb
    have ha' : ka < x.v.length := by omega
    have hb' : kb < x.v.length := by omega
    have la := (hvol ka ha ha').2
    have lb := (hvol kb hb hb').2
    refine ⟨x, ?_, gx, ?_, ?_, fun c hc => ?_⟩
    · unfold cpR
      rw [hbo, if_neg (by simp), hvf, e, cpL_G]
      exact hx
    · rw [difR_of gx ha' hb' hxa' hxb', if_neg (by rw [la, lb]; simpa using hl)]
      have he : ∀ p, p < st.v[ka].bl.length → x.v[ka].bl[p]! = x.v[kb].bl[p]! := by
        intro p hp
        have h1 := (hcp p hp).1
        rw [blk_eq hb' (by rw [lb]; omega), blk_eq ha' (by rw [la]; exact hp)] at h1
        rw [getElem!_pos _ p (by rw [la]; exact hp), getElem!_pos _ p (by rw [lb]; omega)]
        exact h1.symm
      have hn : difG x.v[ka].bl x.v[kb].bl x.v[ka].bl.length = [] := by
        apply Classical.byContradiction
        intro hne
        obtain ⟨i, hi⟩ := List.exists_mem_of_ne_nil _ hne
        have hb2 := difG_bounds _ _ _ i hi
        obtain ⟨p, rfl⟩ := Int.eq_ofNat_of_zero_le hb2.1
        obtain ⟨hp, hd⟩ := (mem_difG _ _ _ p).1 hi
        exact hd (he p (by rw [la] at hp; exact hp))
      rw [hn]
    · rw [textsG_of gx hb' hxb', textsG_of g ha hxa, lb, ← hl]
      exact rdG_congr (fun p hp => (hcp p hp).2)
    · cases hxc : vix (nmB c) st.v with
      | none =>
        have hxc' : vix (nmB c) x.v = none := by
          rw [vix_none] at hxc ⊢
          intro u hu
          obtain ⟨q, hq, rfl⟩ := List.getElem_of_mem hu
          have h9 := hxc _ (List.getElem_mem (show q < st.v.length by omega))
          unfold nmB at h9 ⊢
          rw [(hvol q (by omega) hq).1]
          exact h9
        rw [textsG_miss gx hxc', textsG_miss g hxc]
      | some kc =>
        obtain ⟨hkc, hnc⟩ := vix_name hxc
        have hkc' : kc < x.v.length := by omega
        have hne : kc ≠ kb := by
          rintro rfl
          obtain ⟨_, hnb⟩ := vix_name hxb
          exact hc (hnc.symm.trans hnb)
        rw [textsG_of gx hkc' (vix_alike hlen hvol hxc), textsG_of g hkc hxc, (hvol kc hkc hkc').2]
        exact rdG_congr (fun p hp => hoth kc p hkc hp hne)
  · rw [if_pos hl] at e
    rw [e] at h
    cases h

end

/-- a volume of two holes and its clone -/
theorem metric_start : ∃ s1 s2 : Sta, madeO FP [⟨1, [97], [], 2, []⟩] = s1 ∧ WoolVol.Good FP s1 ∧ clone FP s1 [97] [98] = (s2, 0) ∧ WoolVol.Good FP s2 ∧ difR s2 [97] [98] = ([], 0) := by
  have hn : newE zeroS [97] = 0 := by rfl
  have hm : make FP zeroS [97] 2 = (⟨[], [⟨[97], [noId, noId]⟩]⟩, 0) := by
    unfold make
    rw [chkS_zero.2 zero_good, if_neg (by simp), if_neg (by omega), hn, if_neg (by simp)]
    rfl
  have hd : doO FP zeroS ⟨1, [97], [], 2, []⟩ = (⟨[], [⟨[97], [noId, noId]⟩]⟩, 0) := by
    have hc : chkO ⟨1, [97], [], 2, []⟩ = 0 := by decide
    unfold doO
    rw [hc, if_neg (by simp)]
    exact hm
  have h1 : madeO FP [⟨1, [97], [], 2, []⟩] = ⟨[], [⟨[97], [noId, noId]⟩]⟩ := by
    unfold madeO deeds
    rw [List.take_of_length_le (by simp), List.foldl_cons, List.foldl_nil]
    unfold stepO
    rw [hd, if_pos rfl]
  have g1 : WoolVol.Good FP (⟨[], [⟨[97], [noId, noId]⟩]⟩ : Sta) := by rw [← h1]; exact madeO_good _
  have hx : vix (nmB [97]) (⟨[], [⟨[97], [noId, noId]⟩]⟩ : Sta).v = some 0 := by rfl
  have hc : clone FP ⟨[], [⟨[97], [noId, noId]⟩]⟩ [97] [98] = (⟨[], [⟨[97], [noId, noId]⟩, ⟨[98], [noId, noId]⟩]⟩, 0) := by
    unfold clone
    rw [vfind_of g1 hx, if_neg (by simp)]
    rfl
  have g2 : WoolVol.Good FP (⟨[], [⟨[97], [noId, noId]⟩, ⟨[98], [noId, noId]⟩]⟩ : Sta) := by
    have := clone_goodA (F := FP) ⟨[], [⟨[97], [noId, noId]⟩]⟩ [97] [98]
    rwa [hc] at this
  refine ⟨_, _, h1, g1, hc, g2, ?_⟩
  have hx1 : vix (nmB [97]) (⟨[], [⟨[97], [noId, noId]⟩, ⟨[98], [noId, noId]⟩]⟩ : Sta).v = some 0 := by rfl
  have hx2 : vix (nmB [98]) (⟨[], [⟨[97], [noId, noId]⟩, ⟨[98], [noId, noId]⟩]⟩ : Sta).v = some 1 := by rfl
  have hk : ∀ ka kb, ka = 0 → kb = 1 → ∀ (ha : ka < (⟨[], [⟨[97], [noId, noId]⟩, ⟨[98], [noId, noId]⟩]⟩ : Sta).v.length) (hb : kb < (⟨[], [⟨[97], [noId, noId]⟩, ⟨[98], [noId, noId]⟩]⟩ : Sta).v.length), True := fun _ _ _ _ _ _ => trivial
  rcases difR_cases g2 [97] [98] with ⟨e, h⟩ | ⟨ka, kb, ha, hb, hxa, hxb, e⟩
  · rw [hx1, hx2] at h
    rcases h with h | h <;> cases h
  · rw [hx1] at hxa
    rw [hx2] at hxb
    cases hxa
    cases hxb
    rw [e, if_neg (by simp)]
    exact congrArg (fun l => (l, (0 : Int))) (difG_self [noId, noId] 2)

end Go.Proofs.Ytnmdfdkagkpcaaa
