/-
  The texts LawDf, IntE, TxtRow, OpRow, one behind the other; each says below what it holds and on what conditions.
-/
import Derived.Test.YtkobngbjffbjiaaJB45
import Derived.Test.YtkobngbjffbjiaaJB35
import Derived.Test.YtkobngbjffbjiaaJB42
import Derived.Test.YtkobngbjffbjiaaJB07
import Derived.Test.YtkobngbjffbjiaaJB43
import Derived.Test.YtkobngbjffbjiaaJB40
import Derived.Deep.Slices
import Derived.Deep.Fields
import Derived.ChangeSame
import Derived.SizedLaws
import Derived.ChangeOld

/-
  What the laws of differences say, in plain words. Conditions: a valid state.
-/
namespace Go.Proofs.Ytkobngbjffbjiaa
open Go.RowKit
open Go.Proofs
open WoolBag
open WoolVol

theorem dif_G (a b : List Idn) (k : Nat) : dif a b k = difG a b k := rfl

theorem cpL_G (st0 : Sta) (kf L : Nat) (b : List UInt8) : ∀ (z : List Int) (cur : Sta), cpL st0 kf L b cur z = cpLG FP st0 kf L b cur z
  | [], _ => rfl
  | p :: r, cur => by
    show (if p < 0 ∨ (L : Int) ≤ p then (zeroS, 1) else if (cpStep st0 kf b cur p).2 ≠ 0 then (zeroS, (cpStep st0 kf b cur p).2) else cpL st0 kf L b (cpStep st0 kf b cur p).1 r) = (if p < 0 ∨ (L : Int) ≤ p then (zeroS, 1) else if (cpSG FP st0 kf b cur p).2 ≠ 0 then (zeroS, (cpSG FP st0 kf b cur p).2) else cpLG FP st0 kf L b (cpSG FP st0 kf b cur p).1 r)
    rw [cpL_G st0 kf L b r]
    rfl

/-- what differs, and an error, in the shape that a walk meets -/
def DfO (w : World) (r : List Int × Int) (e : Ending) (w' : World) : Prop := ∃ (o : Option Addr) (c base : Nat), e = .returned (.tuple #[.slice o r.1.length c, .int .i64 r.2]) ∧ OInts w' base (.slice o r.1.length c) r.1 ∧ c ≤ maxLen ∧ Up w w'

theorem DfO.of {f : FuncId} {a : Array Value} {w : World} {r : List Int × Int} (h : Calls Try.prog f a w (DfPost w r)) : Calls Try.prog f a w (DfO w r) := by
  refine h.mono ?_
  rintro e w' ⟨v, rfl, h1, h2⟩
  obtain ⟨o, c, rfl, _, hc, _⟩ := h1.shape
  exact ⟨o, c, _, rfl, h1, hc, h2⟩

/-- a deed written out -/
theorem ops_one (w : World) (o : Opn) (h : OpWf o) : Ops (w.alloc (.cells (opC o).toArray 61)) (.slice (some ⟨w.heap.size, 0, none⟩) 1 1) [o] := by
  have := World.ownsRow_lit (base := w.heap.size) (e := 61) (size := 5) w (opC o).toArray 1 (Nat.le_refl w.heap.size) (by unfold maxLen; omega) rfl
  refine ⟨?_, by simpa using h⟩
  have h2 := Sl.of_own this
  exact h2

section
variable {st : Sta}

/-- Diff by places -/
theorem difR_of (g : WoolVol.Good FP st) {a b : List UInt8} {ka kb : Nat} (ha : ka < st.v.length) (hb : kb < st.v.length) (hxa : vix (nmB a) st.v = some ka) (hxb : vix (nmB b) st.v = some kb) :
    difR st a b = if st.v[ka].bl.length ≠ st.v[kb].bl.length then ([], 11) else (difG st.v[ka].bl st.v[kb].bl st.v[ka].bl.length, 0) := by
  have h : bothR st a b = (st.v[ka].bl, st.v[kb].bl, 0) := by
    unfold bothR
    rw [blocks_of g ha hxa, blocks_of g hb hxb]
    rfl
  unfold difR
  rw [h]
  rfl

theorem difR_miss (g : WoolVol.Good FP st) {a b : List UInt8} (h : vix (nmB a) st.v = none ∨ vix (nmB b) st.v = none) : difR st a b = ([], 4) := by
  have h2 : bothR st a b = ([], [], 4) := by
    unfold bothR
    rcases h with h | h
    · rw [blocks_miss g h]
      rfl
    · rw [blocks_miss g h]
      cases hx : vix (nmB a) st.v with
      | none => rw [blocks_miss g hx]; rfl
      | some k =>
        obtain ⟨hk, _⟩ := vix_name hx
        rw [blocks_of g hk hx]
        rfl
  unfold difR
  rw [h2]
  rfl

theorem difR_cases (g : WoolVol.Good FP st) (a b : List UInt8) : (difR st a b = ([], 4) ∧ (vix (nmB a) st.v = none ∨ vix (nmB b) st.v = none)) ∨ ∃ ka kb, ∃ ha : ka < st.v.length, ∃ hb : kb < st.v.length, vix (nmB a) st.v = some ka ∧ vix (nmB b) st.v = some kb ∧
    difR st a b = if st.v[ka].bl.length ≠ st.v[kb].bl.length then ([], 11) else (difG st.v[ka].bl st.v[kb].bl st.v[ka].bl.length, 0) := by
  cases hxa : vix (nmB a) st.v with
  | none => exact .inl ⟨difR_miss g (.inl hxa), .inl rfl⟩
  | some ka =>
    cases hxb : vix (nmB b) st.v with
    | none => exact .inl ⟨difR_miss g (.inr hxb), .inr rfl⟩
    | some kb =>
      obtain ⟨ha, _⟩ := vix_name hxa
      obtain ⟨hb, _⟩ := vix_name hxb
      exact .inr ⟨ka, kb, ha, hb, rfl, rfl, difR_of g ha hb hxa hxb⟩

theorem difR_err (g : WoolVol.Good FP st) (a b : List UInt8) (h : (difR st a b).2 ≠ 0) : (difR st a b).1 = [] := by
  rcases difR_cases g a b with ⟨e, _⟩ | ⟨ka, kb, ha, hb, _, _, e⟩
  · rw [e]
  · rw [e] at h ⊢
    split
    · rfl
    · rename_i h2
      rw [if_neg h2] at h
      exact absurd rfl h

theorem difR_self (g : WoolVol.Good FP st) (a : List UInt8) : (difR st a a).1 = [] := by
  rcases difR_cases g a a with ⟨e, _⟩ | ⟨ka, kb, ha, hb, hxa, hxb, e⟩
  · rw [e]
  · rw [hxa] at hxb
    cases hxb
    rw [e, if_neg (by simp), difG_self]

theorem difR_symm (g : WoolVol.Good FP st) (a b : List UInt8) : difR st a b = difR st b a := by
  rcases difR_cases g a b with ⟨e, h⟩ | ⟨ka, kb, ha, hb, hxa, hxb, e⟩
  · rw [e, difR_miss g h.symm]
  · rw [e, difR_of g hb ha hxb hxa]
    by_cases hl : st.v[ka].bl.length = st.v[kb].bl.length
    · rw [if_neg (by simpa using hl), if_neg (by simpa using hl.symm), difG_symm, hl]
    · rw [if_pos hl, if_pos (fun h => hl h.symm)]

theorem difR_tri (g : WoolVol.Good FP st) (a b c : List UInt8) (h1 : (difR st a b).2 = 0) (h2 : (difR st b c).2 = 0) : ∀ i ∈ (difR st a c).1, i ∈ (difR st a b).1 ∨ i ∈ (difR st b c).1 := by
  rcases difR_cases g a b with ⟨e, _⟩ | ⟨ka, kb, ha, hb, hxa, hxb, e⟩
  · rw [e] at h1; cases h1
  rcases difR_cases g b c with ⟨e2, _⟩ | ⟨kb', kc, hb', hc, hxb', hxc, e2⟩
  · rw [e2] at h2; cases h2
  rw [hxb] at hxb'
  cases hxb'
  rw [e] at h1
  rw [e2] at h2
  by_cases l1 : st.v[ka].bl.length = st.v[kb].bl.length
  · by_cases l2 : st.v[kb].bl.length = st.v[kc].bl.length
    · intro i hi
      rw [difR_of g ha hc hxa hxc, if_neg (by rw [l1, l2]; simp)] at hi
      rw [e, e2, if_neg (by simpa using l1), if_neg (by simpa using l2)]
      have := difG_tri _ st.v[kb].bl _ _ i hi
      rw [l1] at this ⊢
      exact this
    · rw [if_pos l2] at h2; cases h2
  · rw [if_pos l1] at h1; cases h1

/-- what differs, copied -/
theorem copied_law (g : WoolVol.Good FP st) (a b : List UInt8) (h : (difR st a b).2 = 0) : ∃ x, cpR st a b (difR st a b).1 = (x, 0) ∧ WoolVol.Good FP x ∧ difR x a b = ([], 0) ∧ textsG FP x b = textsG FP st a ∧ ∀ c, c ≠ b → textsG FP x c = textsG FP st c := by
  rcases difR_cases g a b with ⟨e, _⟩ | ⟨ka, kb, ha, hb, hxa, hxb, e⟩
  · rw [e] at h; cases h
  by_cases hl : st.v[ka].bl.length = st.v[kb].bl.length
  · rw [if_neg (by simpa using hl)] at e
    obtain ⟨_, x, hx, gx, hlen, hvol, hcp, hoth⟩ := copied (F := FP) (st := st) (kf := ka) (kt := kb) (L := st.v[ka].bl.length) (b := b) g hxb ha hb rfl hl.symm
    have hbo : bothR st a b = (st.v[ka].bl, st.v[kb].bl, 0) := by
      unfold bothR
      rw [blocks_of g ha hxa, blocks_of g hb hxb]
      rfl
    have hvf : (vfind FP st a).1 = ka := by rw [vfind_of g hxa]
    have hxa' := vix_alike hlen hvol hxa
    have hxb' := vix_alike hlen hvol hxb
    have ha' : ka < x.v.length := by omega
    have hb' : kb < x.v.length := by omega
    have la := (hvol ka ha ha').2
    have lb := (hvol kb hb hb').2
    refine ⟨x, ?_, gx, ?_, ?_, fun c hc => ?_⟩
    · unfold cpR
      rw [hbo, if_neg (by simp), hvf, e, cpL_G]
      exact hx
    · rw [difR_of gx ha' hb' hxa' hxb', if_neg (by rw [la, lb]; simpa using hl)]
      have he : ∀ p, p < st.v[ka].bl.length → x.v[ka].bl[p]! = x.v[kb].bl[p]! := by
        intro p hp
        have h1 := (hcp p hp).1
        rw [blk_eq hb' (by rw [lb]; omega), blk_eq ha' (by rw [la]; exact hp)] at h1
        rw [getElem!_pos _ p (by rw [la]; exact hp), getElem!_pos _ p (by rw [lb]; omega)]
        exact h1.symm
      have hn : difG x.v[ka].bl x.v[kb].bl x.v[ka].bl.length = [] := by
        apply Classical.byContradiction
        intro hne
        obtain ⟨i, hi⟩ := List.exists_mem_of_ne_nil _ hne
        have hb2 := difG_bounds _ _ _ i hi
        obtain ⟨p, rfl⟩ := Int.eq_ofNat_of_zero_le hb2.1
        obtain ⟨hp, hd⟩ := (mem_difG _ _ _ p).1 hi
        exact hd (he p (by rw [la] at hp; exact hp))
      rw [hn]
    · rw [textsG_of gx hb' hxb', textsG_of g ha hxa, lb, ← hl]
      exact rdG_congr (fun p hp => (hcp p hp).2)
    · cases hxc : vix (nmB c) st.v with
      | none =>
        have hxc' : vix (nmB c) x.v = none := by
          rw [vix_none] at hxc ⊢
          intro u hu
          obtain ⟨q, hq, rfl⟩ := List.getElem_of_mem hu
          have h9 := hxc _ (List.getElem_mem (show q < st.v.length by omega))
          unfold nmB at h9 ⊢
          rw [(hvol q (by omega) hq).1]
          exact h9
        rw [textsG_miss gx hxc', textsG_miss g hxc]
      | some kc =>
        obtain ⟨hkc, hnc⟩ := vix_name hxc
        have hkc' : kc < x.v.length := by omega
        have hne : kc ≠ kb := by
          rintro rfl
          obtain ⟨_, hnb⟩ := vix_name hxb
          exact hc (hnc.symm.trans hnb)
        rw [textsG_of gx hkc' (vix_alike hlen hvol hxc), textsG_of g hkc hxc, (hvol kc hkc hkc').2]
        exact rdG_congr (fun p hp => hoth kc p hkc hp hne)
  · rw [if_pos hl] at e
    rw [e] at h
    cases h

end

/-- a volume of two holes and its clone -/
theorem metric_start : ∃ s1 s2 : Sta, madeO FP [⟨1, [97], [], 2, []⟩] = s1 ∧ WoolVol.Good FP s1 ∧ clone FP s1 [97] [98] = (s2, 0) ∧ WoolVol.Good FP s2 ∧ difR s2 [97] [98] = ([], 0) := by
  have hn : newE zeroS [97] = 0 := by rfl
  have hm : make FP zeroS [97] 2 = (⟨[], [⟨[97], [noId, noId]⟩]⟩, 0) := by
    unfold make
    rw [chkS_zero.2 zero_good, if_neg (by simp), if_neg (by omega), hn, if_neg (by simp)]
    rfl
  have hd : doO FP zeroS ⟨1, [97], [], 2, []⟩ = (⟨[], [⟨[97], [noId, noId]⟩]⟩, 0) := by
    have hc : chkO ⟨1, [97], [], 2, []⟩ = 0 := by decide
    unfold doO
    rw [hc, if_neg (by simp)]
    exact hm
  have h1 : madeO FP [⟨1, [97], [], 2, []⟩] = ⟨[], [⟨[97], [noId, noId]⟩]⟩ := by
    unfold madeO deeds
    rw [List.take_of_length_le (by simp), List.foldl_cons, List.foldl_nil]
    unfold stepO
    rw [hd, if_pos rfl]
  have g1 : WoolVol.Good FP (⟨[], [⟨[97], [noId, noId]⟩]⟩ : Sta) := by rw [← h1]; exact madeO_good _
  have hx : vix (nmB [97]) (⟨[], [⟨[97], [noId, noId]⟩]⟩ : Sta).v = some 0 := by rfl
  have hc : clone FP ⟨[], [⟨[97], [noId, noId]⟩]⟩ [97] [98] = (⟨[], [⟨[97], [noId, noId]⟩, ⟨[98], [noId, noId]⟩]⟩, 0) := by
    unfold clone
    rw [vfind_of g1 hx, if_neg (by simp)]
    rfl
  have g2 : WoolVol.Good FP (⟨[], [⟨[97], [noId, noId]⟩, ⟨[98], [noId, noId]⟩]⟩ : Sta) := by
    have := clone_goodA (F := FP) ⟨[], [⟨[97], [noId, noId]⟩]⟩ [97] [98]
    rwa [hc] at this
  refine ⟨_, _, h1, g1, hc, g2, ?_⟩
  have hx1 : vix (nmB [97]) (⟨[], [⟨[97], [noId, noId]⟩, ⟨[98], [noId, noId]⟩]⟩ : Sta).v = some 0 := by rfl
  have hx2 : vix (nmB [98]) (⟨[], [⟨[97], [noId, noId]⟩, ⟨[98], [noId, noId]⟩]⟩ : Sta).v = some 1 := by rfl
  have hk : ∀ ka kb, ka = 0 → kb = 1 → ∀ (ha : ka < (⟨[], [⟨[97], [noId, noId]⟩, ⟨[98], [noId, noId]⟩]⟩ : Sta).v.length) (hb : kb < (⟨[], [⟨[97], [noId, noId]⟩, ⟨[98], [noId, noId]⟩]⟩ : Sta).v.length), True := fun _ _ _ _ _ _ => trivial
  rcases difR_cases g2 [97] [98] with ⟨e, h⟩ | ⟨ka, kb, ha, hb, hxa, hxb, e⟩
  · rw [hx1, hx2] at h
    rcases h with h | h <;> cases h
  · rw [hx1] at hxa
    rw [hx2] at hxb
    cases hxa
    cases hxb
    rw [e, if_neg (by simp)]
    exact congrArg (fun l => (l, (0 : Int))) (difG_self [noId, noId] 2)

end Go.Proofs.Ytkobngbjffbjiaa

/-
  slices.Equal of two rows of ints that read alike. Conditions: they can be read.
-/
namespace Go.Proofs.Ytkobngbjffbjiaa
open Go.RowKit
open Go.Proofs
open WoolBag
open WoolVol

theorem inL_at {l : List Int} {k : Nat} (h : k < l.length) : (inL l)[k]? = some (.int .i64 l[k]) := by
  unfold inL; rw [List.getElem?_map, List.getElem?_eq_getElem h]; rfl

set_option maxRecDepth 100000 in
set_option maxHeartbeats 400000 in
theorem equalN_yes (v1 v2 : Value) (l : List Int) (w : World) (h1 : Sl w 1 v1 l.length (inL l)) (h2 : Sl w 1 v2 l.length (inL l)) :
    Calls Try.prog 34 #[v1, v2] w fun e w' => e = .returned (.bool true) ∧ Up w w' := by
  obtain ⟨o1, c1, rfl, p1, p2⟩ := h1.slice
  obtain ⟨o2, c2, rfl, q1, q2⟩ := h2.slice
  have HP := Lib.hid h1
  have HQ := Lib.hid h2
  unfold maxLen at p2 q2
  clear h1 h2
  go_enter Try.func34, Try.ntmps34
  go_wp2_with fail
  go_loopw [13] (fun i wr => EqDRel l.length w i wr) (fun i _ => l.length - (intOf i).toNat)
  case atStart => exact ⟨0, Nat.zero_le _, rfl, Up.refl w⟩
  case round =>
    obtain ⟨k, hk, rfl, hu⟩ := hrel
    by_cases hlt : k < l.length
    · have hne : l.length ≠ 0 := by omega
      obtain ⟨b, off, rfl, h5⟩ := Sl.cells HP.out hne
      obtain ⟨b', off', rfl, h6⟩ := Sl.cells HQ.out hne
      have e1 := h5 k _ (inL_at hlt)
      have f1 := h6 k _ (inL_at hlt)
      rw [← hu.cell (World.block_lt_of_cell? w _ e1)] at e1
      rw [← hu.cell (World.block_lt_of_cell? w _ f1)] at f1
      generalize l[k] = x at e1 f1
      have HU := Lib.hid hu
      have d1 : decide (k < l.length) = true := decide_eq_true hlt
      clear h5 h6 hu hne
      go_wp2_with fail
      go_quiet (fail)
      go_wp2_with fail
      go_roundw
      case rel => exact ⟨k + 1, by omega, by go_num, HU.out.trans (Up.drewN _ _)⟩
      case measure => simp only [intOf]; omega
    · have d1 : decide (k < l.length) = false := decide_eq_false hlt
      go_wp2_with fail
      go_ret
      exact ⟨rfl, hu⟩

end Go.Proofs.Ytkobngbjffbjiaa

/-
  A slice that came in reads as a row of elements (open_rowT); slices of texts and of steps that came in. Conditions: they can be read as data.
-/
namespace Go.Proofs.Ytkobngbjffbjiaa
open Go.RowKit
open Go.Proofs
open Go.ChangeShapes Go.WideShapes Go.Deep
open WoolTree

theorem add_offR (b off j : Nat) : (⟨b, off, none⟩ : Addr).add j = ⟨b, off + j, none⟩ := by
  unfold Addr.add
  split
  · rename_i e; subst e; rfl
  · rfl

theorem cellsStrT : Try.prog.cellsOf 9 = 1 := by kernel_rfl

section
variable {H : Type} {enc : TypeId × Value → H} {w : World} {base : Nat} {spare : Nat → Bool} {held : Bool}

theorem open_rowT {α : Type} [Inhabited α] (f : α → List Value) (Pr : α → Prop) {t e : TypeId} {m : Nat} (hfl : ∀ x, (f x).length = m) (hm0 : 0 < m) (ht : Try.prog.underlying t = some (.slice e)) (hc : Try.prog.cellsOf e = m)
    (hel : ∀ n cs (y : DataW H × List MemPlace), DataW.trod enc Try.prog w base (fun _ => true) held n e cs = some y → ∃ x, cs = f x ∧ Pr x) {fuel : Nat} {cs : List Value} {x : DataW H × List MemPlace}
    (h : DataW.trod enc Try.prog w base (fun _ => true) held fuel t cs = some x) : ∃ (o : Option Addr) (len cap : Nat) (l : List α), cs = [.slice o len cap] ∧ l.length = len ∧ Sl w m (.slice o len cap) l.length (fl f l) ∧ ∀ x ∈ l, Pr x := by
  rcases open_slice ht h with ⟨rfl, _⟩ | ⟨a, len, cap, m', n, D, Pl, rfl, _, hl, hm, hmm, _, hi⟩
  · exact ⟨none, 0, 0, [], rfl, rfl, Sl.nil w m, by simp⟩
  · rw [if_pos rfl] at hmm
    obtain rfl : cap = m' := hmm.symm
    rw [hc] at hi
    have hex : ∀ i, ∃ x : α, i < cap → (Pr x ∧ ∀ j u, (f x)[j]? = some u → w.cell? ((a.add (i * m)).add j) = some u) := by
      intro i
      by_cases hic : i < cap
      · obtain ⟨cs', hc', ht'⟩ := hi i hic
        obtain ⟨x, rfl, hx⟩ := hel _ _ _ ht'
        obtain ⟨_, _, hat⟩ := World.cells?_some hc'
        refine ⟨x, fun _ => ⟨hx, fun j u hu => ?_⟩⟩
        have hj : j < m := by rw [← hfl x]; exact (List.getElem?_eq_some_iff.1 hu).1
        rw [hat j hj]
        exact hu
      · exact ⟨default, fun h => absurd h hic⟩
    obtain ⟨g, hg⟩ := Classical.axiomOfChoice hex
    have hlen : ((List.range len).map g).length = len := by rw [List.length_map, List.length_range]
    refine ⟨some a, len, cap, (List.range len).map g, rfl, hlen, ⟨fl_length hfl _, some a, cap, by rw [hlen], by rw [hlen]; exact hl, hm, ?_⟩, ?_⟩
    · by_cases h0 : len = 0
      · left; rw [hlen]; exact h0
      · right
        obtain ⟨b, off, spot⟩ := a
        have hspot : spot = none := by
          have h00 : 0 < (f (g 0)).length := by rw [hfl]; exact hm0
          have hs0 := (hg 0 (by omega)).2 0 _ (List.getElem?_eq_getElem h00)
          simpa [Addr.add] using World.cell?_spot hs0
        subst hspot
        refine ⟨b, off, rfl, fun j u hu => ?_⟩
        have hjl : j < len * m := by
          have := (List.getElem?_eq_some_iff.1 hu).1
          rwa [fl_length hfl, hlen] at this
        have hk : j / m < len := Nat.div_lt_of_lt_mul (by rw [Nat.mul_comm]; exact hjl)
        have hr : j % m < m := Nat.mod_lt _ hm0
        have hd : j / m * m + j % m = j := by rw [Nat.mul_comm]; exact Nat.div_add_mod j m
        have hk' : j / m < ((List.range len).map g).length := by rw [hlen]; exact hk
        have h1 := fl_get hfl ((List.range len).map g) (j / m) hk' (j % m) hr
        rw [hd, hu] at h1
        have h2 : ((List.range len).map g)[j / m] = g (j / m) := by rw [List.getElem_map, List.getElem_range]
        rw [h2] at h1
        have h3 := (hg (j / m) (by omega)).2 (j % m) u h1.symm
        rw [add_offR, add_offR, Nat.add_assoc, hd] at h3
        exact h3
    · intro x hx
      obtain ⟨i, hi1, rfl⟩ := List.mem_map.1 hx
      rw [List.mem_range] at hi1
      exact (hg i (by omega)).1

theorem txt_cells {n : Nat} {cs : List Value} {y : DataW H × List MemPlace} (h : DataW.trod enc Try.prog w base spare held n 9 cs = some y) : ∃ x : List UInt8, cs = txC x ∧ x.length ≤ 9223372036854775807 := by
  obtain ⟨t, ht, _, ht2⟩ := DataW.trod_string Try.underlying9 h
  subst ht
  refine ⟨t.data.toList, ?_, ?_⟩
  · unfold txC; rw [bs_of]
  · rw [ba_length]; unfold maxLen at ht2; omega

theorem open_texts {fuel : Nat} {cs : List Value} {x : DataW H × List MemPlace} (h : DataW.trod enc Try.prog w base (fun _ => true) held fuel 46 cs = some x) :
    ∃ (o : Option Addr) (len cap : Nat) (l : List (List UInt8)), cs = [.slice o len cap] ∧ Txs w (.slice o len cap) l := by
  obtain ⟨o, len, cap, l, h1, h2, h3, _⟩ := open_rowT txC (fun x => x.length ≤ 9223372036854775807) txC_len (by omega) Try.underlying46 cellsStrT (fun n cs y hy => txt_cells hy) h
  exact ⟨o, len, cap, l, h1, h3⟩

/-- how many places were read -/
theorem texts_data {fuel : Nat} {cs : List Value} {x : DataW H × List MemPlace} (h : DataW.trod enc Try.prog w base (fun _ => true) held fuel 46 cs = some x) :
    ∃ (o : Option Addr) (len cap : Nat), cs = [.slice o len cap] ∧ (cap = 0 ∨ ∃ es sp, x.1 = .slice es sp ∧ es.length + sp.length = cap) := by
  rcases open_slice Try.underlying46 h with ⟨rfl, _⟩ | ⟨a, len, cap, m, n, D, Pl, rfl, _, hl, hm, hmm, hx, hi⟩
  · exact ⟨none, 0, 0, rfl, .inl rfl⟩
  · rw [if_pos rfl] at hmm
    refine ⟨some a, len, cap, rfl, .inr ⟨_, _, congrArg Prod.fst hx, ?_⟩⟩
    rw [List.length_map, List.length_map, List.length_range, List.length_range, hmm]
    omega

theorem bytesStrT : Try.prog.bytesOf 9 = 16 := by kernel_rfl

end

end Go.Proofs.Ytkobngbjffbjiaa

/-
  A slice of deeds that came in, and a deed that came in, read as deeds. Conditions: they can be read as data.
-/
namespace Go.Proofs.Ytkobngbjffbjiaa
open Go.RowKit
open Go.Proofs
open Go.ChangeShapes Go.WideShapes Go.Deep
open WoolVol

theorem cellsOp : Try.prog.cellsOf 61 = 5 := by kernel_rfl
theorem cellsIntO : Try.prog.cellsOf 3 = 1 := by kernel_rfl
theorem cellsStrO : Try.prog.cellsOf 9 = 1 := by kernel_rfl
theorem bytesOp : Try.prog.bytesOf 61 = 64 := by kernel_rfl

section
variable {H : Type} {enc : TypeId × Value → H} {w : World} {base : Nat} {spare : Nat → Bool} {held : Bool}

set_option maxRecDepth 100000 in
theorem op_cells {n : Nat} {cs : List Value} {y : DataW H × List MemPlace} (h : DataW.trod enc Try.prog w base spare held n 61 cs = some y) : ∃ x : Opn, cs = opC x ∧ OpWf x := by
  obtain ⟨xs, m, _, _, hl, hxl, hf⟩ := DataW.trod_struct Try.underlying61 h
  rw [cellsOp] at hl
  match cs, hl with
  | [c0, c1, c2, c3, c4], _ =>
    match xs, hxl with
    | [x0, x1, x2, x3, x4], _ =>
      have f0 : DataW.trod enc Try.prog w base spare held m 3 [c0] = some x0 := by simpa [cellsIntO, cellsStrO] using hf 0 _ rfl
      have f1 : DataW.trod enc Try.prog w base spare held m 9 [c1] = some x1 := by simpa [cellsIntO, cellsStrO] using hf 1 _ rfl
      have f2 : DataW.trod enc Try.prog w base spare held m 9 [c2] = some x2 := by simpa [cellsIntO, cellsStrO] using hf 2 _ rfl
      have f3 : DataW.trod enc Try.prog w base spare held m 3 [c3] = some x3 := by simpa [cellsIntO, cellsStrO] using hf 3 _ rfl
      have f4 : DataW.trod enc Try.prog w base spare held m 9 [c4] = some x4 := by simpa [cellsIntO, cellsStrO] using hf 4 _ rfl
      obtain ⟨k, hk, _, hw0⟩ := DataW.trod_int Try.underlying3 f0
      obtain ⟨t1, ht1, _, hw1⟩ := DataW.trod_string Try.underlying9 f1
      obtain ⟨t2, ht2, _, hw2⟩ := DataW.trod_string Try.underlying9 f2
      obtain ⟨k3, hk3, _, hw3⟩ := DataW.trod_int Try.underlying3 f3
      obtain ⟨t4, ht4, _, hw4⟩ := DataW.trod_string Try.underlying9 f4
      simp at hk ht1 ht2 hk3 ht4
      unfold maxLen at hw1 hw2 hw4
      refine ⟨⟨k, t1.data.toList, t2.data.toList, k3, t4.data.toList⟩, ?_, hw0, ?_, ?_, hw3, ?_⟩
      · unfold opC; rw [hk, ht1, ht2, hk3, ht4, bs_of, bs_of, bs_of]
      · show t1.data.toList.length ≤ _; rw [ba_length]; omega
      · show t2.data.toList.length ≤ _; rw [ba_length]; omega
      · show t4.data.toList.length ≤ _; rw [ba_length]; omega

theorem open_ops {fuel : Nat} {cs : List Value} {x : DataW H × List MemPlace} (h : DataW.trod enc Try.prog w base (fun _ => true) held fuel 22 cs = some x) :
    ∃ (o : Option Addr) (len cap : Nat) (l : List Opn), cs = [.slice o len cap] ∧ Ops w (.slice o len cap) l := by
  obtain ⟨o, len, cap, l, h1, h2, h3, h4⟩ := open_rowT opC OpWf opC_len (by omega) Try.underlying22 cellsOp (fun n cs y hy => op_cells hy) h
  exact ⟨o, len, cap, l, h1, h3, h4⟩

/-- how many places were read -/
theorem ops_data {fuel : Nat} {cs : List Value} {x : DataW H × List MemPlace} (h : DataW.trod enc Try.prog w base (fun _ => true) held fuel 22 cs = some x) :
    ∃ (o : Option Addr) (len cap : Nat), cs = [.slice o len cap] ∧ (cap = 0 ∨ ∃ es sp, x.1 = .slice es sp ∧ es.length + sp.length = cap) := by
  rcases open_slice Try.underlying22 h with ⟨rfl, _⟩ | ⟨a, len, cap, m, n, D, Pl, rfl, _, hl, hm, hmm, hx, hi⟩
  · exact ⟨none, 0, 0, rfl, .inl rfl⟩
  · rw [if_pos rfl] at hmm
    refine ⟨some a, len, cap, rfl, .inr ⟨_, _, congrArg Prod.fst hx, ?_⟩⟩
    rw [List.length_map, List.length_map, List.length_range, List.length_range, hmm]
    omega

set_option maxRecDepth 100000 in
theorem open_op {r : Reach} {b0 : Nat} {v : Value} {d : DataW H} {ps : List MemPlace} (hval : Value.okWide Try.prog w r b0 61 v) (hd : DataW.Trod enc Try.prog w base spare held 61 v d ps) :
    ∃ o : Opn, v = opA o ∧ OpWf o := by
  simp only [Value.okWide, Try.underlying61] at hval
  obtain ⟨cs, rfl, hsz, _⟩ := hval
  obtain ⟨fuel, hf⟩ := hd
  obtain ⟨o, ho, hw⟩ := op_cells hf
  refine ⟨o, ?_, hw⟩
  obtain ⟨l, hcl⟩ : ∃ l, cs = l.toArray := ⟨cs.toList, by simp⟩
  subst hcl
  have e : l = opC o := by simpa [Value.cells] using ho
  subst e
  rfl

end

end Go.Proofs.Ytkobngbjffbjiaa
