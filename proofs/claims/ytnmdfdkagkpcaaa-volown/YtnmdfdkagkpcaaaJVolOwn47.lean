/-
  The texts VolR, IntsB, one behind the other; each says below what it holds and on what conditions.
-/
import Derived.Test.YtnmdfdkagkpcaaaJVolOwn10
import Derived.Test.YtnmdfdkagkpcaaaJVolOwn38
import Derived.Test.YtnmdfdkagkpcaaaJVolOwn21

/-
  Copying block by block, in plain words. Conditions: as each says.
-/
namespace Go.Proofs.Ytnmdfdkagkpcaaa
open Go.RowKit
open Go.Proofs
open WoolBag
open WoolVol

theorem trim_step {st : Sta} {s : List UInt8} {a : Int} (h : (trim FP st s a).2 = 0) : ∃ k j : Nat, a = (j : Int) ∧ k < st.v.length ∧ vix (nmB s) st.v = some k ∧ Keeps FP st (trim FP st s a).1 k j none := by
  have hvl : (vloc FP st s a).2 = 0 := by
    apply Classical.byContradiction
    intro hne
    rw [trim_no hne] at h
    exact hne h
  obtain ⟨hg, k, hk, j, rfl, hj, hf, _, hx⟩ := vloc_ok hvl
  refine ⟨k, j, rfl, hk, hx, ?_⟩
  rw [trim_yes hk hj hf]
  exact trim_keeps hg hk hj

theorem write_step {st : Sta} {s t : List UInt8} {a : Int} (h : (write FP st s a t).2 = 0) : ∃ k j : Nat, a = (j : Int) ∧ k < st.v.length ∧ vix (nmB s) st.v = some k ∧ Keeps FP st (write FP st s a t).1 k j (some t) := by
  have ht : (trim FP st s a).2 = 0 := by
    apply Classical.byContradiction
    intro hne
    rw [write_no hne] at h
    exact hne h
  have hvl : (vloc FP st s a).2 = 0 := by
    apply Classical.byContradiction
    intro hne
    rw [trim_no hne] at ht
    exact hne ht
  have hp : (WoolBag.put FP (trim FP st s a).1.b t).2.2 = 0 := by
    apply Classical.byContradiction
    intro hne
    rw [write_full ht hne] at h
    exact hne h
  obtain ⟨hg, k, hk, j, rfl, hj, hf, _, hx⟩ := vloc_ok hvl
  refine ⟨k, j, rfl, hk, hx, ?_⟩
  rw [write_yes ht hp, hf]
  rw [trim_yes hk hj hf] at hp ⊢
  simp only [Int.toNat_natCast]
  exact write_keeps hg hk hj (t := t) (Prod.ext rfl (Prod.ext rfl hp))

theorem read_tx {st : Sta} {s : List UInt8} {k j : Nat} (g : WoolVol.Good FP st) (hk : k < st.v.length) (hj : j < st.v[k].bl.length) (h : vloc FP st s (j : Int) = (k, 0)) : WoolVol.read FP st s (j : Int) = ((txAt st k j).getD [], 0) := by
  unfold WoolVol.read
  rw [h, if_neg (by simp)]
  simp only [Int.toNat_natCast]
  exact get_tx g hk hj

/-- one block copied, from the texts of the first state -/
def cpStep (st0 : Sta) (kf : Nat) (b : List UInt8) (cur : Sta) (p : Int) : Sta × Int :=
  match txAt st0 kf p.toNat with
  | some t => write FP cur b p t
  | none => trim FP cur b p

/-- blocks copied, one behind the other -/
def cpL (st0 : Sta) (kf L : Nat) (b : List UInt8) : Sta → List Int → Sta × Int
  | cur, [] => (cur, 0)
  | cur, p :: r => if p < 0 ∨ (L : Int) ≤ p then (zeroS, 1) else if (cpStep st0 kf b cur p).2 ≠ 0 then (zeroS, (cpStep st0 kf b cur p).2) else cpL st0 kf L b (cpStep st0 kf b cur p).1 r

/-- a state that copying leaves -/
structure CpI (st0 : Sta) (kf : Nat) (cur : Sta) : Prop where
  good : WoolVol.Good FP cur
  len : cur.v.length = st0.v.length
  vol : ∀ q (h : q < st0.v.length) (h' : q < cur.v.length), cur.v[q].nm = st0.v[q].nm ∧ cur.v[q].bl.length = st0.v[q].bl.length
  txt : ∀ p (h : kf < st0.v.length), p < st0.v[kf].bl.length → txAt cur kf p = txAt st0 kf p

theorem CpI.first {st0 : Sta} (g : WoolVol.Good FP st0) (kf : Nat) : CpI st0 kf st0 := ⟨g, rfl, fun _ _ _ => ⟨rfl, rfl⟩, fun _ _ _ => rfl⟩

theorem CpI.keeps {st0 cur cur' : Sta} {kf k j : Nat} (h : CpI st0 kf cur) (hk : Keeps FP cur cur' k j (txAt st0 kf j)) : CpI st0 kf cur' := by
  refine ⟨hk.good, hk.len.trans h.len, fun q hq hq' => ?_, fun p hkf hp => ?_⟩
  · have hqc : q < cur.v.length := by rw [h.len]; exact hq
    exact ⟨(hk.vol q hqc hq').1.trans (h.vol q hq hqc).1, (hk.vol q hqc hq').2.trans (h.vol q hq hqc).2⟩
  · have hqc : kf < cur.v.length := by rw [h.len]; exact hkf
    rw [hk.txt kf p hqc (by rw [(h.vol kf hkf hqc).2]; exact hp), h.txt p hkf hp]
    by_cases e : kf = k ∧ p = j
    · rw [if_pos e, e.2]
    · rw [if_neg e]

theorem CpI.step {st0 cur : Sta} {kf : Nat} {b : List UInt8} {p : Int} (h : CpI st0 kf cur) (h0 : (cpStep st0 kf b cur p).2 = 0) : CpI st0 kf (cpStep st0 kf b cur p).1 := by
  unfold cpStep at h0 ⊢
  cases e : txAt st0 kf p.toNat with
  | none =>
    rw [e] at h0
    obtain ⟨k, j, rfl, _, _, hk⟩ := trim_step h0
    rw [Int.toNat_natCast] at e
    rw [← e] at hk
    exact h.keeps hk
  | some t =>
    rw [e] at h0
    obtain ⟨k, j, rfl, _, _, hk⟩ := write_step h0
    rw [Int.toNat_natCast] at e
    rw [← e] at hk
    exact h.keeps hk

theorem CpI.vix {st0 cur : Sta} {kf : Nat} (h : CpI st0 kf cur) {s : List UInt8} {k : Nat} (hx : vix (nmB s) st0.v = some k) : vix (nmB s) cur.v = some k := by
  obtain ⟨h1, h2, h3⟩ := vix_some hx
  have hl : ∀ q (hq : q < st0.v.length), nmB s (cur.v[q]'(by rw [h.len]; exact hq)) = nmB s st0.v[q] := by
    intro q hq
    unfold nmB
    rw [(h.vol q hq (by rw [h.len]; exact hq)).1]
  refine vix_of (by rw [h.len]; exact h1) (by rw [hl k h1]; exact h2) (fun j hj => by rw [hl j (by omega)]; exact h3 j hj)

/-- the text that Copy reads anew is the first state's -/
theorem CpI.read {st0 cur : Sta} {kf j : Nat} (h : CpI st0 kf cur) {s : List UInt8} (hx : WoolVol.vix (nmB s) st0.v = some kf) (hk : kf < st0.v.length) (hj : j < st0.v[kf].bl.length) : WoolVol.read FP cur s (j : Int) = ((txAt st0 kf j).getD [], 0) := by
  have hkc : kf < cur.v.length := by rw [h.len]; exact hk
  have hjc : j < cur.v[kf].bl.length := by rw [(h.vol kf hk hkc).2]; exact hj
  have hc : chkS FP cur = 0 := chkS_zero.2 h.good
  have hf : vfind FP cur s = (kf, 0) := by
    unfold vfind; rw [if_neg (by simpa using hc), h.vix hx]
  have hl : vloc FP cur s (j : Int) = (kf, 0) := by
    unfold vloc
    rw [hf, if_neg (by simp)]
    simp only
    rw [getElem!_pos cur.v kf hkc, if_neg (by omega)]
  rw [read_tx h.good hkc hjc hl, h.txt j hk hj]

end Go.Proofs.Ytnmdfdkagkpcaaa

/-
  Slices of ints that the call owns; what slices.Contains (of ints) returns of them. Conditions: as each says.
-/
namespace Go.Proofs.Ytnmdfdkagkpcaaa
open Go.RowKit
open Go.Proofs

def inL (l : List Int) : List Value := l.map (Value.int .i64)
theorem inL_length (l : List Int) : (inL l).length = l.length := List.length_map _
theorem inL_one (l : List Int) : ∀ u ∈ inL l, u.oneCell' = true := by
  intro u hu
  obtain ⟨x, _, rfl⟩ := List.mem_map.1 hu
  rfl

theorem inInfo : ∃ i, Try.prog.info? 3 = some i ∧ i.zero = some (.int .i64 0) ∧ i.size = 1 ∧ i.bytes = 8 := by
  have h : (Try.prog.info? 3).map (fun i => (i.zero, i.size, i.bytes)) = some (some (.int .i64 0), 1, 8) := by kernel_rfl
  cases hq : Try.prog.info? 3 with
  | none => rw [hq] at h; cases h
  | some i =>
    rw [hq] at h
    simp only [Option.map_some, Option.some.injEq, Prod.mk.injEq] at h
    exact ⟨i, rfl, h.1, h.2.1, h.2.2⟩

/-- a slice of ints of the call's own -/
def OInts (w : World) (base : Nat) (v : Value) (l : List Int) : Prop := w.ownsRow base 3 1 v l.length (inL l)

theorem OInts.nil (w : World) (base : Nat) : OInts w base (.slice none 0 0) [] := World.ownsRow_nil _ _ _ _
theorem OInts.keep {w w' : World} {base : Nat} {v : Value} {l : List Int} (h : OInts w base v l) (hu : ∀ b, v.ownBlock = some b → w'.heap[b]? = w.heap[b]?) : OInts w' base v l := by
  refine ⟨h.1, ?_⟩
  rcases h.2 with h | ⟨g, cap, cur, rfl, h2, h3, h4⟩
  · exact .inl h
  · exact .inr ⟨g, cap, cur, rfl, h2, (hu g rfl).trans h3, h4⟩
theorem OInts.up {w w' : World} {base : Nat} {v : Value} {l : List Int} (h : OInts w base v l) (hu : Up w w') : OInts w' base v l :=
  h.keep fun b hb => hu.block b (World.ownsRow.lt h b hb).2
theorem OInts.shape {w : World} {base : Nat} {v : Value} {l : List Int} (h : OInts w base v l) : ∃ o c, v = .slice o l.length c ∧ l.length ≤ c ∧ c ≤ maxLen ∧ (l = [] ∨ ∃ g, o = some ⟨g, 0, none⟩ ∧ ∀ k (hk : k < l.length), w.cell? ⟨g, 0 + k * 1, none⟩ = some (.int .i64 l[k])) := by
  have h' := h
  rcases h.2 with ⟨rfl, h0⟩ | ⟨g, cap, cur, rfl, _, _, h3, h4, _⟩
  · have : l = [] := List.eq_nil_of_length_eq_zero h0
    subst this
    exact ⟨none, 0, rfl, Nat.le_refl _, by unfold maxLen; omega, .inl rfl⟩
  · refine ⟨_, cap, rfl, h3, h4, .inr ⟨g, rfl, fun k hk => ?_⟩⟩
    have := World.ownsRow.cellAt h' k (by omega)
    rw [Nat.zero_add, Nat.mul_one, this]
    unfold inL
    rw [List.getElem?_map, List.getElem?_eq_getElem hk]
    rfl

def IdxIRel (l : List Int) (z : Int) (w : World) (i : Value) (wr : World) : Prop :=
  ∃ k : Nat, k ≤ l.length ∧ i = .int .i64 k ∧ Up w wr ∧ ∀ j (h : j < l.length), j < k → l[j] ≠ z

/-- what slices.Index says of whether it is there -/
def IdxIPost (l : List Int) (z : Int) (w : World) (e : Ending) (w' : World) : Prop := ∃ r : Int, e = .returned (.int .i64 r) ∧ decide (0 ≤ r) = l.contains z ∧ Up w w'

set_option maxRecDepth 100000 in
set_option maxHeartbeats 400000 in
theorem indexInt (v : Value) (base : Nat) (l : List Int) (z : Int) (w : World) (h : OInts w base v l) :
    Calls Try.prog 45 #[v, .int .i64 z] w (IdxIPost l z w) := by
  obtain ⟨o, c, rfl, h2, h3, h4⟩ := h.shape
  unfold maxLen at h3
  have H4 := Lib.hid h4
  clear h4 h
  go_enter Try.func45, Try.ntmps45
  go_wp2_with fail
  go_loopw [5, 8] (fun _ i wr => IdxIRel l z w i wr) (fun _ i _ => l.length - (intOf i).toNat)
  case atStart => exact ⟨0, Nat.zero_le _, rfl, Up.refl w, fun j _ hj => by omega⟩
  case round =>
    obtain ⟨k, hk, rfl, hu, hno⟩ := hrel
    have HN := Lib.hid hno
    clear hno
    by_cases hlt : k < l.length
    · rcases H4.out with h5 | ⟨g, rfl, h5⟩
      · rw [h5] at hlt; simp at hlt
      · have a1 := h5 k hlt
        rw [← hu.cell (World.block_lt_of_cell? w _ a1)] at a1
        have d1 : decide (k < l.length) = true := decide_eq_true hlt
        obtain ⟨y, hy⟩ : ∃ y, l[k] = y := ⟨_, rfl⟩
        rw [hy] at a1
        simp only [Nat.zero_add, Nat.mul_one] at a1
        have HY := Lib.hid hy
        have HU := Lib.hid hu
        clear h5 hy hu
        by_cases e : z = y
        · subst e
          go_wp2_with fail
          all_goals try go_quiet (fail)
          all_goals
            go_wp2_with fail
            go_ret
            refine ⟨(k : Int), rfl, ?_, by first | exact HU.out | exact HU.out.trans (Up.drewN _ _)⟩
            have hc : l.contains z = true := List.contains_iff_mem.2 (by rw [← HY.out]; exact List.getElem_mem hlt)
            rw [hc]
            simp
        · have e1 : (z == y) = false := by simpa using e
          have e2 : (y == z) = false := by simpa using fun h => e h.symm
          have HE := Lib.hid e
          clear e
          go_wp2_with fail
          all_goals try go_quiet (fail)
          all_goals
            go_wp2_with fail
            go_roundw
            case rel =>
              refine ⟨k + 1, by omega, by go_num, by first | exact HU.out | exact HU.out.trans (Up.drewN _ _), fun j hj hjk => ?_⟩
              by_cases ej : j = k
              · subst ej; rw [HY.out]; exact fun h => HE.out h.symm
              · exact HN.out j hj (by omega)
            case measure => simp only [intOf]; omega
    · have d1 : decide (k < l.length) = false := decide_eq_false hlt
      have HU := Lib.hid hu
      clear hu
      go_wp2_with fail
      go_ret
      refine ⟨-1, rfl, ?_, HU.out⟩
      have hc : l.contains z = false := by
        rw [Bool.eq_false_iff]
        intro h
        obtain ⟨i, hi, e⟩ := List.getElem_of_mem (List.contains_iff_mem.1 h)
        exact HN.out i hi (by omega) e
      rw [hc]; rfl

set_option maxRecDepth 100000 in
theorem containsInt (v : Value) (base : Nat) (l : List Int) (z : Int) (w : World) (h : OInts w base v l) :
    Calls Try.prog 17 #[v, .int .i64 z] w fun e w' => e = .returned (.bool (l.contains z)) ∧ Up w w' := by
  obtain ⟨o, c, hv, _⟩ := h.shape
  have hcall := indexInt v base l z w h
  generalize hq : l.contains z = q at hcall ⊢
  have HQ := Lib.hid hq
  subst hv
  clear h hq
  go_enter Try.func17, Try.ntmps17
  go_wp2_with fail
  refine hcall.mono ?_
  rintro e w1 ⟨r, rfl, hr, u1⟩
  rw [HQ.out] at hr
  have HR := Lib.hid hr
  clear hr
  go_wp2_with fail
  go_ret
  exact ⟨by rw [← HR.out]; rfl, u1⟩

end Go.Proofs.Ytnmdfdkagkpcaaa
