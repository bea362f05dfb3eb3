/-
  Copying block by block, in plain words. Conditions: as each says.
-/
import Derived.Test.YtjmmifanaffegaaVolQ
import Derived.Test.YtjmmifanaffegaaVolK
namespace Go.Proofs.Ytjmmifanaffegaa
open Go.RowKit
open Go.Proofs
open WoolBag
open WoolVol

theorem trim_step {st : Sta} {s : List UInt8} {a : Int} (h : (trim FP st s a).2 = 0) : ∃ k j : Nat, a = (j : Int) ∧ k < st.v.length ∧ vix (nmB s) st.v = some k ∧ Keeps FP st (trim FP st s a).1 k j none := by
  have hvl : (vloc FP st s a).2 = 0 := by
    apply Classical.byContradiction
    intro hne
    rw [trim_no hne] at h
    exact hne h
  obtain ⟨hg, k, hk, j, rfl, hj, hf, _, hx⟩ := vloc_ok hvl
  refine ⟨k, j, rfl, hk, hx, ?_⟩
  rw [trim_yes hk hj hf]
  exact trim_keeps hg hk hj

theorem write_step {st : Sta} {s t : List UInt8} {a : Int} (h : (write FP st s a t).2 = 0) : ∃ k j : Nat, a = (j : Int) ∧ k < st.v.length ∧ vix (nmB s) st.v = some k ∧ Keeps FP st (write FP st s a t).1 k j (some t) := by
  have ht : (trim FP st s a).2 = 0 := by
    apply Classical.byContradiction
    intro hne
    rw [write_no hne] at h
    exact hne h
  have hvl : (vloc FP st s a).2 = 0 := by
    apply Classical.byContradiction
    intro hne
    rw [trim_no hne] at ht
    exact hne ht
  have hp : (WoolBag.put FP (trim FP st s a).1.b t).2.2 = 0 := by
    apply Classical.byContradiction
    intro hne
    rw [write_full ht hne] at h
    exact hne h
  obtain ⟨hg, k, hk, j, rfl, hj, hf, _, hx⟩ := vloc_ok hvl
  refine ⟨k, j, rfl, hk, hx, ?_⟩
  rw [write_yes ht hp, hf]
  rw [trim_yes hk hj hf] at hp ⊢
  simp only [Int.toNat_natCast]
  exact write_keeps hg hk hj (t := t) (Prod.ext rfl (Prod.ext rfl hp))

theorem read_tx {st : Sta} {s : List UInt8} {k j : Nat} (g : WoolVol.Good FP st) (hk : k < st.v.length) (hj : j < st.v[k].bl.length) (h : vloc FP st s (j : Int) = (k, 0)) : WoolVol.read FP st s (j : Int) = ((txAt st k j).getD [], 0) := by
  unfold WoolVol.read
  rw [h, if_neg (by simp)]
  simp only [Int.toNat_natCast]
  exact get_tx g hk hj

/-- one block copied, from the texts of the first state -/
def cpStep (st0 : Sta) (kf : Nat) (b : List UInt8) (cur : Sta) (p : Int) : Sta × Int :=
  match txAt st0 kf p.toNat with
  | some t => write FP cur b p t
  | none => trim FP cur b p

/-- blocks copied, one behind the other -/
def cpL (st0 : Sta) (kf L : Nat) (b : List UInt8) : Sta → List Int → Sta × Int
  | cur, [] => (cur, 0)
  | cur, p :: r => if p < 0 ∨ (L : Int) ≤ p then (zeroS, 1) else if (cpStep st0 kf b cur p).2 ≠ 0 then (zeroS, (cpStep st0 kf b cur p).2) else cpL st0 kf L b (cpStep st0 kf b cur p).1 r

/-- a state that copying leaves -/
structure CpI (st0 : Sta) (kf : Nat) (cur : Sta) : Prop where
  good : WoolVol.Good FP cur
  len : cur.v.length = st0.v.length
  vol : ∀ q (h : q < st0.v.length) (h' : q < cur.v.length), cur.v[q].nm = st0.v[q].nm ∧ cur.v[q].bl.length = st0.v[q].bl.length
  txt : ∀ p (h : kf < st0.v.length), p < st0.v[kf].bl.length → txAt cur kf p = txAt st0 kf p

theorem CpI.first {st0 : Sta} (g : WoolVol.Good FP st0) (kf : Nat) : CpI st0 kf st0 := ⟨g, rfl, fun _ _ _ => ⟨rfl, rfl⟩, fun _ _ _ => rfl⟩

theorem CpI.keeps {st0 cur cur' : Sta} {kf k j : Nat} (h : CpI st0 kf cur) (hk : Keeps FP cur cur' k j (txAt st0 kf j)) : CpI st0 kf cur' := by
  refine ⟨hk.good, hk.len.trans h.len, fun q hq hq' => ?_, fun p hkf hp => ?_⟩
  · have hqc : q < cur.v.length := by rw [h.len]; exact hq
    exact ⟨(hk.vol q hqc hq').1.trans (h.vol q hq hqc).1, (hk.vol q hqc hq').2.trans (h.vol q hq hqc).2⟩
  · have hqc : kf < cur.v.length := by rw [h.len]; exact hkf
    rw [hk.txt kf p hqc (by rw [(h.vol kf hkf hqc).2]; exact hp), h.txt p hkf hp]
    by_cases e : kf = k ∧ p = j
    · rw [if_pos e, e.2]
    · rw [if_neg e]

theorem CpI.step {st0 cur : Sta} {kf : Nat} {b : List UInt8} {p : Int} (h : CpI st0 kf cur) (h0 : (cpStep st0 kf b cur p).2 = 0) : CpI st0 kf (cpStep st0 kf b cur p).1 := by
  unfold cpStep at h0 ⊢
  cases e : txAt st0 kf p.toNat with
  | none =>
    rw [e] at h0
    obtain ⟨k, j, rfl, _, _, hk⟩ := trim_step h0
    rw [Int.toNat_natCast] at e
    rw [← e] at hk
    exact h.keeps hk
  | some t =>
    rw [e] at h0
    obtain ⟨k, j, rfl, _, _, hk⟩ := write_step h0
    rw [Int.toNat_natCast] at e
    rw [← e] at hk
    exact h.keeps hk

theorem CpI.vix {st0 cur : Sta} {kf : Nat} (h : CpI st0 kf cur) {s : List UInt8} {k : Nat} (hx : vix (nmB s) st0.v = some k) : vix (nmB s) cur.v = some k := by
  obtain ⟨h1, h2, h3⟩ := vix_some hx
  have hl : ∀ q (hq : q < st0.v.length), nmB s (cur.v[q]'(by rw [h.len]; exact hq)) = nmB s st0.v[q] := by
    intro q hq
    unfold nmB
    rw [(h.vol q hq (by rw [h.len]; exact hq)).1]
  refine vix_of (by rw [h.len]; exact h1) (by rw [hl k h1]; exact h2) (fun j hj => by rw [hl j (by omega)]; exact h3 j hj)

/-- the text that Copy reads anew is the first state's -/
theorem CpI.read {st0 cur : Sta} {kf j : Nat} (h : CpI st0 kf cur) {s : List UInt8} (hx : WoolVol.vix (nmB s) st0.v = some kf) (hk : kf < st0.v.length) (hj : j < st0.v[kf].bl.length) : WoolVol.read FP cur s (j : Int) = ((txAt st0 kf j).getD [], 0) := by
  have hkc : kf < cur.v.length := by rw [h.len]; exact hk
  have hjc : j < cur.v[kf].bl.length := by rw [(h.vol kf hk hkc).2]; exact hj
  have hc : chkS FP cur = 0 := chkS_zero.2 h.good
  have hf : vfind FP cur s = (kf, 0) := by
    unfold vfind; rw [if_neg (by simpa using hc), h.vix hx]
  have hl : vloc FP cur s (j : Int) = (kf, 0) := by
    unfold vloc
    rw [hf, if_neg (by simp)]
    simp only
    rw [getElem!_pos cur.v kf hkc, if_neg (by omega)]
  rw [read_tx h.good hkc hjc hl, h.txt j hk hj]

end Go.Proofs.Ytjmmifanaffegaa
