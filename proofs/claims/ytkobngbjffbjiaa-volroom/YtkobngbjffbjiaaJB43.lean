/-
  The texts SamE, TxC, VolR, IntsB, one behind the other; each says below what it holds and on what conditions.
-/
import Derived.Test.YtkobngbjffbjiaaJB42
import Derived.Test.YtkobngbjffbjiaaJB21
import Derived.Deep.OwnRows
import Derived.Laws.OwnMore
import Derived.Test.YtkobngbjffbjiaaJB40
import Derived.Test.YtkobngbjffbjiaaJB05
import Derived.Test.YtkobngbjffbjiaaJB30
import Derived.Test.YtkobngbjffbjiaaJB19

/-
  slices.Equal of two rows of identifiers that read alike; the reference's SameState of two states that read alike. Conditions: as each says.
-/
namespace Go.Proofs.Ytkobngbjffbjiaa
open Go.RowKit
open Go.Proofs
open WoolBag
open WoolVol

def EqDRel (N : Nat) (w : World) (i : Value) (wr : World) : Prop := ∃ k : Nat, k ≤ N ∧ i = .int .i64 k ∧ Up w wr

set_option maxRecDepth 100000 in
set_option maxHeartbeats 400000 in
theorem equalD_yes (v1 v2 : Value) (l : List Idn) (w : World) (h1 : Ids w v1 l) (h2 : Ids w v2 l) :
    Calls Try.prog 41 #[v1, v2] w fun e w' => e = .returned (.bool true) ∧ Up w w' := by
  obtain ⟨o1, c1, rfl, p1, p2⟩ := h1.slice
  obtain ⟨o2, c2, rfl, q1, q2⟩ := h2.slice
  have HP := Lib.hid h1
  have HQ := Lib.hid h2
  unfold maxLen at p2 q2
  clear h1 h2
  go_enter Try.func41, Try.ntmps41
  go_wp2_with fail
  go_loopw [13] (fun i wr => EqDRel l.length w i wr) (fun i _ => l.length - (intOf i).toNat)
  case atStart => exact ⟨0, Nat.zero_le _, rfl, Up.refl w⟩
  case round =>
    obtain ⟨k, hk, rfl, hu⟩ := hrel
    by_cases hlt : k < l.length
    · have hne : l ≠ [] := by intro e; rw [e] at hlt; simp at hlt
      obtain ⟨b, off, rfl, h5⟩ := HP.out.at hne
      obtain ⟨b', off', rfl, h6⟩ := HQ.out.at hne
      obtain ⟨e1, e2, e3⟩ := h5 k hlt
      rw [← hu.cell (World.block_lt_of_cell? w _ e1)] at e1
      rw [← hu.cell (World.block_lt_of_cell? w _ e2)] at e2
      rw [← hu.cell (World.block_lt_of_cell? w _ e3)] at e3
      obtain ⟨f1, f2, f3⟩ := h6 k hlt
      rw [← hu.cell (World.block_lt_of_cell? w _ f1)] at f1
      rw [← hu.cell (World.block_lt_of_cell? w _ f2)] at f2
      rw [← hu.cell (World.block_lt_of_cell? w _ f3)] at f3
      generalize l[k].1 = xs at e1 f1
      generalize l[k].2.1 = xn at e2 f2
      generalize l[k].2.2 = xr at e3 f3
      have HU := Lib.hid hu
      have d1 : decide (k < l.length) = true := decide_eq_true hlt
      clear h5 h6 hu hne
      go_wp2_with fail
      go_quiet (fail)
      go_wp2_with fail
      go_roundw
      case rel => exact ⟨k + 1, by omega, by go_num, HU.out.trans (Up.drewN _ _)⟩
      case measure => simp only [intOf]; omega
    · have d1 : decide (k < l.length) = false := decide_eq_false hlt
      go_wp2_with fail
      go_ret
      exact ⟨rfl, hu⟩

set_option maxRecDepth 100000 in
set_option maxHeartbeats 400000 in
theorem same1_yes (s : List UInt8) (v1 v2 : Value) (l : List Idn) (w : World) (h1 : Ids w v1 l) (h2 : Ids w v2 l) :
    Calls Try.prog 61 #[.agg #[.string (bs s), v1], .agg #[.string (bs s), v2]] w fun e w' => e = .returned (.bool true) ∧ Up w w' := by
  have HE := Lib.hid (fun W (hW : Up w W) => equalD_yes v1 v2 l W (h1.up hW) (h2.up hW))
  obtain ⟨o1, c1, rfl, _, _⟩ := h1.slice
  obtain ⟨o2, c2, rfl, _, _⟩ := h2.slice
  clear h1 h2
  have hS : ((bs s).toList == (bs s).toList) = true := by rw [txt_eq]; simp
  generalize bs s = S at *
  go_enter Try.func61, Try.ntmps61
  go_wp2_with fail
  refine (HE.out _ ((Up.alloc _ _).trans (Up.alloc _ _))).mono ?_
  rintro e w1 ⟨rfl, u1⟩
  go_wp2_with fail
  go_ret
  exact ⟨rfl, ((Up.alloc _ _).trans (Up.alloc _ _)).trans u1⟩

theorem eg_same : ∀ args w, (callFunc 61 args).run Try.prog w = .ok (.enter 61 args) w := enters_of Try.func61 (by kernel_rfl) rfl

set_option maxRecDepth 100000 in
set_option maxHeartbeats 400000 in
theorem equalV_yes (v1 v2 : Value) (l : List Vo) (w : World) (h1 : Vols w v1 l) (h2 : Vols w v2 l) :
    Calls Try.prog 60 #[v1, v2, .func (.func 61) #[] #[]] w fun e w' => e = .returned (.bool true) ∧ Up w w' := by
  obtain ⟨o1, c1, rfl, p1, p2⟩ := h1.slice
  obtain ⟨o2, c2, rfl, q1, q2⟩ := h2.slice
  have HP := Lib.hid h1
  have HQ := Lib.hid h2
  unfold maxLen at p2 q2
  clear h1 h2
  go_enter Try.func60, Try.ntmps60
  go_wp2_with fail
  go_loopw [17] (fun i wr => EqDRel l.length w i wr) (fun i _ => l.length - (intOf i).toNat)
  case atStart => exact ⟨0, Nat.zero_le _, rfl, Up.refl w⟩
  case round =>
    obtain ⟨k, hk, rfl, hu⟩ := hrel
    by_cases hlt : k < l.length
    · have hne : l ≠ [] := by intro e; rw [e] at hlt; simp at hlt
      obtain ⟨b, off, rfl, h5⟩ := HP.out.at hne
      obtain ⟨b', off', rfl, h6⟩ := HQ.out.at hne
      obtain ⟨e1, u, e2, hi1⟩ := h5 k hlt
      obtain ⟨f1, u', f2, hi2⟩ := h6 k hlt
      obtain ⟨n1, dd1, rfl, _, _⟩ := hi1.slice
      obtain ⟨n2, d2, rfl, _, _⟩ := hi2.slice
      have HC := Lib.hid (fun W (hW : Up w W) => same1_yes l[k].nm _ _ l[k].bl W (hi1.up hW) (hi2.up hW))
      rw [← hu.cell (World.block_lt_of_cell? w _ e1)] at e1
      rw [← hu.cell (World.block_lt_of_cell? w _ e2)] at e2
      rw [← hu.cell (World.block_lt_of_cell? w _ f1)] at f1
      rw [← hu.cell (World.block_lt_of_cell? w _ f2)] at f2
      have f1' := Lib.cell?_alloc_some (.cells #[.string (bs l[k].nm), .slice n1 l[k].bl.length dd1] 31) f1
      have f2' := Lib.cell?_alloc_some (.cells #[.string (bs l[k].nm), .slice n1 l[k].bl.length dd1] 31) f2
      generalize bs l[k].nm = S at *
      obtain ⟨L, hL⟩ : ∃ L, l[k].bl.length = L := ⟨_, rfl⟩
      rw [hL] at e2 f2 f1' f2' HC
      have HU := Lib.hid hu
      have d1 : decide (k < l.length) = true := decide_eq_true hlt
      clear h5 h6 hu hne hi1 hi2 hL
      go_wp2_with fail
      refine (HC.out _ ((HU.out.trans (Up.alloc _ _)).trans (Up.alloc _ _))).mono ?_
      rintro e w1 ⟨rfl, u1⟩
      have HU1 := Lib.hid (((HU.out.trans (Up.alloc _ _)).trans (Up.alloc _ _)).trans u1)
      clear u1
      go_wp2_with fail
      go_roundw
      case rel => exact ⟨k + 1, by omega, by go_num, HU1.out⟩
      case measure => simp only [intOf]; omega
    · have d1 : decide (k < l.length) = false := decide_eq_false hlt
      go_wp2_with fail
      go_ret
      exact ⟨rfl, hu⟩

set_option maxRecDepth 100000 in
set_option maxHeartbeats 400000 in
theorem same_yes (v1 v2 : Value) (st : Sta) (w : World) (h1 : Stat w v1 st) (h2 : Stat w v2 st) :
    Calls Try.prog 27 #[v1, v2] w fun e w' => e = .returned (.bool true) ∧ Up w w' := by
  obtain ⟨a1, b1, rfl, hi1, hv1⟩ := h1
  obtain ⟨a2, b2, rfl, hi2, hv2⟩ := h2
  have HI := Lib.hid (fun W (hW : Up w W) => equalI_yes a1 a2 st.b W (hi1.up hW) (hi2.up hW))
  have HV := Lib.hid (fun W (hW : Up w W) => equalV_yes b1 b2 st.v W (hv1.up hW) (hv2.up hW))
  obtain ⟨o1, c1, rfl, _⟩ := hi1.slice
  obtain ⟨o2, c2, rfl, _⟩ := hi2.slice
  obtain ⟨o3, c3, rfl, _, _⟩ := hv1.slice
  obtain ⟨o4, c4, rfl, _, _⟩ := hv2.slice
  clear hi1 hi2 hv1 hv2
  generalize st.b.length = M at *
  generalize st.v.length = N at *
  go_enter Try.func27, Try.ntmps27
  have HR1 : Hid (RowC ((w.alloc (.cells #[.slice o1 M c1, .slice o3 N c3] 27)).alloc (.cells #[.slice o2 M c2, .slice o4 N c4] 27)) w.heap.size 27 [.slice o1 M c1, .slice o3 N c3]) := RowC.up (heap_alloc_new w _) (Up.alloc _ _)
  have HR2 : Hid (RowC ((w.alloc (.cells #[.slice o1 M c1, .slice o3 N c3] 27)).alloc (.cells #[.slice o2 M c2, .slice o4 N c4] 27)) (w.heap.size + 1) 27 [.slice o2 M c2, .slice o4 N c4]) := box_new w _ _ _ _
  have HW0 : Hid (Up w ((w.alloc (.cells #[.slice o1 M c1, .slice o3 N c3] 27)).alloc (.cells #[.slice o2 M c2, .slice o4 N c4] 27))) := (Up.alloc _ _).trans (Up.alloc _ _)
  go_wp2_with fail
  generalize ((w.alloc (.cells #[.slice o1 M c1, .slice o3 N c3] 27)).alloc (.cells #[.slice o2 M c2, .slice o4 N c4] 27)) = W0 at HR1 HR2 HW0 ⊢
  refine (HI.out _ HW0.out).mono ?_
  rintro e w1 ⟨rfl, u1⟩
  have x0 := (HR1.out.up u1).cell (j := 1) rfl
  have x1 := (HR2.out.up u1).cell (j := 1) rfl
  go_wp2_with fail
  refine (HV.out _ (HW0.out.trans u1)).mono ?_
  rintro e w2 ⟨rfl, u2⟩
  go_wp2_with fail
  go_ret
  exact ⟨rfl, (HW0.out.trans u1).trans u2⟩

end Go.Proofs.Ytkobngbjffbjiaa

/-
  slices.Contains of a text in a slice of texts. Conditions: it can be read.
-/
namespace Go.Proofs.Ytkobngbjffbjiaa
open Go.RowKit
open Go.Proofs
open WoolTree

def IdxTRel (l : List (List UInt8)) (z : List UInt8) (w : World) (i : Value) (wr : World) : Prop :=
  ∃ k : Nat, k ≤ l.length ∧ i = .int .i64 k ∧ Up w wr ∧ ∀ j (h : j < l.length), j < k → l[j] ≠ z

/-- what slices.Index says of whether it is there -/
def IdxTPost (l : List (List UInt8)) (z : List UInt8) (w : World) (e : Ending) (w' : World) : Prop := ∃ r : Int, e = .returned (.int .i64 r) ∧ decide (0 ≤ r) = l.contains z ∧ Up w w'

set_option maxRecDepth 100000 in
set_option maxHeartbeats 400000 in
theorem indexT_any (v : Value) (l : List (List UInt8)) (z : List UInt8) (w : World) (h : Txs w v l) :
    Calls Try.prog 62 #[v, .string (bs z)] w (IdxTPost l z w) := by
  have H4 := Lib.hid h
  obtain ⟨o, c, rfl, h2, h3⟩ := h.slice
  unfold maxLen at h3
  clear h
  go_enter Try.func62, Try.ntmps62
  go_wp2_with fail
  go_loopw [5, 8] (fun _ i wr => IdxTRel l z w i wr) (fun _ i _ => l.length - (intOf i).toNat)
  case atStart => exact ⟨0, Nat.zero_le _, rfl, Up.refl w, fun j _ hj => by omega⟩
  case round =>
    obtain ⟨k, hk, rfl, hu, hno⟩ := hrel
    have HN := Lib.hid hno
    clear hno
    by_cases hlt : k < l.length
    · obtain ⟨b, off, rfl, h5⟩ := (H4.out.up hu).at (by intro e; rw [e] at hlt; simp at hlt)
      have a1 := h5 k hlt
      have d1 : decide (k < l.length) = true := decide_eq_true hlt
      have q := txt_eqT z l[k]
      have q2 := txt_eqT l[k] z
      obtain ⟨y, hy⟩ : ∃ y, l[k] = y := ⟨_, rfl⟩
      rw [hy] at a1 q q2
      have HY := Lib.hid hy
      have HU := Lib.hid hu
      clear h5 hy hu
      by_cases e : z = y
      · have e1 : (z == y) = true := by simpa using e
        have e2 : (y == z) = true := by simpa using e.symm
        rw [e1] at q
        rw [e2] at q2
        have HE := Lib.hid e
        clear e e1 e2
        generalize bs z = Z at *
        generalize bs y = Y at *
        go_wp2_with fail
        all_goals try go_quiet (fail)
        all_goals
          go_wp2_with fail
          go_ret
          refine ⟨(k : Int), rfl, ?_, by first | exact HU.out | exact HU.out.trans (Up.drewN _ _)⟩
          have hc : l.contains z = true := List.contains_iff_mem.2 (by rw [HE.out, ← HY.out]; exact List.getElem_mem hlt)
          rw [hc]
          simp
      · have e1 : (z == y) = false := by simpa using e
        have e2 : (y == z) = false := by simpa using fun h => e h.symm
        rw [e1] at q
        rw [e2] at q2
        have HE := Lib.hid e
        clear e e1 e2
        generalize bs z = Z at *
        generalize bs y = Y at *
        go_wp2_with fail
        all_goals try go_quiet (fail)
        all_goals
          go_wp2_with fail
          go_roundw
          case rel =>
            refine ⟨k + 1, by omega, by go_num, by first | exact HU.out | exact HU.out.trans (Up.drewN _ _), fun j hj hjk => ?_⟩
            by_cases ej : j = k
            · subst ej; rw [HY.out]; exact fun h => HE.out h.symm
            · exact HN.out j hj (by omega)
          case measure => simp only [intOf]; omega
    · have d1 : decide (k < l.length) = false := decide_eq_false hlt
      have HU := Lib.hid hu
      clear hu
      go_wp2_with fail
      go_ret
      refine ⟨-1, rfl, ?_, HU.out⟩
      have hc : l.contains z = false := by
        rw [Bool.eq_false_iff]
        intro h
        obtain ⟨i, hi, e⟩ := List.getElem_of_mem (List.contains_iff_mem.1 h)
        exact HN.out i hi (by omega) e
      rw [hc]; rfl

set_option maxRecDepth 100000 in
theorem containsT_any (v : Value) (l : List (List UInt8)) (z : List UInt8) (w : World) (h : Txs w v l) :
    Calls Try.prog 28 #[v, .string (bs z)] w fun e w' => e = .returned (.bool (l.contains z)) ∧ Up w w' := by
  obtain ⟨o, c, hv, _⟩ := h.slice
  have hcall := indexT_any v l z w h
  generalize hq : l.contains z = q at hcall ⊢
  have HQ := Lib.hid hq
  subst hv
  clear h hq
  go_enter Try.func28, Try.ntmps28
  go_wp2_with fail
  refine hcall.mono ?_
  rintro e w1 ⟨r, rfl, hr, u1⟩
  rw [HQ.out] at hr
  have HR := Lib.hid hr
  clear hr
  go_wp2_with fail
  go_ret
  exact ⟨by rw [← HR.out]; rfl, u1⟩

end Go.Proofs.Ytkobngbjffbjiaa

/-
  Copying block by block, in plain words. Conditions: as each says.
-/
namespace Go.Proofs.Ytkobngbjffbjiaa
open Go.RowKit
open Go.Proofs
open WoolBag
open WoolVol

theorem trim_step {st : Sta} {s : List UInt8} {a : Int} (h : (trim FP st s a).2 = 0) : ∃ k j : Nat, a = (j : Int) ∧ k < st.v.length ∧ vix (nmB s) st.v = some k ∧ Keeps FP st (trim FP st s a).1 k j none := by
  have hvl : (vloc FP st s a).2 = 0 := by
    apply Classical.byContradiction
    intro hne
    rw [trim_no hne] at h
    exact hne h
  obtain ⟨hg, k, hk, j, rfl, hj, hf, _, hx⟩ := vloc_ok hvl
  refine ⟨k, j, rfl, hk, hx, ?_⟩
  rw [trim_yes hk hj hf]
  exact trim_keeps hg hk hj

theorem write_step {st : Sta} {s t : List UInt8} {a : Int} (h : (write FP st s a t).2 = 0) : ∃ k j : Nat, a = (j : Int) ∧ k < st.v.length ∧ vix (nmB s) st.v = some k ∧ Keeps FP st (write FP st s a t).1 k j (some t) := by
  have ht : (trim FP st s a).2 = 0 := by
    apply Classical.byContradiction
    intro hne
    rw [write_no hne] at h
    exact hne h
  have hvl : (vloc FP st s a).2 = 0 := by
    apply Classical.byContradiction
    intro hne
    rw [trim_no hne] at ht
    exact hne ht
  have hp : (WoolBag.put FP (trim FP st s a).1.b t).2.2 = 0 := by
    apply Classical.byContradiction
    intro hne
    rw [write_full ht hne] at h
    exact hne h
  obtain ⟨hg, k, hk, j, rfl, hj, hf, _, hx⟩ := vloc_ok hvl
  refine ⟨k, j, rfl, hk, hx, ?_⟩
  rw [write_yes ht hp, hf]
  rw [trim_yes hk hj hf] at hp ⊢
  simp only [Int.toNat_natCast]
  exact write_keeps hg hk hj (t := t) (Prod.ext rfl (Prod.ext rfl hp))

theorem read_tx {st : Sta} {s : List UInt8} {k j : Nat} (g : WoolVol.Good FP st) (hk : k < st.v.length) (hj : j < st.v[k].bl.length) (h : vloc FP st s (j : Int) = (k, 0)) : WoolVol.read FP st s (j : Int) = ((txAt st k j).getD [], 0) := by
  unfold WoolVol.read
  rw [h, if_neg (by simp)]
  simp only [Int.toNat_natCast]
  exact get_tx g hk hj

/-- one block copied, from the texts of the first state -/
def cpStep (st0 : Sta) (kf : Nat) (b : List UInt8) (cur : Sta) (p : Int) : Sta × Int :=
  match txAt st0 kf p.toNat with
  | some t => write FP cur b p t
  | none => trim FP cur b p

/-- blocks copied, one behind the other -/
def cpL (st0 : Sta) (kf L : Nat) (b : List UInt8) : Sta → List Int → Sta × Int
  | cur, [] => (cur, 0)
  | cur, p :: r => if p < 0 ∨ (L : Int) ≤ p then (zeroS, 1) else if (cpStep st0 kf b cur p).2 ≠ 0 then (zeroS, (cpStep st0 kf b cur p).2) else cpL st0 kf L b (cpStep st0 kf b cur p).1 r

/-- a state that copying leaves -/
structure CpI (st0 : Sta) (kf : Nat) (cur : Sta) : Prop where
  good : WoolVol.Good FP cur
  len : cur.v.length = st0.v.length
  vol : ∀ q (h : q < st0.v.length) (h' : q < cur.v.length), cur.v[q].nm = st0.v[q].nm ∧ cur.v[q].bl.length = st0.v[q].bl.length
  txt : ∀ p (h : kf < st0.v.length), p < st0.v[kf].bl.length → txAt cur kf p = txAt st0 kf p

theorem CpI.first {st0 : Sta} (g : WoolVol.Good FP st0) (kf : Nat) : CpI st0 kf st0 := ⟨g, rfl, fun _ _ _ => ⟨rfl, rfl⟩, fun _ _ _ => rfl⟩

theorem CpI.keeps {st0 cur cur' : Sta} {kf k j : Nat} (h : CpI st0 kf cur) (hk : Keeps FP cur cur' k j (txAt st0 kf j)) : CpI st0 kf cur' := by
  refine ⟨hk.good, hk.len.trans h.len, fun q hq hq' => ?_, fun p hkf hp => ?_⟩
  · have hqc : q < cur.v.length := by rw [h.len]; exact hq
    exact ⟨(hk.vol q hqc hq').1.trans (h.vol q hq hqc).1, (hk.vol q hqc hq').2.trans (h.vol q hq hqc).2⟩
  · have hqc : kf < cur.v.length := by rw [h.len]; exact hkf
    rw [hk.txt kf p hqc (by rw [(h.vol kf hkf hqc).2]; exact hp), h.txt p hkf hp]
    by_cases e : kf = k ∧ p = j
    · rw [if_pos e, e.2]
    · rw [if_neg e]

theorem CpI.step {st0 cur : Sta} {kf : Nat} {b : List UInt8} {p : Int} (h : CpI st0 kf cur) (h0 : (cpStep st0 kf b cur p).2 = 0) : CpI st0 kf (cpStep st0 kf b cur p).1 := by
  unfold cpStep at h0 ⊢
  cases e : txAt st0 kf p.toNat with
  | none =>
    rw [e] at h0
    obtain ⟨k, j, rfl, _, _, hk⟩ := trim_step h0
    rw [Int.toNat_natCast] at e
    rw [← e] at hk
    exact h.keeps hk
  | some t =>
    rw [e] at h0
    obtain ⟨k, j, rfl, _, _, hk⟩ := write_step h0
    rw [Int.toNat_natCast] at e
    rw [← e] at hk
    exact h.keeps hk

theorem CpI.vix {st0 cur : Sta} {kf : Nat} (h : CpI st0 kf cur) {s : List UInt8} {k : Nat} (hx : vix (nmB s) st0.v = some k) : vix (nmB s) cur.v = some k := by
  obtain ⟨h1, h2, h3⟩ := vix_some hx
  have hl : ∀ q (hq : q < st0.v.length), nmB s (cur.v[q]'(by rw [h.len]; exact hq)) = nmB s st0.v[q] := by
    intro q hq
    unfold nmB
    rw [(h.vol q hq (by rw [h.len]; exact hq)).1]
  refine vix_of (by rw [h.len]; exact h1) (by rw [hl k h1]; exact h2) (fun j hj => by rw [hl j (by omega)]; exact h3 j hj)

/-- the text that Copy reads anew is the first state's -/
theorem CpI.read {st0 cur : Sta} {kf j : Nat} (h : CpI st0 kf cur) {s : List UInt8} (hx : WoolVol.vix (nmB s) st0.v = some kf) (hk : kf < st0.v.length) (hj : j < st0.v[kf].bl.length) : WoolVol.read FP cur s (j : Int) = ((txAt st0 kf j).getD [], 0) := by
  have hkc : kf < cur.v.length := by rw [h.len]; exact hk
  have hjc : j < cur.v[kf].bl.length := by rw [(h.vol kf hk hkc).2]; exact hj
  have hc : chkS FP cur = 0 := chkS_zero.2 h.good
  have hf : vfind FP cur s = (kf, 0) := by
    unfold vfind; rw [if_neg (by simpa using hc), h.vix hx]
  have hl : vloc FP cur s (j : Int) = (kf, 0) := by
    unfold vloc
    rw [hf, if_neg (by simp)]
    simp only
    rw [getElem!_pos cur.v kf hkc, if_neg (by omega)]
  rw [read_tx h.good hkc hjc hl, h.txt j hk hj]

end Go.Proofs.Ytkobngbjffbjiaa

/-
  Slices of ints that the call owns; what slices.Contains (of ints) returns of them. Conditions: as each says.
-/
namespace Go.Proofs.Ytkobngbjffbjiaa
open Go.RowKit
open Go.Proofs

def inL (l : List Int) : List Value := l.map (Value.int .i64)
theorem inL_length (l : List Int) : (inL l).length = l.length := List.length_map _
theorem inL_one (l : List Int) : ∀ u ∈ inL l, u.oneCell' = true := by
  intro u hu
  obtain ⟨x, _, rfl⟩ := List.mem_map.1 hu
  rfl

theorem inInfo : ∃ i, Try.prog.info? 3 = some i ∧ i.zero = some (.int .i64 0) ∧ i.size = 1 ∧ i.bytes = 8 := by
  have h : (Try.prog.info? 3).map (fun i => (i.zero, i.size, i.bytes)) = some (some (.int .i64 0), 1, 8) := by kernel_rfl
  cases hq : Try.prog.info? 3 with
  | none => rw [hq] at h; cases h
  | some i =>
    rw [hq] at h
    simp only [Option.map_some, Option.some.injEq, Prod.mk.injEq] at h
    exact ⟨i, rfl, h.1, h.2.1, h.2.2⟩

/-- a slice of ints of the call's own -/
def OInts (w : World) (base : Nat) (v : Value) (l : List Int) : Prop := w.ownsRow base 3 1 v l.length (inL l)

theorem OInts.nil (w : World) (base : Nat) : OInts w base (.slice none 0 0) [] := World.ownsRow_nil _ _ _ _
theorem OInts.keep {w w' : World} {base : Nat} {v : Value} {l : List Int} (h : OInts w base v l) (hu : ∀ b, v.ownBlock = some b → w'.heap[b]? = w.heap[b]?) : OInts w' base v l := by
  refine ⟨h.1, ?_⟩
  rcases h.2 with h | ⟨g, cap, cur, rfl, h2, h3, h4⟩
  · exact .inl h
  · exact .inr ⟨g, cap, cur, rfl, h2, (hu g rfl).trans h3, h4⟩
theorem OInts.up {w w' : World} {base : Nat} {v : Value} {l : List Int} (h : OInts w base v l) (hu : Up w w') : OInts w' base v l :=
  h.keep fun b hb => hu.block b (World.ownsRow.lt h b hb).2
theorem OInts.shape {w : World} {base : Nat} {v : Value} {l : List Int} (h : OInts w base v l) : ∃ o c, v = .slice o l.length c ∧ l.length ≤ c ∧ c ≤ maxLen ∧ (l = [] ∨ ∃ g, o = some ⟨g, 0, none⟩ ∧ ∀ k (hk : k < l.length), w.cell? ⟨g, 0 + k * 1, none⟩ = some (.int .i64 l[k])) := by
  have h' := h
  rcases h.2 with ⟨rfl, h0⟩ | ⟨g, cap, cur, rfl, _, _, h3, h4, _⟩
  · have : l = [] := List.eq_nil_of_length_eq_zero h0
    subst this
    exact ⟨none, 0, rfl, Nat.le_refl _, by unfold maxLen; omega, .inl rfl⟩
  · refine ⟨_, cap, rfl, h3, h4, .inr ⟨g, rfl, fun k hk => ?_⟩⟩
    have := World.ownsRow.cellAt h' k (by omega)
    rw [Nat.zero_add, Nat.mul_one, this]
    unfold inL
    rw [List.getElem?_map, List.getElem?_eq_getElem hk]
    rfl

def IdxIRel (l : List Int) (z : Int) (w : World) (i : Value) (wr : World) : Prop :=
  ∃ k : Nat, k ≤ l.length ∧ i = .int .i64 k ∧ Up w wr ∧ ∀ j (h : j < l.length), j < k → l[j] ≠ z

/-- what slices.Index says of whether it is there -/
def IdxIPost (l : List Int) (z : Int) (w : World) (e : Ending) (w' : World) : Prop := ∃ r : Int, e = .returned (.int .i64 r) ∧ decide (0 ≤ r) = l.contains z ∧ Up w w'

set_option maxRecDepth 100000 in
set_option maxHeartbeats 400000 in
theorem indexInt (v : Value) (base : Nat) (l : List Int) (z : Int) (w : World) (h : OInts w base v l) :
    Calls Try.prog 65 #[v, .int .i64 z] w (IdxIPost l z w) := by
  obtain ⟨o, c, rfl, h2, h3, h4⟩ := h.shape
  unfold maxLen at h3
  have H4 := Lib.hid h4
  clear h4 h
  go_enter Try.func65, Try.ntmps65
  go_wp2_with fail
  go_loopw [5, 8] (fun _ i wr => IdxIRel l z w i wr) (fun _ i _ => l.length - (intOf i).toNat)
  case atStart => exact ⟨0, Nat.zero_le _, rfl, Up.refl w, fun j _ hj => by omega⟩
  case round =>
    obtain ⟨k, hk, rfl, hu, hno⟩ := hrel
    have HN := Lib.hid hno
    clear hno
    by_cases hlt : k < l.length
    · rcases H4.out with h5 | ⟨g, rfl, h5⟩
      · rw [h5] at hlt; simp at hlt
      · have a1 := h5 k hlt
        rw [← hu.cell (World.block_lt_of_cell? w _ a1)] at a1
        have d1 : decide (k < l.length) = true := decide_eq_true hlt
        obtain ⟨y, hy⟩ : ∃ y, l[k] = y := ⟨_, rfl⟩
        rw [hy] at a1
        simp only [Nat.zero_add, Nat.mul_one] at a1
        have HY := Lib.hid hy
        have HU := Lib.hid hu
        clear h5 hy hu
        by_cases e : z = y
        · subst e
          go_wp2_with fail
          all_goals try go_quiet (fail)
          all_goals
            go_wp2_with fail
            go_ret
            refine ⟨(k : Int), rfl, ?_, by first | exact HU.out | exact HU.out.trans (Up.drewN _ _)⟩
            have hc : l.contains z = true := List.contains_iff_mem.2 (by rw [← HY.out]; exact List.getElem_mem hlt)
            rw [hc]
            simp
        · have e1 : (z == y) = false := by simpa using e
          have e2 : (y == z) = false := by simpa using fun h => e h.symm
          have HE := Lib.hid e
          clear e
          go_wp2_with fail
          all_goals try go_quiet (fail)
          all_goals
            go_wp2_with fail
            go_roundw
            case rel =>
              refine ⟨k + 1, by omega, by go_num, by first | exact HU.out | exact HU.out.trans (Up.drewN _ _), fun j hj hjk => ?_⟩
              by_cases ej : j = k
              · subst ej; rw [HY.out]; exact fun h => HE.out h.symm
              · exact HN.out j hj (by omega)
            case measure => simp only [intOf]; omega
    · have d1 : decide (k < l.length) = false := decide_eq_false hlt
      have HU := Lib.hid hu
      clear hu
      go_wp2_with fail
      go_ret
      refine ⟨-1, rfl, ?_, HU.out⟩
      have hc : l.contains z = false := by
        rw [Bool.eq_false_iff]
        intro h
        obtain ⟨i, hi, e⟩ := List.getElem_of_mem (List.contains_iff_mem.1 h)
        exact HN.out i hi (by omega) e
      rw [hc]; rfl

set_option maxRecDepth 100000 in
theorem containsInt (v : Value) (base : Nat) (l : List Int) (z : Int) (w : World) (h : OInts w base v l) :
    Calls Try.prog 33 #[v, .int .i64 z] w fun e w' => e = .returned (.bool (l.contains z)) ∧ Up w w' := by
  obtain ⟨o, c, hv, _⟩ := h.shape
  have hcall := indexInt v base l z w h
  generalize hq : l.contains z = q at hcall ⊢
  have HQ := Lib.hid hq
  subst hv
  clear h hq
  go_enter Try.func33, Try.ntmps33
  go_wp2_with fail
  refine hcall.mono ?_
  rintro e w1 ⟨r, rfl, hr, u1⟩
  rw [HQ.out] at hr
  have HR := Lib.hid hr
  clear hr
  go_wp2_with fail
  go_ret
  exact ⟨by rw [← HR.out]; rfl, u1⟩

end Go.Proofs.Ytkobngbjffbjiaa
