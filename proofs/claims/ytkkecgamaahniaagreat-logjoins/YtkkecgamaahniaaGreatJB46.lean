/-
  The texts LogH, BagL, SamE, TxtRow, OpOne, OpRow, one behind the other; each says below what it holds and on what conditions.
-/
import Derived.Test.YtkkecgamaahniaaGreatJB39
import Derived.Test.YtkkecgamaahniaaGreatJB44
import Derived.Test.YtkkecgamaahniaaGreatJB45
import Derived.Test.YtkkecgamaahniaaGreatJB27
import Derived.Test.YtkkecgamaahniaaGreatJB03
import Derived.Test.YtkkecgamaahniaaGreatJB19
import Derived.Deep.OwnRows
import Derived.Laws.OwnMore
import Derived.Test.YtkkecgamaahniaaGreatJB36
import Derived.Deep.Slices
import Derived.Deep.Fields
import Derived.ChangeSame
import Derived.SizedLaws
import Derived.ChangeOld
import Derived.Test.YtkkecgamaahniaaGreatJB06

/-
  What the laws about logs begin with, and what deeds that are kept make of a log and its replay. Conditions: as each says.
-/
namespace Go.Proofs.YtkkecgamaahniaaGreat
open Go.RowKit
open Go.Proofs
open WoolBag
open WoolVol

theorem chk_wf {o : Opn} (hc : chkO o = 0) : OpWf o := by
  obtain ⟨h1, h2, h3, _, h5, h6, h7, _⟩ := chkO_ok hc
  have hn := nameB_len h3
  have ht := chkO_to hc
  exact ⟨wf_i64L (by omega), by omega, by omega, wf_i64L (by omega), by omega⟩

/-- a deed written out -/
theorem ops_oneL (w : World) (o : Opn) (h : OpWf o) : Ops (w.alloc (.cells (opC o).toArray 27)) (.slice (some ⟨w.heap.size, 0, none⟩) 1 1) [o] := by
  have := World.ownsRow_lit (base := w.heap.size) (e := 27) (size := 5) w (opC o).toArray 1 (Nat.le_refl w.heap.size) (by unfold maxLen; omega) rfl
  refine ⟨?_, by simpa using h⟩
  have h2 := Sl.of_own this
  exact h2

/-- the first deeds of a slice -/
theorem Ops.front {w : World} {o : Option Addr} {n c : Nat} {l : List Opn} (h : Ops w (.slice o n c) l) (k : Nat) (hk : k ≤ l.length) : Ops w (.slice o k c) (l.take k) := by
  obtain ⟨⟨h0, o', c', h1, h2, h3, h4⟩, hw⟩ := h
  simp only [Value.slice.injEq] at h1
  obtain ⟨rfl, rfl, rfl⟩ := h1
  have hlen : (l.take k).length = k := by rw [List.length_take]; omega
  refine ⟨⟨by rw [fl_length opC_len], o, c, by rw [hlen], by omega, h3, ?_⟩, fun x hx => hw x (List.mem_of_mem_take hx)⟩
  rcases h4 with h4 | ⟨b, off, h5, h6⟩
  · left; omega
  · right
    refine ⟨b, off, h5, fun j u hj => h6 j u ?_⟩
    rw [fl_take opC_len, List.getElem?_take] at hj
    split at hj
    · exact hj
    · cases hj

/-- a log, and an error -/
theorem log_ok (v : Value) (l : List Opn) (w : World) (h : Ops w v l) (hc : ∀ o ∈ l, chkO o = 0) (hl : l.length ≤ 200) : Calls Tryz.prog 7 #[v] w fun e w' => e = .returned (.tuple #[.string (bs (logG (frm 1) l)), .int .i64 0]) ∧ Up w w' := by
  have h9 := log_any v l w h
  rw [logV_ok hc hl] at h9
  exact h9

/-- a replay, in the shape that a walk meets -/
def RpO (w : World) (st : Sta) (n : Nat) (E : Int) (e : Ending) (w' : World) : Prop :=
  ∃ (o1 : Option Addr) (c1 : Nat) (o2 : Option Addr) (c2 : Nat), e = .returned (.tuple #[.agg #[.slice o1 st.b.length c1, .slice o2 st.v.length c2], .int .i64 (n : Int), .int .i64 E]) ∧ Stat w' (.agg #[.slice o1 st.b.length c1, .slice o2 st.v.length c2]) st ∧ Up w w'

theorem replay_is {s : List UInt8} {st : Sta} {n : Nat} {E : Int} (w : World) (hl : s.length ≤ 281474976710656) (h : replayG FP getV s = (st, n, E)) : Calls Tryz.prog 8 #[.string (bs s)] w (RpO w st n E) := by
  have h9 := replay_any s w hl
  rw [h] at h9
  exact h9

/-- a deed that makes a volume of one block -/
def mk1 : Opn := ⟨1, [97], [], 1, []⟩
def st1 : Sta := ⟨[], [⟨[97], [noId]⟩]⟩
theorem mk1_chk : chkO mk1 = 0 := by decide
theorem mk1_do : doO FP zeroS mk1 = (st1, 0) := by
  have hn : newE zeroS [97] = 0 := by rfl
  unfold doO
  rw [mk1_chk, if_neg (by simp)]
  show make FP zeroS [97] 1 = _
  unfold make
  rw [chkS_zero.2 zero_good, if_neg (by simp), if_neg (by omega), hn, if_neg (by simp)]
  rfl
theorem mk1_runs : runs FP zeroS [mk1] st1 := ⟨by rw [mk1_do], by rw [mk1_do]; rfl⟩
theorem st1_good : WoolVol.Good FP st1 := runs_good _ zero_good mk1_runs

/-- the deeds that are kept -/
structure KeptL (K : List Opn) (S : Sta) : Prop where
  runs : WoolVol.runs FP zeroS K S
  len : K.length ≤ 60
  good : WoolVol.Good FP S

theorem kept_l (l : List Opn) : KeptL (keptFrom FP zeroS (l.take 60)).1 (keptFrom FP zeroS (l.take 60)).2 :=
  ⟨kept_runs _ _, by have h := kept_len (F := FP) (l.take 60) zeroS; rw [List.length_take] at h; omega, kept_good _ zero_good⟩

theorem KeptL.chk {K : List Opn} {S : Sta} (h : KeptL K S) : ∀ o ∈ K, chkO o = 0 := runs_chk K h.runs
theorem KeptL.log {K : List Opn} {S : Sta} (h : KeptL K S) : (logG (frm 1) K).length ≤ 6000 := by
  have h1 := logG_len K h.chk
  have h2 := h.len
  omega

/-- what kept returns, in the shape that a walk meets -/
def KpO (K : List Opn) (S : Sta) (w : World) (e : Ending) (w' : World) : Prop :=
  ∃ (oo : Option Addr) (co : Nat) (o1 : Option Addr) (c1 : Nat) (o2 : Option Addr) (c2 : Nat), e = .returned (.tuple #[.slice oo K.length co, .agg #[.slice o1 S.b.length c1, .slice o2 S.v.length c2]]) ∧
    Ops w' (.slice oo K.length co) K ∧ co ≤ maxLen ∧ Stat w' (.agg #[.slice o1 S.b.length c1, .slice o2 S.v.length c2]) S ∧ Up w w'

theorem kept_is (v : Value) (l : List Opn) (w : World) (h : Ops w v l) : Calls Tryz.prog 9 #[v] w (KpO (keptFrom FP zeroS (l.take 60)).1 (keptFrom FP zeroS (l.take 60)).2 w) := by
  refine (kept_any v l w h).mono ?_
  rintro e w' ⟨oo, co, o1, c1, o2, c2, rfl, h1, h2, h3⟩
  have hs := h1.slice
  obtain ⟨_, c9, h4, _, h5⟩ := hs
  simp only [Value.slice.injEq] at h4
  obtain ⟨_, _, rfl⟩ := h4
  exact ⟨oo, co, o1, c1, o2, c2, rfl, ⟨h1, fun o ho => chk_wf ((kept_l l).chk o ho)⟩, h5, h2, h3⟩

end Go.Proofs.YtkkecgamaahniaaGreat

/-
  What the helpers of the laws on bags return: two, refs, used, and slices.Equal of two rows of items that read alike. Conditions: as each says.
-/
namespace Go.Proofs.YtkkecgamaahniaaGreat
open Go.RowKit
open Go.Proofs
open WoolBag

/-- the two blocks -/
def one1 : List Itm := (WoolBag.put FP [] [97]).1
def twoL : List Itm := (WoolBag.put FP one1 [98]).1

theorem one_put : ∃ i, WoolBag.put FP [] [97] = (one1, i, 0) ∧ ∀ x ∈ one1, x.t = [97] := by
  have h := put_new (F := FP) (l := []) (t := [97]) Bag.nil (by simp) (by simp) (by simp)
  refine ⟨idOf (new FP [] [97]), ?_, ?_⟩
  · unfold one1; rw [h]
  · unfold one1; rw [h]
    intro x hx
    rcases mem_ins.1 hx with rfl | hx
    · rfl
    · simp at hx

theorem one_len : one1.length = 1 := by
  obtain ⟨i, h, _⟩ := one_put
  rw [length_put h, if_neg (by simp)]; rfl

theorem two_put : ∃ i, WoolBag.put FP one1 [98] = (twoL, i, 0) := by
  obtain ⟨i, h, ht⟩ := one_put
  have h2 := put_new (F := FP) (l := one1) (t := [98]) (put_spec h).1 (by simp) (fun x hx e => by rw [ht x hx] at e; cases e) (by rw [one_len]; omega)
  exact ⟨idOf (new FP one1 [98]), by unfold twoL; rw [h2]⟩

theorem two_bag : Bag FP twoL := by
  obtain ⟨i, h⟩ := two_put
  exact (put_spec h).1

theorem two_len : twoL.length = 2 := by
  obtain ⟨i, h⟩ := two_put
  obtain ⟨j, h1, ht⟩ := one_put
  rw [length_put h, one_len, if_neg (by rintro ⟨x, hx, e⟩; rw [ht x hx] at e; cases e)]

def EqIRel (N : Nat) (w : World) (i : Value) (wr : World) : Prop := ∃ k : Nat, k ≤ N ∧ i = .int .i64 k ∧ Up w wr

set_option maxRecDepth 100000 in
set_option maxHeartbeats 400000 in
theorem equalI_yes (v1 v2 : Value) (l : List Itm) (w : World) (h1 : Items w v1 l) (h2 : Items w v2 l) :
    Calls Tryz.prog 23 #[v1, v2] w fun e w' => e = .returned (.bool true) ∧ Up w w' := by
  obtain ⟨o1, c1, rfl, p1, p2, p3⟩ := h1
  obtain ⟨o2, c2, rfl, q1, q2, q3⟩ := h2
  have HP := Lib.hid p3
  have HQ := Lib.hid q3
  unfold maxLen at p2 q2
  clear p3 q3
  go_enter Tryz.func23, Tryz.ntmps23
  go_wp2_with fail
  go_loopw [13] (fun i wr => EqIRel l.length w i wr) (fun i _ => l.length - (intOf i).toNat)
  case atStart => exact ⟨0, Nat.zero_le _, rfl, Up.refl w⟩
  case round =>
    obtain ⟨k, hk, rfl, hu⟩ := hrel
    by_cases hlt : k < l.length
    · rcases HP.out with h5 | ⟨b, off, rfl, h5⟩
      · rw [h5] at hlt; simp at hlt
      · rcases HQ.out with h6 | ⟨b', off', rfl, h6⟩
        · rw [h6] at hlt; simp at hlt
        · obtain ⟨e1, e2, e3, e4⟩ := h5 k hlt
          rw [← hu.cell (World.block_lt_of_cell? w _ e1)] at e1
          rw [← hu.cell (World.block_lt_of_cell? w _ e2)] at e2
          rw [← hu.cell (World.block_lt_of_cell? w _ e3)] at e3
          rw [← hu.cell (World.block_lt_of_cell? w _ e4)] at e4
          obtain ⟨f1, f2, f3, f4⟩ := h6 k hlt
          rw [← hu.cell (World.block_lt_of_cell? w _ f1)] at f1
          rw [← hu.cell (World.block_lt_of_cell? w _ f2)] at f2
          rw [← hu.cell (World.block_lt_of_cell? w _ f3)] at f3
          rw [← hu.cell (World.block_lt_of_cell? w _ f4)] at f4
          generalize l[k].s = xs at e1 f1
          generalize l[k].n = xn at e2 f2
          generalize bs l[k].t = xt at e3 f3
          generalize l[k].r = xr at e4 f4
          have HU := Lib.hid hu
          have d1 : decide (k < l.length) = true := decide_eq_true hlt
          clear h5 h6 hu
          go_wp2_with fail
          go_quiet (fail)
          go_wp2_with fail
          go_roundw
          case rel => exact ⟨k + 1, by omega, by go_num, HU.out.trans (Up.drewN _ _)⟩
          case measure => simp only [intOf]; omega
    · have d1 : decide (k < l.length) = false := decide_eq_false hlt
      go_wp2_with fail
      go_ret
      exact ⟨rfl, hu⟩

def RefsRel (l : List Itm) (w : World) (n i : Value) (wr : World) : Prop :=
  ∃ k : Nat, k ≤ l.length ∧ i = .int .i64 k ∧ n = .int .i64 (refs (l.take k)) ∧ Up w wr

def UsedRel (l : List Itm) (u : List UInt8) (w : World) (i : Value) (wr : World) : Prop :=
  ∃ k : Nat, k ≤ l.length ∧ i = .int .i64 k ∧ Up w wr ∧ ∀ j (h : j < l.length), j < k → txtB u l[j] = false

end Go.Proofs.YtkkecgamaahniaaGreat

/-
  slices.Equal of two rows of identifiers that read alike; the reference's SameState of two states that read alike. Conditions: as each says.
-/
namespace Go.Proofs.YtkkecgamaahniaaGreat
open Go.RowKit
open Go.Proofs
open WoolBag
open WoolVol

def EqDRel (N : Nat) (w : World) (i : Value) (wr : World) : Prop := ∃ k : Nat, k ≤ N ∧ i = .int .i64 k ∧ Up w wr

set_option maxRecDepth 100000 in
set_option maxHeartbeats 400000 in
theorem equalD_yes (v1 v2 : Value) (l : List Idn) (w : World) (h1 : Ids w v1 l) (h2 : Ids w v2 l) :
    Calls Tryz.prog 26 #[v1, v2] w fun e w' => e = .returned (.bool true) ∧ Up w w' := by
  obtain ⟨o1, c1, rfl, p1, p2⟩ := h1.slice
  obtain ⟨o2, c2, rfl, q1, q2⟩ := h2.slice
  have HP := Lib.hid h1
  have HQ := Lib.hid h2
  unfold maxLen at p2 q2
  clear h1 h2
  go_enter Tryz.func26, Tryz.ntmps26
  go_wp2_with fail
  go_loopw [13] (fun i wr => EqDRel l.length w i wr) (fun i _ => l.length - (intOf i).toNat)
  case atStart => exact ⟨0, Nat.zero_le _, rfl, Up.refl w⟩
  case round =>
    obtain ⟨k, hk, rfl, hu⟩ := hrel
    by_cases hlt : k < l.length
    · have hne : l ≠ [] := by intro e; rw [e] at hlt; simp at hlt
      obtain ⟨b, off, rfl, h5⟩ := HP.out.at hne
      obtain ⟨b', off', rfl, h6⟩ := HQ.out.at hne
      obtain ⟨e1, e2, e3⟩ := h5 k hlt
      rw [← hu.cell (World.block_lt_of_cell? w _ e1)] at e1
      rw [← hu.cell (World.block_lt_of_cell? w _ e2)] at e2
      rw [← hu.cell (World.block_lt_of_cell? w _ e3)] at e3
      obtain ⟨f1, f2, f3⟩ := h6 k hlt
      rw [← hu.cell (World.block_lt_of_cell? w _ f1)] at f1
      rw [← hu.cell (World.block_lt_of_cell? w _ f2)] at f2
      rw [← hu.cell (World.block_lt_of_cell? w _ f3)] at f3
      generalize l[k].1 = xs at e1 f1
      generalize l[k].2.1 = xn at e2 f2
      generalize l[k].2.2 = xr at e3 f3
      have HU := Lib.hid hu
      have d1 : decide (k < l.length) = true := decide_eq_true hlt
      clear h5 h6 hu hne
      go_wp2_with fail
      go_quiet (fail)
      go_wp2_with fail
      go_roundw
      case rel => exact ⟨k + 1, by omega, by go_num, HU.out.trans (Up.drewN _ _)⟩
      case measure => simp only [intOf]; omega
    · have d1 : decide (k < l.length) = false := decide_eq_false hlt
      go_wp2_with fail
      go_ret
      exact ⟨rfl, hu⟩

set_option maxRecDepth 100000 in
set_option maxHeartbeats 400000 in
theorem same1_yes (s : List UInt8) (v1 v2 : Value) (l : List Idn) (w : World) (h1 : Ids w v1 l) (h2 : Ids w v2 l) :
    Calls Tryz.prog 25 #[.agg #[.string (bs s), v1], .agg #[.string (bs s), v2]] w fun e w' => e = .returned (.bool true) ∧ Up w w' := by
  have HE := Lib.hid (fun W (hW : Up w W) => equalD_yes v1 v2 l W (h1.up hW) (h2.up hW))
  obtain ⟨o1, c1, rfl, _, _⟩ := h1.slice
  obtain ⟨o2, c2, rfl, _, _⟩ := h2.slice
  clear h1 h2
  have hS : ((bs s).toList == (bs s).toList) = true := by rw [txt_eq]; simp
  generalize bs s = S at *
  go_enter Tryz.func25, Tryz.ntmps25
  go_wp2_with fail
  refine (HE.out _ ((Up.alloc _ _).trans (Up.alloc _ _))).mono ?_
  rintro e w1 ⟨rfl, u1⟩
  go_wp2_with fail
  go_ret
  exact ⟨rfl, ((Up.alloc _ _).trans (Up.alloc _ _)).trans u1⟩

theorem eg_same : ∀ args w, (callFunc 25 args).run Tryz.prog w = .ok (.enter 25 args) w := enters_of Tryz.func25 (by kernel_rfl) rfl

set_option maxRecDepth 100000 in
set_option maxHeartbeats 400000 in
theorem equalV_yes (v1 v2 : Value) (l : List Vo) (w : World) (h1 : Vols w v1 l) (h2 : Vols w v2 l) :
    Calls Tryz.prog 24 #[v1, v2, .func (.func 25) #[] #[]] w fun e w' => e = .returned (.bool true) ∧ Up w w' := by
  obtain ⟨o1, c1, rfl, p1, p2⟩ := h1.slice
  obtain ⟨o2, c2, rfl, q1, q2⟩ := h2.slice
  have HP := Lib.hid h1
  have HQ := Lib.hid h2
  unfold maxLen at p2 q2
  clear h1 h2
  go_enter Tryz.func24, Tryz.ntmps24
  go_wp2_with fail
  go_loopw [17] (fun i wr => EqDRel l.length w i wr) (fun i _ => l.length - (intOf i).toNat)
  case atStart => exact ⟨0, Nat.zero_le _, rfl, Up.refl w⟩
  case round =>
    obtain ⟨k, hk, rfl, hu⟩ := hrel
    by_cases hlt : k < l.length
    · have hne : l ≠ [] := by intro e; rw [e] at hlt; simp at hlt
      obtain ⟨b, off, rfl, h5⟩ := HP.out.at hne
      obtain ⟨b', off', rfl, h6⟩ := HQ.out.at hne
      obtain ⟨e1, u, e2, hi1⟩ := h5 k hlt
      obtain ⟨f1, u', f2, hi2⟩ := h6 k hlt
      obtain ⟨n1, dd1, rfl, _, _⟩ := hi1.slice
      obtain ⟨n2, d2, rfl, _, _⟩ := hi2.slice
      have HC := Lib.hid (fun W (hW : Up w W) => same1_yes l[k].nm _ _ l[k].bl W (hi1.up hW) (hi2.up hW))
      rw [← hu.cell (World.block_lt_of_cell? w _ e1)] at e1
      rw [← hu.cell (World.block_lt_of_cell? w _ e2)] at e2
      rw [← hu.cell (World.block_lt_of_cell? w _ f1)] at f1
      rw [← hu.cell (World.block_lt_of_cell? w _ f2)] at f2
      have f1' := Lib.cell?_alloc_some (.cells #[.string (bs l[k].nm), .slice n1 l[k].bl.length dd1] 72) f1
      have f2' := Lib.cell?_alloc_some (.cells #[.string (bs l[k].nm), .slice n1 l[k].bl.length dd1] 72) f2
      generalize bs l[k].nm = S at *
      obtain ⟨L, hL⟩ : ∃ L, l[k].bl.length = L := ⟨_, rfl⟩
      rw [hL] at e2 f2 f1' f2' HC
      have HU := Lib.hid hu
      have d1 : decide (k < l.length) = true := decide_eq_true hlt
      clear h5 h6 hu hne hi1 hi2 hL
      go_wp2_with fail
      refine (HC.out _ ((HU.out.trans (Up.alloc _ _)).trans (Up.alloc _ _))).mono ?_
      rintro e w1 ⟨rfl, u1⟩
      have HU1 := Lib.hid (((HU.out.trans (Up.alloc _ _)).trans (Up.alloc _ _)).trans u1)
      clear u1
      go_wp2_with fail
      go_roundw
      case rel => exact ⟨k + 1, by omega, by go_num, HU1.out⟩
      case measure => simp only [intOf]; omega
    · have d1 : decide (k < l.length) = false := decide_eq_false hlt
      go_wp2_with fail
      go_ret
      exact ⟨rfl, hu⟩

set_option maxRecDepth 100000 in
set_option maxHeartbeats 400000 in
theorem same_yes (v1 v2 : Value) (st : Sta) (w : World) (h1 : Stat w v1 st) (h2 : Stat w v2 st) :
    Calls Tryz.prog 10 #[v1, v2] w fun e w' => e = .returned (.bool true) ∧ Up w w' := by
  obtain ⟨a1, b1, rfl, hi1, hv1⟩ := h1
  obtain ⟨a2, b2, rfl, hi2, hv2⟩ := h2
  have HI := Lib.hid (fun W (hW : Up w W) => equalI_yes a1 a2 st.b W (hi1.up hW) (hi2.up hW))
  have HV := Lib.hid (fun W (hW : Up w W) => equalV_yes b1 b2 st.v W (hv1.up hW) (hv2.up hW))
  obtain ⟨o1, c1, rfl, _⟩ := hi1.slice
  obtain ⟨o2, c2, rfl, _⟩ := hi2.slice
  obtain ⟨o3, c3, rfl, _, _⟩ := hv1.slice
  obtain ⟨o4, c4, rfl, _, _⟩ := hv2.slice
  clear hi1 hi2 hv1 hv2
  generalize st.b.length = M at *
  generalize st.v.length = N at *
  go_enter Tryz.func10, Tryz.ntmps10
  have HR1 : Hid (RowC ((w.alloc (.cells #[.slice o1 M c1, .slice o3 N c3] 31)).alloc (.cells #[.slice o2 M c2, .slice o4 N c4] 31)) w.heap.size 31 [.slice o1 M c1, .slice o3 N c3]) := RowC.up (heap_alloc_new w _) (Up.alloc _ _)
  have HR2 : Hid (RowC ((w.alloc (.cells #[.slice o1 M c1, .slice o3 N c3] 31)).alloc (.cells #[.slice o2 M c2, .slice o4 N c4] 31)) (w.heap.size + 1) 31 [.slice o2 M c2, .slice o4 N c4]) := box_new w _ _ _ _
  have HW0 : Hid (Up w ((w.alloc (.cells #[.slice o1 M c1, .slice o3 N c3] 31)).alloc (.cells #[.slice o2 M c2, .slice o4 N c4] 31))) := (Up.alloc _ _).trans (Up.alloc _ _)
  go_wp2_with fail
  generalize ((w.alloc (.cells #[.slice o1 M c1, .slice o3 N c3] 31)).alloc (.cells #[.slice o2 M c2, .slice o4 N c4] 31)) = W0 at HR1 HR2 HW0 ⊢
  refine (HI.out _ HW0.out).mono ?_
  rintro e w1 ⟨rfl, u1⟩
  have x0 := (HR1.out.up u1).cell (j := 1) rfl
  have x1 := (HR2.out.up u1).cell (j := 1) rfl
  go_wp2_with fail
  refine (HV.out _ (HW0.out.trans u1)).mono ?_
  rintro e w2 ⟨rfl, u2⟩
  go_wp2_with fail
  go_ret
  exact ⟨rfl, (HW0.out.trans u1).trans u2⟩

end Go.Proofs.YtkkecgamaahniaaGreat

/-
  A slice that came in reads as a row of elements (open_rowT); slices of texts and of steps that came in. Conditions: they can be read as data.
-/
namespace Go.Proofs.YtkkecgamaahniaaGreat
open Go.RowKit
open Go.Proofs
open Go.ChangeShapes Go.WideShapes Go.Deep
open WoolTree

theorem add_offR (b off j : Nat) : (⟨b, off, none⟩ : Addr).add j = ⟨b, off + j, none⟩ := by
  unfold Addr.add
  split
  · rename_i e; subst e; rfl
  · rfl

theorem cellsStrT : Tryz.prog.cellsOf 9 = 1 := by kernel_rfl

section
variable {H : Type} {enc : TypeId × Value → H} {w : World} {base : Nat} {spare : Nat → Bool} {held : Bool}

theorem open_rowT {α : Type} [Inhabited α] (f : α → List Value) (Pr : α → Prop) {t e : TypeId} {m : Nat} (hfl : ∀ x, (f x).length = m) (hm0 : 0 < m) (ht : Tryz.prog.underlying t = some (.slice e)) (hc : Tryz.prog.cellsOf e = m)
    (hel : ∀ n cs (y : DataW H × List MemPlace), DataW.trod enc Tryz.prog w base (fun _ => true) held n e cs = some y → ∃ x, cs = f x ∧ Pr x) {fuel : Nat} {cs : List Value} {x : DataW H × List MemPlace}
    (h : DataW.trod enc Tryz.prog w base (fun _ => true) held fuel t cs = some x) : ∃ (o : Option Addr) (len cap : Nat) (l : List α), cs = [.slice o len cap] ∧ l.length = len ∧ Sl w m (.slice o len cap) l.length (fl f l) ∧ ∀ x ∈ l, Pr x := by
  rcases open_slice ht h with ⟨rfl, _⟩ | ⟨a, len, cap, m', n, D, Pl, rfl, _, hl, hm, hmm, _, hi⟩
  · exact ⟨none, 0, 0, [], rfl, rfl, Sl.nil w m, by simp⟩
  · rw [if_pos rfl] at hmm
    obtain rfl : cap = m' := hmm.symm
    rw [hc] at hi
    have hex : ∀ i, ∃ x : α, i < cap → (Pr x ∧ ∀ j u, (f x)[j]? = some u → w.cell? ((a.add (i * m)).add j) = some u) := by
      intro i
      by_cases hic : i < cap
      · obtain ⟨cs', hc', ht'⟩ := hi i hic
        obtain ⟨x, rfl, hx⟩ := hel _ _ _ ht'
        obtain ⟨_, _, hat⟩ := World.cells?_some hc'
        refine ⟨x, fun _ => ⟨hx, fun j u hu => ?_⟩⟩
        have hj : j < m := by rw [← hfl x]; exact (List.getElem?_eq_some_iff.1 hu).1
        rw [hat j hj]
        exact hu
      · exact ⟨default, fun h => absurd h hic⟩
    obtain ⟨g, hg⟩ := Classical.axiomOfChoice hex
    have hlen : ((List.range len).map g).length = len := by rw [List.length_map, List.length_range]
    refine ⟨some a, len, cap, (List.range len).map g, rfl, hlen, ⟨fl_length hfl _, some a, cap, by rw [hlen], by rw [hlen]; exact hl, hm, ?_⟩, ?_⟩
    · by_cases h0 : len = 0
      · left; rw [hlen]; exact h0
      · right
        obtain ⟨b, off, spot⟩ := a
        have hspot : spot = none := by
          have h00 : 0 < (f (g 0)).length := by rw [hfl]; exact hm0
          have hs0 := (hg 0 (by omega)).2 0 _ (List.getElem?_eq_getElem h00)
          simpa [Addr.add] using World.cell?_spot hs0
        subst hspot
        refine ⟨b, off, rfl, fun j u hu => ?_⟩
        have hjl : j < len * m := by
          have := (List.getElem?_eq_some_iff.1 hu).1
          rwa [fl_length hfl, hlen] at this
        have hk : j / m < len := Nat.div_lt_of_lt_mul (by rw [Nat.mul_comm]; exact hjl)
        have hr : j % m < m := Nat.mod_lt _ hm0
        have hd : j / m * m + j % m = j := by rw [Nat.mul_comm]; exact Nat.div_add_mod j m
        have hk' : j / m < ((List.range len).map g).length := by rw [hlen]; exact hk
        have h1 := fl_get hfl ((List.range len).map g) (j / m) hk' (j % m) hr
        rw [hd, hu] at h1
        have h2 : ((List.range len).map g)[j / m] = g (j / m) := by rw [List.getElem_map, List.getElem_range]
        rw [h2] at h1
        have h3 := (hg (j / m) (by omega)).2 (j % m) u h1.symm
        rw [add_offR, add_offR, Nat.add_assoc, hd] at h3
        exact h3
    · intro x hx
      obtain ⟨i, hi1, rfl⟩ := List.mem_map.1 hx
      rw [List.mem_range] at hi1
      exact (hg i (by omega)).1

theorem txt_cells {n : Nat} {cs : List Value} {y : DataW H × List MemPlace} (h : DataW.trod enc Tryz.prog w base spare held n 9 cs = some y) : ∃ x : List UInt8, cs = txC x ∧ x.length ≤ 9223372036854775807 := by
  obtain ⟨t, ht, _, ht2⟩ := DataW.trod_string Tryz.underlying9 h
  subst ht
  refine ⟨t.data.toList, ?_, ?_⟩
  · unfold txC; rw [bs_of]
  · rw [ba_length]; unfold maxLen at ht2; omega

theorem bytesStrT : Tryz.prog.bytesOf 9 = 16 := by kernel_rfl

end

end Go.Proofs.YtkkecgamaahniaaGreat

/-
  A deed that came in reads as a deed. Conditions: it can be read as data.
-/
namespace Go.Proofs.YtkkecgamaahniaaGreat
open Go.RowKit
open Go.Proofs
open Go.ChangeShapes Go.WideShapes Go.Deep
open WoolVol

theorem cellsOp : Tryz.prog.cellsOf 27 = 5 := by kernel_rfl
theorem cellsIntO : Tryz.prog.cellsOf 3 = 1 := by kernel_rfl
theorem cellsStrO : Tryz.prog.cellsOf 9 = 1 := by kernel_rfl
theorem bytesOp : Tryz.prog.bytesOf 27 = 64 := by kernel_rfl

section
variable {H : Type} {enc : TypeId × Value → H} {w : World} {base : Nat} {spare : Nat → Bool} {held : Bool}

set_option maxRecDepth 100000 in
theorem op_cells {n : Nat} {cs : List Value} {y : DataW H × List MemPlace} (h : DataW.trod enc Tryz.prog w base spare held n 27 cs = some y) : ∃ x : Opn, cs = opC x ∧ OpWf x := by
  obtain ⟨xs, m, _, _, hl, hxl, hf⟩ := DataW.trod_struct Tryz.underlying27 h
  rw [cellsOp] at hl
  match cs, hl with
  | [c0, c1, c2, c3, c4], _ =>
    match xs, hxl with
    | [x0, x1, x2, x3, x4], _ =>
      have f0 : DataW.trod enc Tryz.prog w base spare held m 3 [c0] = some x0 := by simpa [cellsIntO, cellsStrO] using hf 0 _ rfl
      have f1 : DataW.trod enc Tryz.prog w base spare held m 9 [c1] = some x1 := by simpa [cellsIntO, cellsStrO] using hf 1 _ rfl
      have f2 : DataW.trod enc Tryz.prog w base spare held m 9 [c2] = some x2 := by simpa [cellsIntO, cellsStrO] using hf 2 _ rfl
      have f3 : DataW.trod enc Tryz.prog w base spare held m 3 [c3] = some x3 := by simpa [cellsIntO, cellsStrO] using hf 3 _ rfl
      have f4 : DataW.trod enc Tryz.prog w base spare held m 9 [c4] = some x4 := by simpa [cellsIntO, cellsStrO] using hf 4 _ rfl
      obtain ⟨k, hk, _, hw0⟩ := DataW.trod_int Tryz.underlying3 f0
      obtain ⟨t1, ht1, _, hw1⟩ := DataW.trod_string Tryz.underlying9 f1
      obtain ⟨t2, ht2, _, hw2⟩ := DataW.trod_string Tryz.underlying9 f2
      obtain ⟨k3, hk3, _, hw3⟩ := DataW.trod_int Tryz.underlying3 f3
      obtain ⟨t4, ht4, _, hw4⟩ := DataW.trod_string Tryz.underlying9 f4
      simp at hk ht1 ht2 hk3 ht4
      unfold maxLen at hw1 hw2 hw4
      refine ⟨⟨k, t1.data.toList, t2.data.toList, k3, t4.data.toList⟩, ?_, hw0, ?_, ?_, hw3, ?_⟩
      · unfold opC; rw [hk, ht1, ht2, hk3, ht4, bs_of, bs_of, bs_of]
      · show t1.data.toList.length ≤ _; rw [ba_length]; omega
      · show t2.data.toList.length ≤ _; rw [ba_length]; omega
      · show t4.data.toList.length ≤ _; rw [ba_length]; omega

set_option maxRecDepth 100000 in
theorem open_op {r : Reach} {b0 : Nat} {v : Value} {d : DataW H} {ps : List MemPlace} (hval : Value.okWide Tryz.prog w r b0 27 v) (hd : DataW.Trod enc Tryz.prog w base spare held 27 v d ps) :
    ∃ o : Opn, v = opA o ∧ OpWf o := by
  simp only [Value.okWide, Tryz.underlying27] at hval
  obtain ⟨cs, rfl, hsz, _⟩ := hval
  obtain ⟨fuel, hf⟩ := hd
  obtain ⟨o, ho, hw⟩ := op_cells hf
  refine ⟨o, ?_, hw⟩
  obtain ⟨l, hcl⟩ : ∃ l, cs = l.toArray := ⟨cs.toList, by simp⟩
  subst hcl
  have e : l = opC o := by simpa [Value.cells] using ho
  subst e
  rfl

end

end Go.Proofs.YtkkecgamaahniaaGreat

/-
  A slice of deeds that came in reads as deeds. Conditions: it can be read as data.
-/
namespace Go.Proofs.YtkkecgamaahniaaGreat
open Go.RowKit
open Go.Proofs
open Go.ChangeShapes Go.WideShapes Go.Deep
open WoolVol

section
variable {H : Type} {enc : TypeId × Value → H} {w : World} {base : Nat} {spare : Nat → Bool} {held : Bool}

theorem open_ops {fuel : Nat} {cs : List Value} {x : DataW H × List MemPlace} (h : DataW.trod enc Tryz.prog w base (fun _ => true) held fuel 22 cs = some x) :
    ∃ (o : Option Addr) (len cap : Nat) (l : List Opn), cs = [.slice o len cap] ∧ Ops w (.slice o len cap) l := by
  obtain ⟨o, len, cap, l, h1, h2, h3, h4⟩ := open_rowT opC OpWf opC_len (by omega) Tryz.underlying22 cellsOp (fun n cs y hy => op_cells hy) h
  exact ⟨o, len, cap, l, h1, h3, h4⟩

/-- how many places were read -/
theorem ops_data {fuel : Nat} {cs : List Value} {x : DataW H × List MemPlace} (h : DataW.trod enc Tryz.prog w base (fun _ => true) held fuel 22 cs = some x) :
    ∃ (o : Option Addr) (len cap : Nat), cs = [.slice o len cap] ∧ (cap = 0 ∨ ∃ es sp, x.1 = .slice es sp ∧ es.length + sp.length = cap) := by
  rcases open_slice Tryz.underlying22 h with ⟨rfl, _⟩ | ⟨a, len, cap, m, n, D, Pl, rfl, _, hl, hm, hmm, hx, hi⟩
  · exact ⟨none, 0, 0, rfl, .inl rfl⟩
  · rw [if_pos rfl] at hmm
    refine ⟨some a, len, cap, rfl, .inr ⟨_, _, congrArg Prod.fst hx, ?_⟩⟩
    rw [List.length_map, List.length_map, List.length_range, List.length_range, hmm]
    omega

end

end Go.Proofs.YtkkecgamaahniaaGreat
