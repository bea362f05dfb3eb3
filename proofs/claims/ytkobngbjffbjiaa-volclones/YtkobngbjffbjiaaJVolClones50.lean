/-
  The texts BagL, SamE, one behind the other; each says below what it holds and on what conditions.
-/
import Derived.Test.YtkobngbjffbjiaaJVolClones34
import Derived.Test.YtkobngbjffbjiaaJVolClones04
import Derived.Test.YtkobngbjffbjiaaJVolClones23
import Derived.Deep.OwnRows
import Derived.Laws.OwnMore

/-
  What the helpers of the laws on bags return: two, refs, used, and slices.Equal of two rows of items that read alike. Conditions: as each says.
-/
namespace Go.Proofs.Ytkobngbjffbjiaa
open Go.RowKit
open Go.Proofs
open WoolBag

/-- the two blocks -/
def one1 : List Itm := (WoolBag.put FP [] [97]).1
def twoL : List Itm := (WoolBag.put FP one1 [98]).1

theorem one_put : ∃ i, WoolBag.put FP [] [97] = (one1, i, 0) ∧ ∀ x ∈ one1, x.t = [97] := by
  have h := put_new (F := FP) (l := []) (t := [97]) Bag.nil (by simp) (by simp) (by simp)
  refine ⟨idOf (new FP [] [97]), ?_, ?_⟩
  · unfold one1; rw [h]
  · unfold one1; rw [h]
    intro x hx
    rcases mem_ins.1 hx with rfl | hx
    · rfl
    · simp at hx

theorem one_len : one1.length = 1 := by
  obtain ⟨i, h, _⟩ := one_put
  rw [length_put h, if_neg (by simp)]; rfl

theorem two_put : ∃ i, WoolBag.put FP one1 [98] = (twoL, i, 0) := by
  obtain ⟨i, h, ht⟩ := one_put
  have h2 := put_new (F := FP) (l := one1) (t := [98]) (put_spec h).1 (by simp) (fun x hx e => by rw [ht x hx] at e; cases e) (by rw [one_len]; omega)
  exact ⟨idOf (new FP one1 [98]), by unfold twoL; rw [h2]⟩

theorem two_bag : Bag FP twoL := by
  obtain ⟨i, h⟩ := two_put
  exact (put_spec h).1

theorem two_len : twoL.length = 2 := by
  obtain ⟨i, h⟩ := two_put
  obtain ⟨j, h1, ht⟩ := one_put
  rw [length_put h, one_len, if_neg (by rintro ⟨x, hx, e⟩; rw [ht x hx] at e; cases e)]

def EqIRel (N : Nat) (w : World) (i : Value) (wr : World) : Prop := ∃ k : Nat, k ≤ N ∧ i = .int .i64 k ∧ Up w wr

set_option maxRecDepth 100000 in
set_option maxHeartbeats 400000 in
theorem equalI_yes (v1 v2 : Value) (l : List Itm) (w : World) (h1 : Items w v1 l) (h2 : Items w v2 l) :
    Calls Try.prog 59 #[v1, v2] w fun e w' => e = .returned (.bool true) ∧ Up w w' := by
  obtain ⟨o1, c1, rfl, p1, p2, p3⟩ := h1
  obtain ⟨o2, c2, rfl, q1, q2, q3⟩ := h2
  have HP := Lib.hid p3
  have HQ := Lib.hid q3
  unfold maxLen at p2 q2
  clear p3 q3
  go_enter Try.func59, Try.ntmps59
  go_wp2_with fail
  go_loopw [13] (fun i wr => EqIRel l.length w i wr) (fun i _ => l.length - (intOf i).toNat)
  case atStart => exact ⟨0, Nat.zero_le _, rfl, Up.refl w⟩
  case round =>
    obtain ⟨k, hk, rfl, hu⟩ := hrel
    by_cases hlt : k < l.length
    · rcases HP.out with h5 | ⟨b, off, rfl, h5⟩
      · rw [h5] at hlt; simp at hlt
      · rcases HQ.out with h6 | ⟨b', off', rfl, h6⟩
        · rw [h6] at hlt; simp at hlt
        · obtain ⟨e1, e2, e3, e4⟩ := h5 k hlt
          rw [← hu.cell (World.block_lt_of_cell? w _ e1)] at e1
          rw [← hu.cell (World.block_lt_of_cell? w _ e2)] at e2
          rw [← hu.cell (World.block_lt_of_cell? w _ e3)] at e3
          rw [← hu.cell (World.block_lt_of_cell? w _ e4)] at e4
          obtain ⟨f1, f2, f3, f4⟩ := h6 k hlt
          rw [← hu.cell (World.block_lt_of_cell? w _ f1)] at f1
          rw [← hu.cell (World.block_lt_of_cell? w _ f2)] at f2
          rw [← hu.cell (World.block_lt_of_cell? w _ f3)] at f3
          rw [← hu.cell (World.block_lt_of_cell? w _ f4)] at f4
          generalize l[k].s = xs at e1 f1
          generalize l[k].n = xn at e2 f2
          generalize bs l[k].t = xt at e3 f3
          generalize l[k].r = xr at e4 f4
          have HU := Lib.hid hu
          have d1 : decide (k < l.length) = true := decide_eq_true hlt
          clear h5 h6 hu
          go_wp2_with fail
          go_quiet (fail)
          go_wp2_with fail
          go_roundw
          case rel => exact ⟨k + 1, by omega, by go_num, HU.out.trans (Up.drewN _ _)⟩
          case measure => simp only [intOf]; omega
    · have d1 : decide (k < l.length) = false := decide_eq_false hlt
      go_wp2_with fail
      go_ret
      exact ⟨rfl, hu⟩

def RefsRel (l : List Itm) (w : World) (n i : Value) (wr : World) : Prop :=
  ∃ k : Nat, k ≤ l.length ∧ i = .int .i64 k ∧ n = .int .i64 (refs (l.take k)) ∧ Up w wr

set_option maxRecDepth 100000 in
set_option maxHeartbeats 400000 in
theorem refs_any (v : Value) (l : List Itm) (w : World) (h : Items w v l) (hb : Bag FP l) :
    Calls Try.prog 18 #[v] w fun e w' => e = .returned (.int .i64 (refs l)) ∧ Up w w' := by
  obtain ⟨o, c, rfl, h2, h3, h4⟩ := h
  unfold maxLen at h3
  have H4 := Lib.hid h4
  have HB := Lib.hid hb
  clear h4 hb
  go_enter Try.func18, Try.ntmps18
  go_wp2_with fail
  go_loopw [3, 8] (fun n i wr => RefsRel l w n i wr) (fun _ i _ => l.length - (intOf i).toNat)
  case atStart => exact ⟨0, Nat.zero_le _, rfl, rfl, Up.refl w⟩
  case round =>
    obtain ⟨k, hk, rfl, rfl, hu⟩ := hrel
    by_cases hlt : k < l.length
    · rcases H4.out with h5 | ⟨b, off, rfl, h5⟩
      · rw [h5] at hlt; simp at hlt
      · obtain ⟨a1, a2, a3, a4⟩ := h5 k hlt
        rw [← hu.cell (World.block_lt_of_cell? w _ a1)] at a1
        rw [← hu.cell (World.block_lt_of_cell? w _ a2)] at a2
        rw [← hu.cell (World.block_lt_of_cell? w _ a3)] at a3
        rw [← hu.cell (World.block_lt_of_cell? w _ a4)] at a4
        have hr := refs_take HB.out k
        have hok := HB.out.ok _ (List.getElem_mem hlt)
        have r1 := hok.2.2.2.2.1
        have r2 := hok.2.2.2.2.2
        have hs : refs (l.take (k + 1)) = refs (l.take k) + l[k].r := by
          rw [List.take_succ_eq_append_getElem hlt, refs_append, refs_cons]
          show _ + (_ + (0 : Int)) = _
          omega
        have HS := Lib.hid hs
        clear hs hok
        obtain ⟨r, hrr⟩ : ∃ r, l[k].r = r := ⟨_, rfl⟩
        rw [hrr] at a4 r1 r2 HS
        obtain ⟨N, hN⟩ : ∃ N, refs (l.take k) = N := ⟨_, rfl⟩
        rw [hN] at hr HS ⊢
        generalize l[k].s = xs at a1
        generalize l[k].n = xn at a2
        generalize bs l[k].t = xt at a3
        have hw : IntKind.i64.wrap (N + r) = N + r := IntWalk.i64_in _ (by omega)
        have HU := Lib.hid hu
        have d1 : decide (k < l.length) = true := decide_eq_true hlt
        clear h5 hu hrr hN
        go_wp2_with fail
        go_roundw
        case rel => exact ⟨k + 1, by omega, by go_num, by rw [HS.out], HU.out.trans (Up.alloc _ _)⟩
        case measure => simp only [intOf]; omega
    · have d1 : decide (k < l.length) = false := decide_eq_false hlt
      have hte : l.take k = l := List.take_of_length_le (by omega)
      rw [hte]
      clear hte
      go_wp2_with fail
      go_ret
      exact ⟨rfl, hu⟩

def UsedRel (l : List Itm) (u : List UInt8) (w : World) (i : Value) (wr : World) : Prop :=
  ∃ k : Nat, k ≤ l.length ∧ i = .int .i64 k ∧ Up w wr ∧ ∀ j (h : j < l.length), j < k → txtB u l[j] = false

end Go.Proofs.Ytkobngbjffbjiaa

/-
  slices.Equal of two rows of identifiers that read alike; the reference's SameState of two states that read alike. Conditions: as each says.
-/
namespace Go.Proofs.Ytkobngbjffbjiaa
open Go.RowKit
open Go.Proofs
open WoolBag
open WoolVol

def EqDRel (N : Nat) (w : World) (i : Value) (wr : World) : Prop := ∃ k : Nat, k ≤ N ∧ i = .int .i64 k ∧ Up w wr

set_option maxRecDepth 100000 in
set_option maxHeartbeats 400000 in
theorem equalD_yes (v1 v2 : Value) (l : List Idn) (w : World) (h1 : Ids w v1 l) (h2 : Ids w v2 l) :
    Calls Try.prog 41 #[v1, v2] w fun e w' => e = .returned (.bool true) ∧ Up w w' := by
  obtain ⟨o1, c1, rfl, p1, p2⟩ := h1.slice
  obtain ⟨o2, c2, rfl, q1, q2⟩ := h2.slice
  have HP := Lib.hid h1
  have HQ := Lib.hid h2
  unfold maxLen at p2 q2
  clear h1 h2
  go_enter Try.func41, Try.ntmps41
  go_wp2_with fail
  go_loopw [13] (fun i wr => EqDRel l.length w i wr) (fun i _ => l.length - (intOf i).toNat)
  case atStart => exact ⟨0, Nat.zero_le _, rfl, Up.refl w⟩
  case round =>
    obtain ⟨k, hk, rfl, hu⟩ := hrel
    by_cases hlt : k < l.length
    · have hne : l ≠ [] := by intro e; rw [e] at hlt; simp at hlt
      obtain ⟨b, off, rfl, h5⟩ := HP.out.at hne
      obtain ⟨b', off', rfl, h6⟩ := HQ.out.at hne
      obtain ⟨e1, e2, e3⟩ := h5 k hlt
      rw [← hu.cell (World.block_lt_of_cell? w _ e1)] at e1
      rw [← hu.cell (World.block_lt_of_cell? w _ e2)] at e2
      rw [← hu.cell (World.block_lt_of_cell? w _ e3)] at e3
      obtain ⟨f1, f2, f3⟩ := h6 k hlt
      rw [← hu.cell (World.block_lt_of_cell? w _ f1)] at f1
      rw [← hu.cell (World.block_lt_of_cell? w _ f2)] at f2
      rw [← hu.cell (World.block_lt_of_cell? w _ f3)] at f3
      generalize l[k].1 = xs at e1 f1
      generalize l[k].2.1 = xn at e2 f2
      generalize l[k].2.2 = xr at e3 f3
      have HU := Lib.hid hu
      have d1 : decide (k < l.length) = true := decide_eq_true hlt
      clear h5 h6 hu hne
      go_wp2_with fail
      go_quiet (fail)
      go_wp2_with fail
      go_roundw
      case rel => exact ⟨k + 1, by omega, by go_num, HU.out.trans (Up.drewN _ _)⟩
      case measure => simp only [intOf]; omega
    · have d1 : decide (k < l.length) = false := decide_eq_false hlt
      go_wp2_with fail
      go_ret
      exact ⟨rfl, hu⟩

set_option maxRecDepth 100000 in
set_option maxHeartbeats 400000 in
theorem same1_yes (s : List UInt8) (v1 v2 : Value) (l : List Idn) (w : World) (h1 : Ids w v1 l) (h2 : Ids w v2 l) :
    Calls Try.prog 61 #[.agg #[.string (bs s), v1], .agg #[.string (bs s), v2]] w fun e w' => e = .returned (.bool true) ∧ Up w w' := by
  have HE := Lib.hid (fun W (hW : Up w W) => equalD_yes v1 v2 l W (h1.up hW) (h2.up hW))
  obtain ⟨o1, c1, rfl, _, _⟩ := h1.slice
  obtain ⟨o2, c2, rfl, _, _⟩ := h2.slice
  clear h1 h2
  have hS : ((bs s).toList == (bs s).toList) = true := by rw [txt_eq]; simp
  generalize bs s = S at *
  go_enter Try.func61, Try.ntmps61
  go_wp2_with fail
  refine (HE.out _ ((Up.alloc _ _).trans (Up.alloc _ _))).mono ?_
  rintro e w1 ⟨rfl, u1⟩
  go_wp2_with fail
  go_ret
  exact ⟨rfl, ((Up.alloc _ _).trans (Up.alloc _ _)).trans u1⟩

theorem eg_same : ∀ args w, (callFunc 61 args).run Try.prog w = .ok (.enter 61 args) w := enters_of Try.func61 (by kernel_rfl) rfl

set_option maxRecDepth 100000 in
set_option maxHeartbeats 400000 in
theorem equalV_yes (v1 v2 : Value) (l : List Vo) (w : World) (h1 : Vols w v1 l) (h2 : Vols w v2 l) :
    Calls Try.prog 60 #[v1, v2, .func (.func 61) #[] #[]] w fun e w' => e = .returned (.bool true) ∧ Up w w' := by
  obtain ⟨o1, c1, rfl, p1, p2⟩ := h1.slice
  obtain ⟨o2, c2, rfl, q1, q2⟩ := h2.slice
  have HP := Lib.hid h1
  have HQ := Lib.hid h2
  unfold maxLen at p2 q2
  clear h1 h2
  go_enter Try.func60, Try.ntmps60
  go_wp2_with fail
  go_loopw [17] (fun i wr => EqDRel l.length w i wr) (fun i _ => l.length - (intOf i).toNat)
  case atStart => exact ⟨0, Nat.zero_le _, rfl, Up.refl w⟩
  case round =>
    obtain ⟨k, hk, rfl, hu⟩ := hrel
    by_cases hlt : k < l.length
    · have hne : l ≠ [] := by intro e; rw [e] at hlt; simp at hlt
      obtain ⟨b, off, rfl, h5⟩ := HP.out.at hne
      obtain ⟨b', off', rfl, h6⟩ := HQ.out.at hne
      obtain ⟨e1, u, e2, hi1⟩ := h5 k hlt
      obtain ⟨f1, u', f2, hi2⟩ := h6 k hlt
      obtain ⟨n1, dd1, rfl, _, _⟩ := hi1.slice
      obtain ⟨n2, d2, rfl, _, _⟩ := hi2.slice
      have HC := Lib.hid (fun W (hW : Up w W) => same1_yes l[k].nm _ _ l[k].bl W (hi1.up hW) (hi2.up hW))
      rw [← hu.cell (World.block_lt_of_cell? w _ e1)] at e1
      rw [← hu.cell (World.block_lt_of_cell? w _ e2)] at e2
      rw [← hu.cell (World.block_lt_of_cell? w _ f1)] at f1
      rw [← hu.cell (World.block_lt_of_cell? w _ f2)] at f2
      have f1' := Lib.cell?_alloc_some (.cells #[.string (bs l[k].nm), .slice n1 l[k].bl.length dd1] 31) f1
      have f2' := Lib.cell?_alloc_some (.cells #[.string (bs l[k].nm), .slice n1 l[k].bl.length dd1] 31) f2
      generalize bs l[k].nm = S at *
      obtain ⟨L, hL⟩ : ∃ L, l[k].bl.length = L := ⟨_, rfl⟩
      rw [hL] at e2 f2 f1' f2' HC
      have HU := Lib.hid hu
      have d1 : decide (k < l.length) = true := decide_eq_true hlt
      clear h5 h6 hu hne hi1 hi2 hL
      go_wp2_with fail
      refine (HC.out _ ((HU.out.trans (Up.alloc _ _)).trans (Up.alloc _ _))).mono ?_
      rintro e w1 ⟨rfl, u1⟩
      have HU1 := Lib.hid (((HU.out.trans (Up.alloc _ _)).trans (Up.alloc _ _)).trans u1)
      clear u1
      go_wp2_with fail
      go_roundw
      case rel => exact ⟨k + 1, by omega, by go_num, HU1.out⟩
      case measure => simp only [intOf]; omega
    · have d1 : decide (k < l.length) = false := decide_eq_false hlt
      go_wp2_with fail
      go_ret
      exact ⟨rfl, hu⟩

set_option maxRecDepth 100000 in
set_option maxHeartbeats 400000 in
theorem same_yes (v1 v2 : Value) (st : Sta) (w : World) (h1 : Stat w v1 st) (h2 : Stat w v2 st) :
    Calls Try.prog 27 #[v1, v2] w fun e w' => e = .returned (.bool true) ∧ Up w w' := by
  obtain ⟨a1, b1, rfl, hi1, hv1⟩ := h1
  obtain ⟨a2, b2, rfl, hi2, hv2⟩ := h2
  have HI := Lib.hid (fun W (hW : Up w W) => equalI_yes a1 a2 st.b W (hi1.up hW) (hi2.up hW))
  have HV := Lib.hid (fun W (hW : Up w W) => equalV_yes b1 b2 st.v W (hv1.up hW) (hv2.up hW))
  obtain ⟨o1, c1, rfl, _⟩ := hi1.slice
  obtain ⟨o2, c2, rfl, _⟩ := hi2.slice
  obtain ⟨o3, c3, rfl, _, _⟩ := hv1.slice
  obtain ⟨o4, c4, rfl, _, _⟩ := hv2.slice
  clear hi1 hi2 hv1 hv2
  generalize st.b.length = M at *
  generalize st.v.length = N at *
  go_enter Try.func27, Try.ntmps27
  have HR1 : Hid (RowC ((w.alloc (.cells #[.slice o1 M c1, .slice o3 N c3] 27)).alloc (.cells #[.slice o2 M c2, .slice o4 N c4] 27)) w.heap.size 27 [.slice o1 M c1, .slice o3 N c3]) := RowC.up (heap_alloc_new w _) (Up.alloc _ _)
  have HR2 : Hid (RowC ((w.alloc (.cells #[.slice o1 M c1, .slice o3 N c3] 27)).alloc (.cells #[.slice o2 M c2, .slice o4 N c4] 27)) (w.heap.size + 1) 27 [.slice o2 M c2, .slice o4 N c4]) := box_new w _ _ _ _
  have HW0 : Hid (Up w ((w.alloc (.cells #[.slice o1 M c1, .slice o3 N c3] 27)).alloc (.cells #[.slice o2 M c2, .slice o4 N c4] 27))) := (Up.alloc _ _).trans (Up.alloc _ _)
  go_wp2_with fail
  generalize ((w.alloc (.cells #[.slice o1 M c1, .slice o3 N c3] 27)).alloc (.cells #[.slice o2 M c2, .slice o4 N c4] 27)) = W0 at HR1 HR2 HW0 ⊢
  refine (HI.out _ HW0.out).mono ?_
  rintro e w1 ⟨rfl, u1⟩
  have x0 := (HR1.out.up u1).cell (j := 1) rfl
  have x1 := (HR2.out.up u1).cell (j := 1) rfl
  go_wp2_with fail
  refine (HV.out _ (HW0.out.trans u1)).mono ?_
  rintro e w2 ⟨rfl, u2⟩
  go_wp2_with fail
  go_ret
  exact ⟨rfl, (HW0.out.trans u1).trans u2⟩

end Go.Proofs.Ytkobngbjffbjiaa
