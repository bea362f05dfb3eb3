/-
  The texts RefVol9, Diff4, one behind the other; each says below what it holds and on what conditions.
-/
import Derived.Test.YtjmmifanaffegaaGreatDoorRefVol3
import Derived.Test.YtjmmifanaffegaaGreatDoorJ39
import Derived.Test.YtjmmifanaffegaaGreatDoorJ41
import Derived.Test.YtjmmifanaffegaaGreatDoorDiff3

/-
  The reference's SameState of two states that read alike, and the law's told. Conditions: as each says.
-/
namespace Go.Proofs.YtjmmifanaffegaaGreatDoor
open Go.RowKit
open Go.Proofs
open WoolBag
open WoolVol

set_option maxRecDepth 100000 in
set_option maxHeartbeats 400000 in
theorem same1_yes (s : List UInt8) (v1 v2 : Value) (l : List Idn) (w : World) (h1 : Ids w v1 l) (h2 : Ids w v2 l) :
    Calls Tryz.prog 46 #[.agg #[.string (bs s), v1], .agg #[.string (bs s), v2]] w fun e w' => e = .returned (.bool true) ∧ Up w w' := by
  have HE := Lib.hid (fun W (hW : Up w W) => equalD_yes v1 v2 l W (h1.up hW) (h2.up hW))
  obtain ⟨o1, c1, rfl, _, _⟩ := h1.slice
  obtain ⟨o2, c2, rfl, _, _⟩ := h2.slice
  clear h1 h2
  have hS : ((bs s).toList == (bs s).toList) = true := by rw [txt_eq]; simp
  generalize bs s = S at *
  go_enter Tryz.func46, Tryz.ntmps46
  go_wp2_with fail
  refine (HE.out _ ((Up.alloc _ _).trans (Up.alloc _ _))).mono ?_
  rintro e w1 ⟨rfl, u1⟩
  go_wp2_with fail
  go_ret
  exact ⟨rfl, ((Up.alloc _ _).trans (Up.alloc _ _)).trans u1⟩

theorem eg_same : ∀ args w, (callFunc 46 args).run Tryz.prog w = .ok (.enter 46 args) w := enters_of Tryz.func46 (by kernel_rfl) rfl

set_option maxRecDepth 100000 in
set_option maxHeartbeats 400000 in
theorem equalV_yes (v1 v2 : Value) (l : List Vo) (w : World) (h1 : Vols w v1 l) (h2 : Vols w v2 l) :
    Calls Tryz.prog 45 #[v1, v2, .func (.func 46) #[] #[]] w fun e w' => e = .returned (.bool true) ∧ Up w w' := by
  obtain ⟨o1, c1, rfl, p1, p2⟩ := h1.slice
  obtain ⟨o2, c2, rfl, q1, q2⟩ := h2.slice
  have HP := Lib.hid h1
  have HQ := Lib.hid h2
  unfold maxLen at p2 q2
  clear h1 h2
  go_enter Tryz.func45, Tryz.ntmps45
  go_wp2_with fail
  go_loopw [17] (fun i wr => EqDRel l.length w i wr) (fun i _ => l.length - (intOf i).toNat)
  case atStart => exact ⟨0, Nat.zero_le _, rfl, Up.refl w⟩
  case round =>
    obtain ⟨k, hk, rfl, hu⟩ := hrel
    by_cases hlt : k < l.length
    · have hne : l ≠ [] := by intro e; rw [e] at hlt; simp at hlt
      obtain ⟨b, off, rfl, h5⟩ := HP.out.at hne
      obtain ⟨b', off', rfl, h6⟩ := HQ.out.at hne
      obtain ⟨e1, u, e2, hi1⟩ := h5 k hlt
      obtain ⟨f1, u', f2, hi2⟩ := h6 k hlt
      obtain ⟨n1, dd1, rfl, _, _⟩ := hi1.slice
      obtain ⟨n2, d2, rfl, _, _⟩ := hi2.slice
      have HC := Lib.hid (fun W (hW : Up w W) => same1_yes l[k].nm _ _ l[k].bl W (hi1.up hW) (hi2.up hW))
      rw [← hu.cell (World.block_lt_of_cell? w _ e1)] at e1
      rw [← hu.cell (World.block_lt_of_cell? w _ e2)] at e2
      rw [← hu.cell (World.block_lt_of_cell? w _ f1)] at f1
      rw [← hu.cell (World.block_lt_of_cell? w _ f2)] at f2
      have f1' := Lib.cell?_alloc_some (.cells #[.string (bs l[k].nm), .slice n1 l[k].bl.length dd1] 47) f1
      have f2' := Lib.cell?_alloc_some (.cells #[.string (bs l[k].nm), .slice n1 l[k].bl.length dd1] 47) f2
      generalize bs l[k].nm = S at *
      obtain ⟨L, hL⟩ : ∃ L, l[k].bl.length = L := ⟨_, rfl⟩
      rw [hL] at e2 f2 f1' f2' HC
      have HU := Lib.hid hu
      have d1 : decide (k < l.length) = true := decide_eq_true hlt
      clear h5 h6 hu hne hi1 hi2 hL
      go_wp2_with fail
      refine (HC.out _ ((HU.out.trans (Up.alloc _ _)).trans (Up.alloc _ _))).mono ?_
      rintro e w1 ⟨rfl, u1⟩
      have HU1 := Lib.hid (((HU.out.trans (Up.alloc _ _)).trans (Up.alloc _ _)).trans u1)
      clear u1
      go_wp2_with fail
      go_roundw
      case rel => exact ⟨k + 1, by omega, by go_num, HU1.out⟩
      case measure => simp only [intOf]; omega
    · have d1 : decide (k < l.length) = false := decide_eq_false hlt
      go_wp2_with fail
      go_ret
      exact ⟨rfl, hu⟩

set_option maxRecDepth 100000 in
set_option maxHeartbeats 400000 in
theorem same_yes (v1 v2 : Value) (st : Sta) (w : World) (h1 : Stat w v1 st) (h2 : Stat w v2 st) :
    Calls Tryz.prog 17 #[v1, v2] w fun e w' => e = .returned (.bool true) ∧ Up w w' := by
  obtain ⟨a1, b1, rfl, hi1, hv1⟩ := h1
  obtain ⟨a2, b2, rfl, hi2, hv2⟩ := h2
  have HI := Lib.hid (fun W (hW : Up w W) => equalI_yes a1 a2 st.b W (hi1.up hW) (hi2.up hW))
  have HV := Lib.hid (fun W (hW : Up w W) => equalV_yes b1 b2 st.v W (hv1.up hW) (hv2.up hW))
  obtain ⟨o1, c1, rfl, _⟩ := hi1.slice
  obtain ⟨o2, c2, rfl, _⟩ := hi2.slice
  obtain ⟨o3, c3, rfl, _, _⟩ := hv1.slice
  obtain ⟨o4, c4, rfl, _, _⟩ := hv2.slice
  clear hi1 hi2 hv1 hv2
  generalize st.b.length = M at *
  generalize st.v.length = N at *
  go_enter Tryz.func17, Tryz.ntmps17
  have HR1 : Hid (RowC ((w.alloc (.cells #[.slice o1 M c1, .slice o3 N c3] 25)).alloc (.cells #[.slice o2 M c2, .slice o4 N c4] 25)) w.heap.size 25 [.slice o1 M c1, .slice o3 N c3]) := RowC.up (heap_alloc_new w _) (Up.alloc _ _)
  have HR2 : Hid (RowC ((w.alloc (.cells #[.slice o1 M c1, .slice o3 N c3] 25)).alloc (.cells #[.slice o2 M c2, .slice o4 N c4] 25)) (w.heap.size + 1) 25 [.slice o2 M c2, .slice o4 N c4]) := box_new w _ _ _ _
  have HW0 : Hid (Up w ((w.alloc (.cells #[.slice o1 M c1, .slice o3 N c3] 25)).alloc (.cells #[.slice o2 M c2, .slice o4 N c4] 25))) := (Up.alloc _ _).trans (Up.alloc _ _)
  go_wp2_with fail
  generalize ((w.alloc (.cells #[.slice o1 M c1, .slice o3 N c3] 25)).alloc (.cells #[.slice o2 M c2, .slice o4 N c4] 25)) = W0 at HR1 HR2 HW0 ⊢
  refine (HI.out _ HW0.out).mono ?_
  rintro e w1 ⟨rfl, u1⟩
  have x0 := (HR1.out.up u1).cell (j := 1) rfl
  have x1 := (HR2.out.up u1).cell (j := 1) rfl
  go_wp2_with fail
  refine (HV.out _ (HW0.out.trans u1)).mono ?_
  rintro e w2 ⟨rfl, u2⟩
  go_wp2_with fail
  go_ret
  exact ⟨rfl, (HW0.out.trans u1).trans u2⟩

set_option maxRecDepth 100000 in
set_option maxHeartbeats 400000 in
theorem told_yes (v1 v2 : Value) (st : Sta) (x : Int) (w : World) (h1 : Stat w v1 st) (h2 : Stat w v2 st) :
    Calls Tryz.prog 10 #[v1, .int .i64 x, v2, .int .i64 x] w fun e w' => e = .returned (.bool true) ∧ Up w w' := by
  have HS := Lib.hid (fun W (hW : Up w W) => same_yes v1 v2 st W (h1.up hW) (h2.up hW))
  obtain ⟨a1, b1, rfl, hi1, hv1⟩ := h1
  obtain ⟨a2, b2, rfl, hi2, hv2⟩ := h2
  obtain ⟨o1, c1, rfl, _⟩ := hi1.slice
  obtain ⟨o2, c2, rfl, _⟩ := hi2.slice
  obtain ⟨o3, c3, rfl, _, _⟩ := hv1.slice
  obtain ⟨o4, c4, rfl, _, _⟩ := hv2.slice
  clear hi1 hi2 hv1 hv2
  go_enter Tryz.func10, Tryz.ntmps10
  go_wp2_with fail
  refine (HS.out _ ((Up.alloc _ _).trans (Up.alloc _ _))).mono ?_
  rintro e w1 ⟨rfl, u1⟩
  go_wp2_with fail
  go_ret
  exact ⟨rfl, ((Up.alloc _ _).trans (Up.alloc _ _)).trans u1⟩

end Go.Proofs.YtjmmifanaffegaaGreatDoor

/-
  slices.Equal of two rows of ints that read alike; what the law DiffSays asks, in plain words. Conditions: as each says.
-/
namespace Go.Proofs.YtjmmifanaffegaaGreatDoor
open Go.RowKit
open Go.Proofs
open WoolBag
open WoolVol

theorem inL_at {l : List Int} {k : Nat} (h : k < l.length) : (inL l)[k]? = some (.int .i64 l[k]) := by
  unfold inL; rw [List.getElem?_map, List.getElem?_eq_getElem h]; rfl

set_option maxRecDepth 100000 in
set_option maxHeartbeats 400000 in
theorem equalN_yes (v1 v2 : Value) (l : List Int) (w : World) (h1 : Sl w 1 v1 l.length (inL l)) (h2 : Sl w 1 v2 l.length (inL l)) :
    Calls Tryz.prog 18 #[v1, v2] w fun e w' => e = .returned (.bool true) ∧ Up w w' := by
  obtain ⟨o1, c1, rfl, p1, p2⟩ := h1.slice
  obtain ⟨o2, c2, rfl, q1, q2⟩ := h2.slice
  have HP := Lib.hid h1
  have HQ := Lib.hid h2
  unfold maxLen at p2 q2
  clear h1 h2
  go_enter Tryz.func18, Tryz.ntmps18
  go_wp2_with fail
  go_loopw [13] (fun i wr => EqDRel l.length w i wr) (fun i _ => l.length - (intOf i).toNat)
  case atStart => exact ⟨0, Nat.zero_le _, rfl, Up.refl w⟩
  case round =>
    obtain ⟨k, hk, rfl, hu⟩ := hrel
    by_cases hlt : k < l.length
    · have hne : l.length ≠ 0 := by omega
      obtain ⟨b, off, rfl, h5⟩ := Sl.cells HP.out hne
      obtain ⟨b', off', rfl, h6⟩ := Sl.cells HQ.out hne
      have e1 := h5 k _ (inL_at hlt)
      have f1 := h6 k _ (inL_at hlt)
      rw [← hu.cell (World.block_lt_of_cell? w _ e1)] at e1
      rw [← hu.cell (World.block_lt_of_cell? w _ f1)] at f1
      generalize l[k] = x at e1 f1
      have HU := Lib.hid hu
      have d1 : decide (k < l.length) = true := decide_eq_true hlt
      clear h5 h6 hu hne
      go_wp2_with fail
      go_quiet (fail)
      go_wp2_with fail
      go_roundw
      case rel => exact ⟨k + 1, by omega, by go_num, HU.out.trans (Up.drewN _ _)⟩
      case measure => simp only [intOf]; omega
    · have d1 : decide (k < l.length) = false := decide_eq_false hlt
      go_wp2_with fail
      go_ret
      exact ⟨rfl, hu⟩

theorem txt_tx {st : Sta} (g : WoolVol.Good FP st) {k j : Nat} (hk : k < st.v.length) (hj : j < st.v[k].bl.length) {t : List UInt8} (h : txAt st k j = some t) : txt st.b st.v[k].bl[j] = 43 :: t := by
  have hb := blk_eq hk hj
  unfold txAt at h
  rw [hb] at h
  generalize st.v[k].bl[j] = i at h
  cases h1 : i.1 with
  | false => rw [h1] at h; simp at h
  | true =>
    rw [h1] at h
    simp only [if_true] at h
    unfold tx at h
    cases hi : it st.b i with
    | none => rw [hi] at h; simp at h
    | some x =>
      rw [hi] at h
      simp only [Option.some.injEq] at h
      obtain ⟨hx, he⟩ := (it_some g.bag).1 hi
      obtain ⟨m, hm, rfl⟩ := List.getElem_of_mem hx
      unfold txt
      rw [h1, if_pos rfl, he, g.bag.idx_id hm]
      show 43 :: (st.b[m]!).t = 43 :: t
      rw [getElem!_pos st.b m hm, h]

/-- the error of two names -/
def twoE (st : Sta) (a b : List UInt8) : Int := if chkS FP st ≠ 0 then chkS FP st else if (vix (nmB a) st.v).isNone || (vix (nmB b) st.v).isNone then 4 else 0

theorem vix_cases (p : Vo → Bool) (l : List Vo) : vix p l = none ∨ ∃ k, vix p l = some k := by
  cases vix p l with
  | none => exact .inl rfl
  | some k => exact .inr ⟨k, rfl⟩

theorem both_two (st : Sta) (a b : List UInt8) : (bothR st a b).2.2 = twoE st a b := by
  unfold bothR twoE blocks vfind
  by_cases hc : chkS FP st ≠ 0
  · simp only [if_pos hc]
  · simp only [if_neg hc]
    rcases vix_cases (nmB a) st.v with ha | ⟨k, ha⟩
    · rw [ha]; simp
    · rw [ha]
      rcases vix_cases (nmB b) st.v with hb | ⟨m, hb⟩
      · rw [hb]; simp
      · rw [hb]; simp

end Go.Proofs.YtjmmifanaffegaaGreatDoor
