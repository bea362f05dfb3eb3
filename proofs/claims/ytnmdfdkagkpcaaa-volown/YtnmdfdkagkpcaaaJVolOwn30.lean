/-
  What roomy and marked (of the laws on memory) do with rows of items, by how many there are. Conditions: as each says.
-/
import Derived.Test.YtnmdfdkagkpcaaaJVolOwn29
namespace Go.Proofs.Ytnmdfdkagkpcaaa
open Go.RowKit
open Go.Proofs
open WoolBag

/-- k items, all the same, as cells -/
def mkC (x : Itm) : Nat → List Value
  | 0 => []
  | k + 1 => mkC x k ++ itC x
theorem mkC_length (x : Itm) : ∀ k, (mkC x k).length = k * 4
  | 0 => rfl
  | k + 1 => by rw [mkC, List.length_append, mkC_length x k]; unfold itC; simp; omega

def RoomRel (l : List Itm) (x : Itm) (g X B : Nat) (w : World) (i : Value) (wr : World) : Prop :=
  ∃ k : Nat, k ≤ 3 ∧ i = .int .i64 k ∧ Below B w wr ∧ RowI wr X (itC x) ∧ ∃ sp, RowI wr g (itL l ++ (mkC x k ++ sp)) ∧ sp.length = (3 - k) * 4

/-- what roomy leaves -/
def RoomPost (l : List Itm) (x : Itm) (w : World) (e : Ending) (w' : World) : Prop :=
  ∃ g, e = .returned (.slice (some ⟨g, 0, none⟩) l.length (l.length + 3)) ∧ w.heap.size ≤ g ∧ RowI w' g (itL l ++ mkC x 3) ∧ Up w w'

theorem OItems.row_at {w : World} {base g n cap : Nat} {l : List Itm} (h : OItems w base (.slice (some ⟨g, 0, none⟩) n cap) l) : ∃ sp, RowI w g (itL l ++ sp) ∧ l.length * 4 + sp.length = cap * 4 := by
  rcases h.row with ⟨hq, _⟩ | ⟨g', cap', sp, hv, _, hr, _, _, hsp⟩
  · cases hq
  · cases hv
    exact ⟨sp, hr, hsp⟩

/-- an append of nothing -/
theorem append_none {w : World} {base : Option Addr} {sLen sCap c : Nat} (hle : sLen ≤ sCap) (ty : TypeId) :
    (Builtin.append_ #[28, 28] ty #[.slice base sLen sCap, .slice none 0 c]).run Try.prog w = .ok (.slice base sLen sCap) w := by
  obtain ⟨i0, hi, hz0, hz1, hz2⟩ := itInfo'
  refine run_append_nothing w 28 28 ty 60 i0 Try.underlying28 hi base sLen sCap hle _ ⟨.inl ⟨_, Try.underlying28⟩, fun w' => rfl, ?_, ?_, by simp, by simp⟩
  · rfl
  · rfl

set_option maxRecDepth 100000 in
set_option maxHeartbeats 2000000 in
theorem roomy_any (a0 : Option Addr) (len0 cap0 : Nat) (l : List Itm) (x : Itm) (w : World) (h : Items w (.slice a0 len0 cap0) l) (hs : l.length * 40 ≤ 140737480000000) :
    Calls Try.prog 46 #[.slice a0 len0 cap0, itV x] w (RoomPost l x w) := by
  obtain ⟨i0, hi, hz0, hz1, hz2⟩ := itInfo'
  have HX := Lib.hid h
  obtain ⟨o', c', hv, hl0, hm0, h4⟩ := h
  simp only [Value.slice.injEq] at hv
  obtain ⟨rfl, hlen, rfl⟩ := hv
  subst hlen
  have hcl : Hid (∀ ad, a0 = some ad → ∀ j u, (itL l)[j]? = some u → w.cell? (ad.add j) = some u) := by
    intro ad e j u hu
    subst e
    have hne : l ≠ [] := by rintro rfl; simp [itL] at hu
    rcases h4 with h4 | ⟨b, off, h5, _⟩
    · exact absurd h4 hne
    · cases h5
      rw [add_lit]
      exact HX.out.cells hne j u hu
  have hnn : Hid (a0 = none → l = []) := by
    intro e
    subst e
    rcases h4 with h4 | ⟨b, off, h5, _⟩
    · exact h4
    · cases h5
  unfold itV
  have q0 := heap_alloc_new w (.cells #[.int .i64 x.s, .int .i64 x.n, .string (bs x.t), .int .i64 x.r] 60)
  have HQ := Lib.hid q0
  obtain ⟨n, hn⟩ : ∃ n, l.length = n := ⟨_, rfl⟩
  have HN := Lib.hid hn
  rw [hn] at hl0 hs
  have hw3 : IntKind.i64.wrap ((n : Int) + 3) = (n : Int) + 3 := IntWalk.i64_in _ (by omega)
  rw [hn]
  clear h4 q0 hn
  go_enter Try.func46, Try.ntmps46
  go_wp2_with (at_make; refine wpList_make_own _ rfl _ _ 28 rfl (w.heap.size + 1) 60 i0 _ 4 Try.underlying28 hi hz0 hz1 _ _ _ (n + 3) rfl rfl (by omega) (by rw [hz2]; omega) (by unfold maxLen; omega) (by simp) ?_)
  intro w1 hown1 hgr1
  have hx1 : RowI w1 w.heap.size (itC x) := (hgr1.block w.heap.size (by simp) (by simp)).trans HQ.out
  have hB1 : Below w.heap.size w w1 := (Up.alloc w _).grown hgr1 (by simp) (by intro j hj; cases hj)
  have hO1 : OItems w1 (w.heap.size + 1) (.slice (some ⟨w.heap.size + 1, 0, none⟩) 0 (n + 3)) [] := hown1
  cases a0 with
  | none =>
    have hl : l = [] := hnn.out rfl
    have hn0 : n = 0 := by rw [← HN.out, hl]; rfl
    have HRUN : Hid (∀ ty, (Builtin.append_ #[28, 28] ty #[.slice (some ⟨w.heap.size + 1, 0, none⟩) 0 (n + 3), .slice none n cap0]).run Try.prog w1 = .ok (.slice (some ⟨w.heap.size + 1, 0, none⟩) n (n + 3)) w1) := by
      intro ty
      rw [hn0]
      exact append_none (by omega) ty
    obtain ⟨sp, hr2, hsp⟩ := OItems.row_at hO1
    have hr2' : RowI w1 (w.heap.size + 1) (itL l ++ sp) := by rw [hl]; exact hr2
    have hsp' : sp.length = (3 - 0) * 4 := by simp at hsp; omega
    clear hn0 hr2 hsp hO1 hown1 hgr1 hl hi hz0 hz1 hz2
    go_wp2_with (at_builtin; refine wpList_appendI rfl _ _ #[28, 28] rfl _ _ _ _ rfl rfl HRUN.out ?_)
    have hr2 := hr2'
    have hsp := hsp'
    have hx2 := hx1
    have hB2 := hB1
    obtain ⟨w2, hw2⟩ : ∃ w2, w1 = w2 := ⟨_, rfl⟩
    subst hw2
    clear hr2' hsp' hx1 hB1 HRUN
    have HST : Hid (RoomRel l x (w.heap.size + 1) w.heap.size w.heap.size w (.int .i64 0) w1) := ⟨0, by omega, rfl, hB2, hx2, sp, hr2, hsp⟩
    have hne : w.heap.size + 1 ≠ w.heap.size := by omega
    clear hB2 hx2 hr2 hsp
    go_wp2_with fail
    go_loopw [6, 13] (fun _ i wr => RoomRel l x (w.heap.size + 1) w.heap.size w.heap.size w i wr) (fun _ i _ => 3 - (intOf i).toNat)
    case atStart => exact HST.out
    case round =>
      obtain ⟨k, hk, rfl, hB, hx, sp', hr, hsl⟩ := hrel
      by_cases hlt2 : k < 3
      · rw [← List.append_assoc] at hr
        have hAl : (itL l ++ mkC x k).length = (n + k) * 4 := by rw [List.length_append, itL_length, mkC_length, HN.out]; omega
        obtain ⟨A, u0, u1, u2, u3, R, hA, hsplit⟩ := split4 (itL l ++ mkC x k ++ sp') ((n + k) * 4) (by rw [List.length_append, hAl]; omega)
        have hAeq : A = itL l ++ mkC x k := by
          have h1 := congrArg (List.take ((n + k) * 4)) hsplit
          rw [List.take_append_of_le_length (by omega), List.take_of_length_le (by omega), List.take_append_of_le_length (by omega), List.take_of_length_le (by omega)] at h1
          exact h1.symm
        have hReq : R.length = (3 - (k + 1)) * 4 := by
          have h1 := congrArg List.length hsplit
          rw [List.length_append, hAl, List.length_append, hA] at h1
          simp at h1
          omega
        rw [hsplit] at hr
        obtain ⟨c0, c1, c2, c3⟩ := cells4 hr hA
        have f0 := hr.frozen ((n + k) * 4)
        have f1 := hr.frozen ((n + k) * 4 + 1)
        have f2 := hr.frozen ((n + k) * 4 + 2)
        have f3 := hr.frozen ((n + k) * 4 + 3)
        have x0 : wr.cell? ⟨w.heap.size, 0, none⟩ = some (.int .i64 x.s) := hx.cell rfl
        have x1 : wr.cell? ⟨w.heap.size, 1, none⟩ = some (.int .i64 x.n) := hx.cell rfl
        have x2 : wr.cell? ⟨w.heap.size, 2, none⟩ = some (.string (bs x.t)) := hx.cell rfl
        have x3 : wr.cell? ⟨w.heap.size, 3, none⟩ = some (.int .i64 x.r) := hx.cell rfl
        have hrd : RowI wr.drew (w.heap.size + 1) (A ++ (u0 :: u1 :: u2 :: u3 :: R)) := hr
        have hset := hrd.set4 hA (.int .i64 x.s) (.int .i64 x.n) (.string (bs x.t)) (.int .i64 x.r)
        have hx2 : RowI ((((wr.drew.setCell ⟨w.heap.size + 1, (n + k) * 4, none⟩ (.int .i64 x.s)).setCell ⟨w.heap.size + 1, (n + k) * 4 + 1, none⟩ (.int .i64 x.n)).setCell ⟨w.heap.size + 1, (n + k) * 4 + 2, none⟩ (.string (bs x.t))).setCell ⟨w.heap.size + 1, (n + k) * 4 + 3, none⟩ (.int .i64 x.r)) w.heap.size (itC x) := by
          unfold RowI
          rw [other_set4 _ _ _ _ hne]
          exact hx
        have hB2 : Below w.heap.size w ((((wr.drew.setCell ⟨w.heap.size + 1, (n + k) * 4, none⟩ (.int .i64 x.s)).setCell ⟨w.heap.size + 1, (n + k) * 4 + 1, none⟩ (.int .i64 x.n)).setCell ⟨w.heap.size + 1, (n + k) * 4 + 2, none⟩ (.string (bs x.t))).setCell ⟨w.heap.size + 1, (n + k) * 4 + 3, none⟩ (.int .i64 x.r)) :=
          (((Below.setCell (Below.drew hB) (p := ⟨w.heap.size + 1, (n + k) * 4, none⟩) (Nat.le_succ _) _).setCell (p := ⟨w.heap.size + 1, (n + k) * 4 + 1, none⟩) (Nat.le_succ _) _).setCell (p := ⟨w.heap.size + 1, (n + k) * 4 + 2, none⟩) (Nat.le_succ _) _).setCell (p := ⟨w.heap.size + 1, (n + k) * 4 + 3, none⟩) (Nat.le_succ _) _
        obtain ⟨wn, hwn⟩ : ∃ wn, (((wr.drew.setCell ⟨w.heap.size + 1, (n + k) * 4, none⟩ (.int .i64 x.s)).setCell ⟨w.heap.size + 1, (n + k) * 4 + 1, none⟩ (.int .i64 x.n)).setCell ⟨w.heap.size + 1, (n + k) * 4 + 2, none⟩ (.string (bs x.t))).setCell ⟨w.heap.size + 1, (n + k) * 4 + 3, none⟩ (.int .i64 x.r) = wn := ⟨_, rfl⟩
        rw [hwn] at hset hB2 hx2
        have HREL : Hid (RoomRel l x (w.heap.size + 1) w.heap.size w.heap.size w (.int .i64 ((k + 1 : Nat) : Int)) wn) := by
          refine ⟨k + 1, by omega, rfl, hB2, hx2, R, ?_, hReq⟩
          rw [hAeq] at hset
          rw [mkC, List.append_assoc]
          rw [List.append_assoc] at hset
          exact hset
        have HRELW : Hid (RoomRel l x (w.heap.size + 1) w.heap.size w.heap.size w (.int .i64 ((k + 1 : Nat) : Int)) ((((wr.setCell ⟨w.heap.size + 1, (n + k) * 4, none⟩ (.int .i64 x.s)).setCell ⟨w.heap.size + 1, (n + k) * 4 + 1, none⟩ (.int .i64 x.n)).setCell ⟨w.heap.size + 1, (n + k) * 4 + 2, none⟩ (.string (bs x.t))).setCell ⟨w.heap.size + 1, (n + k) * 4 + 3, none⟩ (.int .i64 x.r)).drew) := by
          show RoomRel _ _ _ _ _ _ _ _
          have hh := HREL.out
          rw [← hwn] at hh
          exact hh
        have d1 : decide ((k : Int) < 3) = true := by rw [decide_eq_true_iff]; omega
        have p1 : IntKind.i64.wrap ((n : Int) + (k : Int)) = (n : Int) + (k : Int) := IntWalk.i64_in _ (by omega)
        have p2 : (0 : Int) ≤ (n : Int) + (k : Int) := by omega
        have p3 : ((n : Int) + (k : Int)).toNat = n + k := by omega
        have p4 : ((n : Int) + 3).toNat = n + 3 := by omega
        have p5 : (0 : Int) ≤ (n : Int) + 3 := by omega
        have p6 : (n : Int) + (k : Int) < (n : Int) + 3 := by omega
        clear hset hB2 hx2 hB hx hr hrd hsl hA hwn hAl hsplit hAeq hReq
        go_wp2_with fail
        go_region
        all_goals
          go_wp2_with fail
          go_roundw
          case rel => exact HRELW.out
          case measure => simp only [intOf]; omega
      · have hk3 : k = 3 := by omega
        subst hk3
        have d1 : decide ((3 : Int) < 3) = false := by decide
        have hnil : sp' = [] := List.eq_nil_of_length_eq_zero (by omega)
        subst hnil
        rw [List.append_nil] at hr
        have HR := Lib.hid hr
        have HB := Lib.hid hB
        clear hr hB hx hsl
        go_wp2_with fail
        go_ret
        exact ⟨w.heap.size + 1, by rw [HN.out]; rfl, by omega, HR.out, HB.out⟩
  | some ad =>
    have hcl1 : Hid (∀ j u, (itL l)[j]? = some u → w1.cell? (ad.add j) = some u) := fun j u hu => by
      have h1 := hcl.out ad rfl j u hu
      have hlt := World.block_lt_of_cell? w _ h1
      exact (hB1.cell hlt).trans h1
    have hIL : Hid ((itL l).length = n * 4) := by show _ = _; rw [itL_length, HN.out]
    go_wp2_with (at_builtin; refine wpList_append_fits _ rfl _ _ 28 rfl (w.heap.size + 1) 60 i0 4 Try.underlying28 hi hz1 (w.heap.size + 1) 0 (n + 3) [] rfl hown1 ad n cap0 (itL l) rfl hIL.out hcl1.out (itL_one l) (by omega) ?_)
    intro w2 hown2 hgr2
    have hO2 : OItems w2 (w.heap.size + 1) (.slice (some ⟨w.heap.size + 1, 0, none⟩) n (n + 3)) l := by
      unfold OItems
      rw [HN.out]
      simpa using hown2
    obtain ⟨sp, hr2, hsp⟩ := OItems.row_at hO2
    have hx2 : RowI w2 w.heap.size (itC x) := (hgr2.block w.heap.size hx1.lt (by simp)).trans hx1
    have hB2 : Below w.heap.size w w2 := Below.grown hB1 hgr2 (by have := hx1.lt; omega) (by intro j hj; cases hj; omega)
    have hsp2 : sp.length = (3 - 0) * 4 := by rw [HN.out] at hsp; omega
    clear hsp hO2 hown2 hgr2 hown1 hgr1 hO1 hx1 hB1 hcl1 hIL hi hz0 hz1 hz2
    have hsp := hsp2
    clear hsp2
    have HST : Hid (RoomRel l x (w.heap.size + 1) w.heap.size w.heap.size w (.int .i64 0) w2) := ⟨0, by omega, rfl, hB2, hx2, sp, hr2, hsp⟩
    have hne : w.heap.size + 1 ≠ w.heap.size := by omega
    clear hB2 hx2 hr2 hsp
    go_wp2_with fail
    go_loopw [6, 13] (fun _ i wr => RoomRel l x (w.heap.size + 1) w.heap.size w.heap.size w i wr) (fun _ i _ => 3 - (intOf i).toNat)
    case atStart => exact HST.out
    case round =>
      obtain ⟨k, hk, rfl, hB, hx, sp', hr, hsl⟩ := hrel
      by_cases hlt2 : k < 3
      · rw [← List.append_assoc] at hr
        have hAl : (itL l ++ mkC x k).length = (n + k) * 4 := by rw [List.length_append, itL_length, mkC_length, HN.out]; omega
        obtain ⟨A, u0, u1, u2, u3, R, hA, hsplit⟩ := split4 (itL l ++ mkC x k ++ sp') ((n + k) * 4) (by rw [List.length_append, hAl]; omega)
        have hAeq : A = itL l ++ mkC x k := by
          have h1 := congrArg (List.take ((n + k) * 4)) hsplit
          rw [List.take_append_of_le_length (by omega), List.take_of_length_le (by omega), List.take_append_of_le_length (by omega), List.take_of_length_le (by omega)] at h1
          exact h1.symm
        have hReq : R.length = (3 - (k + 1)) * 4 := by
          have h1 := congrArg List.length hsplit
          rw [List.length_append, hAl, List.length_append, hA] at h1
          simp at h1
          omega
        rw [hsplit] at hr
        obtain ⟨c0, c1, c2, c3⟩ := cells4 hr hA
        have f0 := hr.frozen ((n + k) * 4)
        have f1 := hr.frozen ((n + k) * 4 + 1)
        have f2 := hr.frozen ((n + k) * 4 + 2)
        have f3 := hr.frozen ((n + k) * 4 + 3)
        have x0 : wr.cell? ⟨w.heap.size, 0, none⟩ = some (.int .i64 x.s) := hx.cell rfl
        have x1 : wr.cell? ⟨w.heap.size, 1, none⟩ = some (.int .i64 x.n) := hx.cell rfl
        have x2 : wr.cell? ⟨w.heap.size, 2, none⟩ = some (.string (bs x.t)) := hx.cell rfl
        have x3 : wr.cell? ⟨w.heap.size, 3, none⟩ = some (.int .i64 x.r) := hx.cell rfl
        have hrd : RowI wr.drew (w.heap.size + 1) (A ++ (u0 :: u1 :: u2 :: u3 :: R)) := hr
        have hset := hrd.set4 hA (.int .i64 x.s) (.int .i64 x.n) (.string (bs x.t)) (.int .i64 x.r)
        have hx2 : RowI ((((wr.drew.setCell ⟨w.heap.size + 1, (n + k) * 4, none⟩ (.int .i64 x.s)).setCell ⟨w.heap.size + 1, (n + k) * 4 + 1, none⟩ (.int .i64 x.n)).setCell ⟨w.heap.size + 1, (n + k) * 4 + 2, none⟩ (.string (bs x.t))).setCell ⟨w.heap.size + 1, (n + k) * 4 + 3, none⟩ (.int .i64 x.r)) w.heap.size (itC x) := by
          unfold RowI
          rw [other_set4 _ _ _ _ hne]
          exact hx
        have hB2 : Below w.heap.size w ((((wr.drew.setCell ⟨w.heap.size + 1, (n + k) * 4, none⟩ (.int .i64 x.s)).setCell ⟨w.heap.size + 1, (n + k) * 4 + 1, none⟩ (.int .i64 x.n)).setCell ⟨w.heap.size + 1, (n + k) * 4 + 2, none⟩ (.string (bs x.t))).setCell ⟨w.heap.size + 1, (n + k) * 4 + 3, none⟩ (.int .i64 x.r)) :=
          (((Below.setCell (Below.drew hB) (p := ⟨w.heap.size + 1, (n + k) * 4, none⟩) (Nat.le_succ _) _).setCell (p := ⟨w.heap.size + 1, (n + k) * 4 + 1, none⟩) (Nat.le_succ _) _).setCell (p := ⟨w.heap.size + 1, (n + k) * 4 + 2, none⟩) (Nat.le_succ _) _).setCell (p := ⟨w.heap.size + 1, (n + k) * 4 + 3, none⟩) (Nat.le_succ _) _
        obtain ⟨wn, hwn⟩ : ∃ wn, (((wr.drew.setCell ⟨w.heap.size + 1, (n + k) * 4, none⟩ (.int .i64 x.s)).setCell ⟨w.heap.size + 1, (n + k) * 4 + 1, none⟩ (.int .i64 x.n)).setCell ⟨w.heap.size + 1, (n + k) * 4 + 2, none⟩ (.string (bs x.t))).setCell ⟨w.heap.size + 1, (n + k) * 4 + 3, none⟩ (.int .i64 x.r) = wn := ⟨_, rfl⟩
        rw [hwn] at hset hB2 hx2
        have HREL : Hid (RoomRel l x (w.heap.size + 1) w.heap.size w.heap.size w (.int .i64 ((k + 1 : Nat) : Int)) wn) := by
          refine ⟨k + 1, by omega, rfl, hB2, hx2, R, ?_, hReq⟩
          rw [hAeq] at hset
          rw [mkC, List.append_assoc]
          rw [List.append_assoc] at hset
          exact hset
        have HRELW : Hid (RoomRel l x (w.heap.size + 1) w.heap.size w.heap.size w (.int .i64 ((k + 1 : Nat) : Int)) ((((wr.setCell ⟨w.heap.size + 1, (n + k) * 4, none⟩ (.int .i64 x.s)).setCell ⟨w.heap.size + 1, (n + k) * 4 + 1, none⟩ (.int .i64 x.n)).setCell ⟨w.heap.size + 1, (n + k) * 4 + 2, none⟩ (.string (bs x.t))).setCell ⟨w.heap.size + 1, (n + k) * 4 + 3, none⟩ (.int .i64 x.r)).drew) := by
          show RoomRel _ _ _ _ _ _ _ _
          have hh := HREL.out
          rw [← hwn] at hh
          exact hh
        have d1 : decide ((k : Int) < 3) = true := by rw [decide_eq_true_iff]; omega
        have p1 : IntKind.i64.wrap ((n : Int) + (k : Int)) = (n : Int) + (k : Int) := IntWalk.i64_in _ (by omega)
        have p2 : (0 : Int) ≤ (n : Int) + (k : Int) := by omega
        have p3 : ((n : Int) + (k : Int)).toNat = n + k := by omega
        have p4 : ((n : Int) + 3).toNat = n + 3 := by omega
        have p5 : (0 : Int) ≤ (n : Int) + 3 := by omega
        have p6 : (n : Int) + (k : Int) < (n : Int) + 3 := by omega
        clear hset hB2 hx2 hB hx hr hrd hsl hA hwn hAl hsplit hAeq hReq
        go_wp2_with fail
        go_region
        all_goals
          go_wp2_with fail
          go_roundw
          case rel => exact HRELW.out
          case measure => simp only [intOf]; omega
      · have hk3 : k = 3 := by omega
        subst hk3
        have d1 : decide ((3 : Int) < 3) = false := by decide
        have hnil : sp' = [] := List.eq_nil_of_length_eq_zero (by omega)
        subst hnil
        rw [List.append_nil] at hr
        have HR := Lib.hid hr
        have HB := Lib.hid hB
        clear hr hB hx hsl
        go_wp2_with fail
        go_ret
        exact ⟨w.heap.size + 1, by rw [HN.out]; rfl, by omega, HR.out, HB.out⟩

theorem mkC_get (x : Itm) (k : Nat) (h : k < 3) : (mkC x 3)[k * 4]? = some (.int .i64 x.s) ∧ (mkC x 3)[k * 4 + 1]? = some (.int .i64 x.n) ∧ (mkC x 3)[k * 4 + 2]? = some (.string (bs x.t)) ∧ (mkC x 3)[k * 4 + 3]? = some (.int .i64 x.r) := by
  match k, h with
  | 0, _ => exact ⟨rfl, rfl, rfl, rfl⟩
  | 1, _ => exact ⟨rfl, rfl, rfl, rfl⟩
  | 2, _ => exact ⟨rfl, rfl, rfl, rfl⟩

def MarkRel (X : Nat) (x : Itm) (w : World) (i : Value) (wr : World) : Prop := ∃ k : Nat, k ≤ 3 ∧ i = .int .i64 k ∧ Up w wr ∧ RowI wr X (itC x)

set_option maxRecDepth 100000 in
set_option maxHeartbeats 1000000 in
theorem marked_any (g : Nat) (l : List Itm) (x : Itm) (w : World) (hr : RowI w g (itL l ++ mkC x 3)) (hl : l.length * 40 ≤ 140737488351232) :
    Calls Try.prog 24 #[.slice (some ⟨g, 0, none⟩) l.length (l.length + 3), itV x] w fun e w' => e = .returned (.bool true) ∧ Up w w' := by
  have HR := Lib.hid hr
  have HQ := Lib.hid (heap_alloc_new w (.cells #[.int .i64 x.s, .int .i64 x.n, .string (bs x.t), .int .i64 x.r] 60))
  have HST : Hid (MarkRel w.heap.size x w (.int .i64 0) (w.alloc (.cells #[.int .i64 x.s, .int .i64 x.n, .string (bs x.t), .int .i64 x.r] 60))) := ⟨0, by omega, rfl, Up.alloc _ _, HQ.out⟩
  obtain ⟨n, hn⟩ : ∃ n, l.length = n := ⟨_, rfl⟩
  have HIL : Hid ((itL l).length = n * 4) := by show _ = _; rw [itL_length, hn]
  rw [hn] at hl ⊢
  have p1 : ¬ n + 3 = n := by omega
  have p2 : n + 3 - n = 3 := by omega
  have p3 : n ≤ n + 3 := by omega
  unfold itV
  have hse := self_eq x.t
  generalize hxt : bs x.t = xt at hse ⊢
  have HXT := Lib.hid hxt
  clear hr hn hxt
  rw [HXT.out] at HST
  go_enter Try.func24, Try.ntmps24
  go_wp2_with fail
  go_loopw [14] (fun i wr => MarkRel w.heap.size x w i wr) (fun i _ => 3 - (intOf i).toNat)
  case atStart => exact HST.out
  case round =>
    obtain ⟨k, hk, rfl, hu, hx⟩ := hrel
    by_cases hlt : k < 3
    · have hrr := HR.out.up hu
      obtain ⟨m0, m1, m2, m3⟩ := mkC_get x k hlt
      have hcell : ∀ j v, (mkC x 3)[j]? = some v → wr.cell? ⟨g, n * 4 + j, none⟩ = some v := fun j v hv => hrr.cell (by rw [List.getElem?_append_right (by rw [HIL.out]; omega), HIL.out, Nat.add_sub_cancel_left]; exact hv)
      have c0 := hcell _ _ m0
      have c1 := hcell _ _ m1
      have c2 := hcell _ _ m2
      have c3 := hcell _ _ m3
      rw [← Nat.add_assoc] at c1 c2 c3
      have x0 : wr.cell? ⟨w.heap.size, 0, none⟩ = some (.int .i64 x.s) := hx.cell rfl
      have x1 : wr.cell? ⟨w.heap.size, 1, none⟩ = some (.int .i64 x.n) := hx.cell rfl
      have x2 : wr.cell? ⟨w.heap.size, 2, none⟩ = some (.string (bs x.t)) := hx.cell rfl
      have x3 : wr.cell? ⟨w.heap.size, 3, none⟩ = some (.int .i64 x.r) := hx.cell rfl
      rw [HXT.out] at c2 x2
      have hlt0 := RowI.lt hx
      have hne : w.heap.size ≠ wr.heap.size := by omega
      clear hlt0
      have HREL : Hid (MarkRel w.heap.size x w (.int .i64 ((k + 1 : Nat) : Int)) (wr.alloc (.cells #[.int .i64 x.s, .int .i64 x.n, .string xt, .int .i64 x.r] 60))) := ⟨k + 1, by omega, rfl, hu.trans (Up.alloc _ _), hx.up (Up.alloc _ _)⟩
      have d1 : decide ((k : Int) < 3) = true := by rw [decide_eq_true_iff]; omega
      have hlt2 : w.heap.size < wr.heap.size := RowI.lt hx
      clear hrr hcell m0 m1 m2 m3 hu hx
      go_wp2_with fail
      go_roundw
      case rel => exact HREL.out
      case measure => simp only [intOf]; omega
    · have hk3 : k = 3 := by omega
      subst hk3
      have d1 : decide ((3 : Int) < 3) = false := by decide
      have HU := Lib.hid hu
      clear hu hx
      go_wp2_with fail
      go_ret
      exact ⟨rfl, HU.out⟩

end Go.Proofs.Ytnmdfdkagkpcaaa
