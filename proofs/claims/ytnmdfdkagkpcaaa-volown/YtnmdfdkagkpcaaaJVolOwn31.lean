/-
  What roomy and marked (of the laws on memory) do with rows of identifiers, by how many there are. Conditions: as each says.
-/
import Derived.Test.YtnmdfdkagkpcaaaJVolOwn26
namespace Go.Proofs.Ytnmdfdkagkpcaaa
open Go.RowKit
open Go.Proofs
open WoolBag
open WoolVol

/-- a block that is a row of identifiers -/
def RowD (w : World) (g : Nat) (L : List Value) : Prop := RowC w g 51 L
theorem RowD.cell {w : World} {g : Nat} {L : List Value} {j : Nat} {v : Value} (h : RowD w g L) (hj : L[j]? = some v) : w.cell? ⟨g, j, none⟩ = some v := RowC.cell h hj
theorem RowD.frozen {w : World} {g : Nat} {L : List Value} (h : RowD w g L) (j : Nat) : w.frozen? ⟨g, j, none⟩ = false := RowC.frozen h j
theorem RowD.up {w w' : World} {g : Nat} {L : List Value} (h : RowD w g L) (hu : Up w w') : RowD w' g L := RowC.up h hu
theorem RowD.lt {w : World} {g : Nat} {L : List Value} (h : RowD w g L) : g < w.heap.size := RowC.lt h
theorem OIds.rowD {w : World} {base : Nat} {v : Value} {l : List Idn} (h : OIds w base v l) : (v = .slice none 0 0 ∧ l = []) ∨ ∃ g cap sp, v = .slice (some ⟨g, 0, none⟩) l.length cap ∧ base ≤ g ∧ RowD w g (fl idC l ++ sp) ∧ l.length ≤ cap ∧ cap ≤ maxLen ∧ l.length * 3 + sp.length = cap * 3 := by
  rcases own_row h with ⟨h1, h2, _⟩ | h
  · exact .inl ⟨h1, List.eq_nil_of_length_eq_zero h2⟩
  · exact .inr h

/-- k identifiers, all the same, as cells -/
def mkCD (x : Idn) : Nat → List Value
  | 0 => []
  | k + 1 => mkCD x k ++ idC x
theorem mkC_lengthD (x : Idn) : ∀ k, (mkCD x k).length = k * 3
  | 0 => rfl
  | k + 1 => by rw [mkCD, List.length_append, mkC_lengthD x k]; unfold idC; simp; omega

def RoomRelD (l : List Idn) (x : Idn) (g X B : Nat) (w : World) (i : Value) (wr : World) : Prop :=
  ∃ k : Nat, k ≤ 3 ∧ i = .int .i64 k ∧ Below B w wr ∧ RowD wr X (idC x) ∧ ∃ sp, RowD wr g (fl idC l ++ (mkCD x k ++ sp)) ∧ sp.length = (3 - k) * 3

/-- what roomy leaves -/
def RoomPostD (l : List Idn) (x : Idn) (w : World) (e : Ending) (w' : World) : Prop :=
  ∃ g, e = .returned (.slice (some ⟨g, 0, none⟩) l.length (l.length + 3)) ∧ w.heap.size ≤ g ∧ RowD w' g (fl idC l ++ mkCD x 3) ∧ Up w w'

theorem OIds.row_at {w : World} {base g n cap : Nat} {l : List Idn} (h : OIds w base (.slice (some ⟨g, 0, none⟩) n cap) l) : ∃ sp, RowD w g (fl idC l ++ sp) ∧ l.length * 3 + sp.length = cap * 3 := by
  rcases h.rowD with ⟨hq, _⟩ | ⟨g', cap', sp, hv, _, hr, _, _, hsp⟩
  · cases hq
  · cases hv
    exact ⟨sp, hr, hsp⟩

/-- an append of nothing -/
theorem append_noneD {w : World} {base : Option Addr} {sLen sCap c : Nat} (hle : sLen ≤ sCap) (ty : TypeId) :
    (Builtin.append_ #[46, 46] ty #[.slice base sLen sCap, .slice none 0 c]).run Try.prog w = .ok (.slice base sLen sCap) w := by
  obtain ⟨i0, hi, hz0, hz1, hz2⟩ := idInfo'
  refine run_append_nothing w 46 46 ty 51 i0 Try.underlying46 hi base sLen sCap hle _ ⟨.inl ⟨_, Try.underlying46⟩, fun w' => rfl, ?_, ?_, by simp, by simp⟩
  · rfl
  · rfl

set_option maxRecDepth 100000 in
set_option maxHeartbeats 2000000 in
theorem roomy_anyD (a0 : Option Addr) (len0 cap0 : Nat) (l : List Idn) (x : Idn) (w : World) (h : Ids w (.slice a0 len0 cap0) l) (hs : l.length * 24 ≤ 140737480000000) :
    Calls Try.prog 47 #[.slice a0 len0 cap0, idV x] w (RoomPostD l x w) := by
  obtain ⟨i0, hi, hz0, hz1, hz2⟩ := idInfo'
  have HX := Lib.hid h
  obtain ⟨hlL, o', c', hv, hl0, hm0, h4⟩ := h
  simp only [Value.slice.injEq] at hv
  obtain ⟨rfl, hlen, rfl⟩ := hv
  subst hlen
  have hcl : Hid (∀ ad, a0 = some ad → ∀ j u, (fl idC l)[j]? = some u → w.cell? (ad.add j) = some u) := by
    intro ad e j u hu
    subst e
    have hne : l.length ≠ 0 := by
      intro e0
      have := List.eq_nil_of_length_eq_zero e0
      subst this
      simp [fl] at hu
    obtain ⟨b, off, e, hc⟩ := Sl.cells HX.out hne
    cases e
    rw [add_off]
    exact hc j u hu
  have hnn : Hid (a0 = none → l = []) := by
    intro e
    subst e
    rcases h4 with h4 | ⟨b, off, h5, _⟩
    · exact List.eq_nil_of_length_eq_zero h4
    · cases h5
  unfold idV
  have q0 := heap_alloc_new w (.cells #[.bool x.1, .int .i64 x.2.1, .int .i64 x.2.2] 51)
  have HQ := Lib.hid q0
  obtain ⟨n, hn⟩ : ∃ n, l.length = n := ⟨_, rfl⟩
  have HN := Lib.hid hn
  rw [hn] at hl0 hs
  have hw3 : IntKind.i64.wrap ((n : Int) + 3) = (n : Int) + 3 := IntWalk.i64_in _ (by omega)
  rw [hn]
  clear h4 q0 hn hlL
  go_enter Try.func47, Try.ntmps47
  go_wp2_with (at_make; refine wpList_make_own _ rfl _ _ 46 rfl (w.heap.size + 1) 51 i0 _ 3 Try.underlying46 hi hz0 hz1 _ _ _ (n + 3) rfl rfl (by omega) (by rw [hz2]; omega) (by unfold maxLen; omega) (by simp) ?_)
  intro w1 hown1 hgr1
  have hx1 : RowD w1 w.heap.size (idC x) := (hgr1.block w.heap.size (by simp) (by simp)).trans HQ.out
  have hB1 : Below w.heap.size w w1 := (Up.alloc w _).grown hgr1 (by simp) (by intro j hj; cases hj)
  have hO1 : OIds w1 (w.heap.size + 1) (.slice (some ⟨w.heap.size + 1, 0, none⟩) 0 (n + 3)) [] := hown1
  cases a0 with
  | none =>
    have hl : l = [] := hnn.out rfl
    have hn0 : n = 0 := by rw [← HN.out, hl]; rfl
    have HRUN : Hid (∀ ty, (Builtin.append_ #[46, 46] ty #[.slice (some ⟨w.heap.size + 1, 0, none⟩) 0 (n + 3), .slice none n cap0]).run Try.prog w1 = .ok (.slice (some ⟨w.heap.size + 1, 0, none⟩) n (n + 3)) w1) := by
      intro ty
      rw [hn0]
      exact append_noneD (by omega) ty
    obtain ⟨sp, hr2, hsp⟩ := OIds.row_at hO1
    have hr2' : RowD w1 (w.heap.size + 1) (fl idC l ++ sp) := by rw [hl]; exact hr2
    have hsp' : sp.length = (3 - 0) * 3 := by simp at hsp; omega
    clear hn0 hr2 hsp hO1 hown1 hgr1 hl hi hz0 hz1 hz2
    go_wp2_with (at_builtin; refine wpList_appendI rfl _ _ #[46, 46] rfl _ _ _ _ rfl rfl HRUN.out ?_)
    have hr2 := hr2'
    have hsp := hsp'
    have hx2 := hx1
    have hB2 := hB1
    obtain ⟨w2, hw2⟩ : ∃ w2, w1 = w2 := ⟨_, rfl⟩
    subst hw2
    clear hr2' hsp' hx1 hB1 HRUN
    have HST : Hid (RoomRelD l x (w.heap.size + 1) w.heap.size w.heap.size w (.int .i64 0) w1) := ⟨0, by omega, rfl, hB2, hx2, sp, hr2, hsp⟩
    have hne : w.heap.size + 1 ≠ w.heap.size := by omega
    clear hB2 hx2 hr2 hsp
    go_wp2_with fail
    go_loopw [6, 13] (fun _ i wr => RoomRelD l x (w.heap.size + 1) w.heap.size w.heap.size w i wr) (fun _ i _ => 3 - (intOf i).toNat)
    case atStart => exact HST.out
    case round =>
      obtain ⟨k, hk, rfl, hB, hx, sp', hr, hsl⟩ := hrel
      by_cases hlt2 : k < 3
      · rw [← List.append_assoc] at hr
        have hAl : (fl idC l ++ mkCD x k).length = (n + k) * 3 := by rw [List.length_append, fl_length idC_len, mkC_lengthD, HN.out]; omega
        obtain ⟨A, u0, u1, u2, R, hA, hsplit⟩ := splitD (fl idC l ++ mkCD x k ++ sp') ((n + k) * 3) (by rw [List.length_append, hAl]; omega)
        have hAeq : A = fl idC l ++ mkCD x k := by
          have h1 := congrArg (List.take ((n + k) * 3)) hsplit
          rw [List.take_append_of_le_length (by omega), List.take_of_length_le (by omega), List.take_append_of_le_length (by omega), List.take_of_length_le (by omega)] at h1
          exact h1.symm
        have hReq : R.length = (3 - (k + 1)) * 3 := by
          have h1 := congrArg List.length hsplit
          rw [List.length_append, hAl, List.length_append, hA] at h1
          simp at h1
          omega
        rw [hsplit] at hr
        obtain ⟨c0, c1, c2⟩ := cellsD hr hA
        have f0 := hr.frozen ((n + k) * 3)
        have f1 := hr.frozen ((n + k) * 3 + 1)
        have f2 := hr.frozen ((n + k) * 3 + 2)
        have x0 : wr.cell? ⟨w.heap.size, 0, none⟩ = some (.bool x.1) := hx.cell rfl
        have x1 : wr.cell? ⟨w.heap.size, 1, none⟩ = some (.int .i64 x.2.1) := hx.cell rfl
        have x2 : wr.cell? ⟨w.heap.size, 2, none⟩ = some (.int .i64 x.2.2) := hx.cell rfl
        have hrd : RowD wr.drew (w.heap.size + 1) (A ++ (u0 :: u1 :: u2 :: R)) := hr
        have hset := RowC.setD hrd hA (.bool x.1) (.int .i64 x.2.1) (.int .i64 x.2.2)
        have hx2 : RowD (((wr.drew.setCell ⟨w.heap.size + 1, (n + k) * 3, none⟩ (.bool x.1)).setCell ⟨w.heap.size + 1, (n + k) * 3 + 1, none⟩ (.int .i64 x.2.1)).setCell ⟨w.heap.size + 1, (n + k) * 3 + 2, none⟩ (.int .i64 x.2.2)) w.heap.size (idC x) := by
          unfold RowD RowC
          rw [otherD _ _ _ _ hne]
          exact hx
        have hB2 : Below w.heap.size w (((wr.drew.setCell ⟨w.heap.size + 1, (n + k) * 3, none⟩ (.bool x.1)).setCell ⟨w.heap.size + 1, (n + k) * 3 + 1, none⟩ (.int .i64 x.2.1)).setCell ⟨w.heap.size + 1, (n + k) * 3 + 2, none⟩ (.int .i64 x.2.2)) :=
          ((Below.setCell (Below.drew hB) (p := ⟨w.heap.size + 1, (n + k) * 3, none⟩) (Nat.le_succ _) _).setCell (p := ⟨w.heap.size + 1, (n + k) * 3 + 1, none⟩) (Nat.le_succ _) _).setCell (p := ⟨w.heap.size + 1, (n + k) * 3 + 2, none⟩) (Nat.le_succ _) _
        obtain ⟨wn, hwn⟩ : ∃ wn, ((wr.drew.setCell ⟨w.heap.size + 1, (n + k) * 3, none⟩ (.bool x.1)).setCell ⟨w.heap.size + 1, (n + k) * 3 + 1, none⟩ (.int .i64 x.2.1)).setCell ⟨w.heap.size + 1, (n + k) * 3 + 2, none⟩ (.int .i64 x.2.2) = wn := ⟨_, rfl⟩
        rw [hwn] at hset hB2 hx2
        have HREL : Hid (RoomRelD l x (w.heap.size + 1) w.heap.size w.heap.size w (.int .i64 ((k + 1 : Nat) : Int)) wn) := by
          refine ⟨k + 1, by omega, rfl, hB2, hx2, R, ?_, hReq⟩
          rw [hAeq] at hset
          rw [mkCD, List.append_assoc]
          rw [List.append_assoc] at hset
          exact hset
        have HRELW : Hid (RoomRelD l x (w.heap.size + 1) w.heap.size w.heap.size w (.int .i64 ((k + 1 : Nat) : Int)) (((wr.setCell ⟨w.heap.size + 1, (n + k) * 3, none⟩ (.bool x.1)).setCell ⟨w.heap.size + 1, (n + k) * 3 + 1, none⟩ (.int .i64 x.2.1)).setCell ⟨w.heap.size + 1, (n + k) * 3 + 2, none⟩ (.int .i64 x.2.2)).drew) := by
          show RoomRelD _ _ _ _ _ _ _ _
          have hh := HREL.out
          rw [← hwn] at hh
          exact hh
        have d1 : decide ((k : Int) < 3) = true := by rw [decide_eq_true_iff]; omega
        have p1 : IntKind.i64.wrap ((n : Int) + (k : Int)) = (n : Int) + (k : Int) := IntWalk.i64_in _ (by omega)
        have p2 : (0 : Int) ≤ (n : Int) + (k : Int) := by omega
        have p3 : ((n : Int) + (k : Int)).toNat = n + k := by omega
        have p4 : ((n : Int) + 3).toNat = n + 3 := by omega
        have p5 : (0 : Int) ≤ (n : Int) + 3 := by omega
        have p6 : (n : Int) + (k : Int) < (n : Int) + 3 := by omega
        clear hset hB2 hx2 hB hx hr hrd hsl hA hwn hAl hsplit hAeq hReq
        go_wp2_with fail
        go_region
        all_goals
          go_wp2_with fail
          go_roundw
          case rel => exact HRELW.out
          case measure => simp only [intOf]; omega
      · have hk3 : k = 3 := by omega
        subst hk3
        have d1 : decide ((3 : Int) < 3) = false := by decide
        have hnil : sp' = [] := List.eq_nil_of_length_eq_zero (by omega)
        subst hnil
        rw [List.append_nil] at hr
        have HR := Lib.hid hr
        have HB := Lib.hid hB
        clear hr hB hx hsl
        go_wp2_with fail
        go_ret
        exact ⟨w.heap.size + 1, by rw [HN.out]; rfl, by omega, HR.out, HB.out⟩
  | some ad =>
    have hcl1 : Hid (∀ j u, (fl idC l)[j]? = some u → w1.cell? (ad.add j) = some u) := fun j u hu => by
      have h1 := hcl.out ad rfl j u hu
      have hlt := World.block_lt_of_cell? w _ h1
      exact (hB1.cell hlt).trans h1
    have hIL : Hid ((fl idC l).length = n * 3) := by show _ = _; rw [fl_length idC_len, HN.out]
    go_wp2_with (at_builtin; refine wpList_append_fits _ rfl _ _ 46 rfl (w.heap.size + 1) 51 i0 3 Try.underlying46 hi hz1 (w.heap.size + 1) 0 (n + 3) [] rfl hown1 ad n cap0 (fl idC l) rfl hIL.out hcl1.out (fl_one idC_one l) (by omega) ?_)
    intro w2 hown2 hgr2
    have hO2 : OIds w2 (w.heap.size + 1) (.slice (some ⟨w.heap.size + 1, 0, none⟩) n (n + 3)) l := by
      unfold OIds
      rw [HN.out]
      simpa using hown2
    obtain ⟨sp, hr2, hsp⟩ := OIds.row_at hO2
    have hx2 : RowD w2 w.heap.size (idC x) := (hgr2.block w.heap.size hx1.lt (by simp)).trans hx1
    have hB2 : Below w.heap.size w w2 := Below.grown hB1 hgr2 (by have := hx1.lt; omega) (by intro j hj; cases hj; omega)
    have hsp2 : sp.length = (3 - 0) * 3 := by rw [HN.out] at hsp; omega
    clear hsp hO2 hown2 hgr2 hown1 hgr1 hO1 hx1 hB1 hcl1 hIL hi hz0 hz1 hz2
    have hsp := hsp2
    clear hsp2
    have HST : Hid (RoomRelD l x (w.heap.size + 1) w.heap.size w.heap.size w (.int .i64 0) w2) := ⟨0, by omega, rfl, hB2, hx2, sp, hr2, hsp⟩
    have hne : w.heap.size + 1 ≠ w.heap.size := by omega
    clear hB2 hx2 hr2 hsp
    go_wp2_with fail
    go_loopw [6, 13] (fun _ i wr => RoomRelD l x (w.heap.size + 1) w.heap.size w.heap.size w i wr) (fun _ i _ => 3 - (intOf i).toNat)
    case atStart => exact HST.out
    case round =>
      obtain ⟨k, hk, rfl, hB, hx, sp', hr, hsl⟩ := hrel
      by_cases hlt2 : k < 3
      · rw [← List.append_assoc] at hr
        have hAl : (fl idC l ++ mkCD x k).length = (n + k) * 3 := by rw [List.length_append, fl_length idC_len, mkC_lengthD, HN.out]; omega
        obtain ⟨A, u0, u1, u2, R, hA, hsplit⟩ := splitD (fl idC l ++ mkCD x k ++ sp') ((n + k) * 3) (by rw [List.length_append, hAl]; omega)
        have hAeq : A = fl idC l ++ mkCD x k := by
          have h1 := congrArg (List.take ((n + k) * 3)) hsplit
          rw [List.take_append_of_le_length (by omega), List.take_of_length_le (by omega), List.take_append_of_le_length (by omega), List.take_of_length_le (by omega)] at h1
          exact h1.symm
        have hReq : R.length = (3 - (k + 1)) * 3 := by
          have h1 := congrArg List.length hsplit
          rw [List.length_append, hAl, List.length_append, hA] at h1
          simp at h1
          omega
        rw [hsplit] at hr
        obtain ⟨c0, c1, c2⟩ := cellsD hr hA
        have f0 := hr.frozen ((n + k) * 3)
        have f1 := hr.frozen ((n + k) * 3 + 1)
        have f2 := hr.frozen ((n + k) * 3 + 2)
        have x0 : wr.cell? ⟨w.heap.size, 0, none⟩ = some (.bool x.1) := hx.cell rfl
        have x1 : wr.cell? ⟨w.heap.size, 1, none⟩ = some (.int .i64 x.2.1) := hx.cell rfl
        have x2 : wr.cell? ⟨w.heap.size, 2, none⟩ = some (.int .i64 x.2.2) := hx.cell rfl
        have hrd : RowD wr.drew (w.heap.size + 1) (A ++ (u0 :: u1 :: u2 :: R)) := hr
        have hset := RowC.setD hrd hA (.bool x.1) (.int .i64 x.2.1) (.int .i64 x.2.2)
        have hx2 : RowD (((wr.drew.setCell ⟨w.heap.size + 1, (n + k) * 3, none⟩ (.bool x.1)).setCell ⟨w.heap.size + 1, (n + k) * 3 + 1, none⟩ (.int .i64 x.2.1)).setCell ⟨w.heap.size + 1, (n + k) * 3 + 2, none⟩ (.int .i64 x.2.2)) w.heap.size (idC x) := by
          unfold RowD RowC
          rw [otherD _ _ _ _ hne]
          exact hx
        have hB2 : Below w.heap.size w (((wr.drew.setCell ⟨w.heap.size + 1, (n + k) * 3, none⟩ (.bool x.1)).setCell ⟨w.heap.size + 1, (n + k) * 3 + 1, none⟩ (.int .i64 x.2.1)).setCell ⟨w.heap.size + 1, (n + k) * 3 + 2, none⟩ (.int .i64 x.2.2)) :=
          ((Below.setCell (Below.drew hB) (p := ⟨w.heap.size + 1, (n + k) * 3, none⟩) (Nat.le_succ _) _).setCell (p := ⟨w.heap.size + 1, (n + k) * 3 + 1, none⟩) (Nat.le_succ _) _).setCell (p := ⟨w.heap.size + 1, (n + k) * 3 + 2, none⟩) (Nat.le_succ _) _
        obtain ⟨wn, hwn⟩ : ∃ wn, ((wr.drew.setCell ⟨w.heap.size + 1, (n + k) * 3, none⟩ (.bool x.1)).setCell ⟨w.heap.size + 1, (n + k) * 3 + 1, none⟩ (.int .i64 x.2.1)).setCell ⟨w.heap.size + 1, (n + k) * 3 + 2, none⟩ (.int .i64 x.2.2) = wn := ⟨_, rfl⟩
        rw [hwn] at hset hB2 hx2
        have HREL : Hid (RoomRelD l x (w.heap.size + 1) w.heap.size w.heap.size w (.int .i64 ((k + 1 : Nat) : Int)) wn) := by
          refine ⟨k + 1, by omega, rfl, hB2, hx2, R, ?_, hReq⟩
          rw [hAeq] at hset
          rw [mkCD, List.append_assoc]
          rw [List.append_assoc] at hset
          exact hset
        have HRELW : Hid (RoomRelD l x (w.heap.size + 1) w.heap.size w.heap.size w (.int .i64 ((k + 1 : Nat) : Int)) (((wr.setCell ⟨w.heap.size + 1, (n + k) * 3, none⟩ (.bool x.1)).setCell ⟨w.heap.size + 1, (n + k) * 3 + 1, none⟩ (.int .i64 x.2.1)).setCell ⟨w.heap.size + 1, (n + k) * 3 + 2, none⟩ (.int .i64 x.2.2)).drew) := by
          show RoomRelD _ _ _ _ _ _ _ _
          have hh := HREL.out
          rw [← hwn] at hh
          exact hh
        have d1 : decide ((k : Int) < 3) = true := by rw [decide_eq_true_iff]; omega
        have p1 : IntKind.i64.wrap ((n : Int) + (k : Int)) = (n : Int) + (k : Int) := IntWalk.i64_in _ (by omega)
        have p2 : (0 : Int) ≤ (n : Int) + (k : Int) := by omega
        have p3 : ((n : Int) + (k : Int)).toNat = n + k := by omega
        have p4 : ((n : Int) + 3).toNat = n + 3 := by omega
        have p5 : (0 : Int) ≤ (n : Int) + 3 := by omega
        have p6 : (n : Int) + (k : Int) < (n : Int) + 3 := by omega
        clear hset hB2 hx2 hB hx hr hrd hsl hA hwn hAl hsplit hAeq hReq
        go_wp2_with fail
        go_region
        all_goals
          go_wp2_with fail
          go_roundw
          case rel => exact HRELW.out
          case measure => simp only [intOf]; omega
      · have hk3 : k = 3 := by omega
        subst hk3
        have d1 : decide ((3 : Int) < 3) = false := by decide
        have hnil : sp' = [] := List.eq_nil_of_length_eq_zero (by omega)
        subst hnil
        rw [List.append_nil] at hr
        have HR := Lib.hid hr
        have HB := Lib.hid hB
        clear hr hB hx hsl
        go_wp2_with fail
        go_ret
        exact ⟨w.heap.size + 1, by rw [HN.out]; rfl, by omega, HR.out, HB.out⟩

theorem mkC_getD (x : Idn) (k : Nat) (h : k < 3) : (mkCD x 3)[k * 3]? = some (.bool x.1) ∧ (mkCD x 3)[k * 3 + 1]? = some (.int .i64 x.2.1) ∧ (mkCD x 3)[k * 3 + 2]? = some (.int .i64 x.2.2) := by
  match k, h with
  | 0, _ => exact ⟨rfl, rfl, rfl⟩
  | 1, _ => exact ⟨rfl, rfl, rfl⟩
  | 2, _ => exact ⟨rfl, rfl, rfl⟩

def MarkRelD (X : Nat) (x : Idn) (w : World) (i : Value) (wr : World) : Prop := ∃ k : Nat, k ≤ 3 ∧ i = .int .i64 k ∧ Up w wr ∧ RowD wr X (idC x)

set_option maxRecDepth 100000 in
set_option maxHeartbeats 1000000 in
theorem marked_anyD (g : Nat) (l : List Idn) (x : Idn) (w : World) (hr : RowD w g (fl idC l ++ mkCD x 3)) (hl : l.length * 24 ≤ 140737488351232) :
    Calls Try.prog 25 #[.slice (some ⟨g, 0, none⟩) l.length (l.length + 3), idV x] w fun e w' => e = .returned (.bool true) ∧ Up w w' := by
  have HR := Lib.hid hr
  have HQ := Lib.hid (heap_alloc_new w (.cells #[.bool x.1, .int .i64 x.2.1, .int .i64 x.2.2] 51))
  have HST : Hid (MarkRelD w.heap.size x w (.int .i64 0) (w.alloc (.cells #[.bool x.1, .int .i64 x.2.1, .int .i64 x.2.2] 51))) := ⟨0, by omega, rfl, Up.alloc _ _, HQ.out⟩
  obtain ⟨n, hn⟩ : ∃ n, l.length = n := ⟨_, rfl⟩
  have HIL : Hid ((fl idC l).length = n * 3) := by show _ = _; rw [fl_length idC_len, hn]
  rw [hn] at hl ⊢
  have p1 : ¬ n + 3 = n := by omega
  have p2 : n + 3 - n = 3 := by omega
  have p3 : n ≤ n + 3 := by omega
  unfold idV
  clear hr hn
  go_enter Try.func25, Try.ntmps25
  go_wp2_with fail
  go_loopw [14] (fun i wr => MarkRelD w.heap.size x w i wr) (fun i _ => 3 - (intOf i).toNat)
  case atStart => exact HST.out
  case round =>
    obtain ⟨k, hk, rfl, hu, hx⟩ := hrel
    by_cases hlt : k < 3
    · have hrr := HR.out.up hu
      obtain ⟨m0, m1, m2⟩ := mkC_getD x k hlt
      have hcell : ∀ j v, (mkCD x 3)[j]? = some v → wr.cell? ⟨g, n * 3 + j, none⟩ = some v := fun j v hv => hrr.cell (by rw [List.getElem?_append_right (by rw [HIL.out]; omega), HIL.out, Nat.add_sub_cancel_left]; exact hv)
      have c0 := hcell _ _ m0
      have c1 := hcell _ _ m1
      have c2 := hcell _ _ m2
      rw [← Nat.add_assoc] at c1 c2
      have x0 : wr.cell? ⟨w.heap.size, 0, none⟩ = some (.bool x.1) := hx.cell rfl
      have x1 : wr.cell? ⟨w.heap.size, 1, none⟩ = some (.int .i64 x.2.1) := hx.cell rfl
      have x2 : wr.cell? ⟨w.heap.size, 2, none⟩ = some (.int .i64 x.2.2) := hx.cell rfl
      have hlt0 := RowD.lt hx
      have hne : w.heap.size ≠ wr.heap.size := by omega
      clear hlt0
      have HREL : Hid (MarkRelD w.heap.size x w (.int .i64 ((k + 1 : Nat) : Int)) (wr.alloc (.cells #[.bool x.1, .int .i64 x.2.1, .int .i64 x.2.2] 51))) := ⟨k + 1, by omega, rfl, hu.trans (Up.alloc _ _), hx.up (Up.alloc _ _)⟩
      have d1 : decide ((k : Int) < 3) = true := by rw [decide_eq_true_iff]; omega
      have hlt2 : w.heap.size < wr.heap.size := RowD.lt hx
      clear hrr hcell m0 m1 m2 hu hx
      go_wp2_with fail
      go_roundw
      case rel => exact HREL.out
      case measure => simp only [intOf]; omega
    · have hk3 : k = 3 := by omega
      subst hk3
      have d1 : decide ((3 : Int) < 3) = false := by decide
      have HU := Lib.hid hu
      clear hu hx
      go_wp2_with fail
      go_ret
      exact ⟨rfl, HU.out⟩

end Go.Proofs.Ytnmdfdkagkpcaaa
