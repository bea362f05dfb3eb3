/-
  What spoil (of the laws on memory) does with a row of steps of the call's own; slices.Clone at such a row. Conditions: as each says.
-/
import Derived.Test.YtemineffflodcaaJListsOwn41
import Derived.OwnWalk
import Derived.Deep.Upon
namespace Go.Proofs.Ytemineffflodcaa
open Go.RowKit
open Go.Proofs

theorem lsetP (A R : List Value) (u0 u1 v0 v1 : Value) (a : Nat) (h : A.length = a) :
    (((A ++ (u0 :: u1 :: R)).set (a) v0).set (a + 1) v1) = A ++ (v0 :: v1 :: R) := by
  subst h
  rw [List.set_append_right _ _ (Nat.le_refl _), List.set_append_right _ _ (by omega)]
  simp [show A.length + 1 - A.length = 1 by omega]

theorem splitP (L : List Value) (a : Nat) (h : a + 2 ≤ L.length) : ∃ A u0 u1 R, A.length = a ∧ L = A ++ (u0 :: u1 :: R) := by
  refine ⟨L.take a, L[a], L[a + 1], L.drop (a + 2), by rw [List.length_take]; omega, ?_⟩
  rw [← List.drop_eq_getElem_cons, ← List.drop_eq_getElem_cons, List.take_append_drop]

theorem cellsP {w : World} {g a T : Nat} {A R : List Value} {u0 u1 : Value} (h : RowC w g T (A ++ (u0 :: u1 :: R))) (ha : A.length = a) :
    w.cell? ⟨g, a, none⟩ = some u0 ∧ w.cell? ⟨g, a + 1, none⟩ = some u1 := by
  subst ha
  refine ⟨h.cell ?_, h.cell ?_⟩ <;> rw [List.getElem?_append_right (by omega)]
  · simp
  · simp [show A.length + 1 - A.length = 1 by omega]

theorem RowC.setP {w : World} {g a T : Nat} {A R : List Value} {u0 u1 : Value} (h : RowC w g T (A ++ (u0 :: u1 :: R))) (ha : A.length = a) (v0 v1 : Value) :
    RowC ((w.setCell ⟨g, a, none⟩ (v0)).setCell ⟨g, a + 1, none⟩ (v1)) g T (A ++ (v0 :: v1 :: R)) := by
  have := ((h.set a v0).set (a + 1) v1)
  rw [lsetP A R u0 u1 v0 v1 a ha] at this
  exact this

theorem grownP {w w' : World} {g a : Nat} (h : w.grownBy w' (some g)) (v0 v1 : Value) :
    w.grownBy ((w'.setCell ⟨g, a, none⟩ (v0)).setCell ⟨g, a + 1, none⟩ (v1)) (some g) := by
  have one : ∀ (W : World) (j : Nat) (v : Value), w.grownBy W (some g) → w.grownBy (W.setCell ⟨g, j, none⟩ v) (some g) := fun W j v hW =>
    ⟨hW.os, hW.tape, hW.output, by simpa [World.setCell] using hW.size, fun k hk hne => by
      have hkg : g ≠ k := fun e => hne (by rw [e])
      simp [World.setCell, Array.getElem?_modify, hkg]
      simpa using hW.block k hk hne⟩
  exact one _ _ _ (one _ _ _ h)

theorem otherP (w : World) (g a b : Nat) (h : g ≠ b) (v0 v1 : Value) :
    ((w.setCell ⟨g, a, none⟩ (v0)).setCell ⟨g, a + 1, none⟩ (v1)).heap[b]? = w.heap[b]? := by
  simp [World.setCell, Array.getElem?_modify, h]

def SpoilPRel (cap g : Nat) (X : Nat) (x0 : Bool) (x1 : Int) (w : World) (i : Value) (wr : World) : Prop :=
  ∃ k : Nat, k ≤ cap ∧ i = .int .i64 (k : Int) ∧ w.grownBy wr (some g) ∧ RowC wr X 52 [.bool x0, .int .i64 x1] ∧ ∃ L, RowC wr g 52 L ∧ L.length = cap * 2

set_option maxRecDepth 100000 in
set_option maxHeartbeats 1000000 in
theorem spoilP_any (v : Value) (n base : Nat) (L0 : List Value) (x0 : Bool) (x1 : Int) (w : World) (h : w.ownsRow base 52 2 v n L0) :
    Calls Try.prog 26 #[v, .agg #[.bool x0, .int .i64 x1]] w fun e w' => e = .returned (.tuple #[]) ∧ w.grownBy w' v.ownBlock := by
  rcases own_row h with ⟨rfl, rfl, rfl⟩ | ⟨g, cap, sp, rfl, hg, hrow, hc1, hc2, hc3⟩
  · clear h
    go_enter Try.func26, Try.ntmps26
    go_wp2_with fail
    go_loopw [11] (fun i wr => i = .int .i64 0 ∧ wr = (w.alloc (.cells #[.bool x0, .int .i64 x1] 52))) (fun _ _ => 0)
    case atStart => exact ⟨rfl, rfl⟩
    case round =>
      obtain ⟨rfl, rfl⟩ := hrel
      go_wp2_with fail
      go_end0
      exact ⟨rfl, World.grownBy_alloc w _ none⟩
  · have hlt := hrow.lt
    have hLl : (L0 ++ sp).length = cap * 2 := by rw [List.length_append, h.1]; exact hc3
    have HST : Hid (SpoilPRel cap g w.heap.size x0 x1 w (.int .i64 0) (w.alloc (.cells #[.bool x0, .int .i64 x1] 52))) :=
      ⟨0, Nat.zero_le _, rfl, World.grownBy_alloc w _ _, heap_alloc_new w _, _, hrow.up (Up.alloc _ _), hLl⟩
    unfold maxLen at hc2
    have hlc : n ≤ cap := hc1
    have hgX : g ≠ w.heap.size := by omega
    clear h hrow hc3 hc1 hg hLl
    go_enter Try.func26, Try.ntmps26
    go_wp2_with fail
    go_loopw [4, 11] (fun _ i wr => SpoilPRel cap g w.heap.size x0 x1 w i wr) (fun _ i _ => cap - (intOf i).toNat)
    case atStart => exact HST.out
    case round =>
      obtain ⟨k, hk, rfl, hgr, hx, L, hL, hLl⟩ := hrel
      by_cases hlt2 : k < cap
      · obtain ⟨A, u0, u1, R, hA, rfl⟩ := splitP L (k * 2) (by omega)
        obtain ⟨c0, c1⟩ := cellsP hL hA
        have f0 := hL.frozen (k * 2)
        have f1 := hL.frozen (k * 2 + 1)
        have x0c : wr.cell? ⟨w.heap.size, 0, none⟩ = some (.bool x0) := hx.cell rfl
        have x1c : wr.cell? ⟨w.heap.size, 1, none⟩ = some (.int .i64 x1) := hx.cell rfl
        have hset := hL.setP hA (.bool x0) (.int .i64 x1)
        have hgr2 := grownP (a := k * 2) hgr (.bool x0) (.int .i64 x1)
        have hx2 : RowC ((wr.setCell ⟨g, k * 2, none⟩ (.bool x0)).setCell ⟨g, k * 2 + 1, none⟩ (.int .i64 x1)) w.heap.size 52 [.bool x0, .int .i64 x1] := by
          unfold RowC
          rw [otherP _ _ _ _ hgX]
          exact hx
        obtain ⟨wn, hwn⟩ : ∃ wn, ((wr.setCell ⟨g, k * 2, none⟩ (.bool x0)).setCell ⟨g, k * 2 + 1, none⟩ (.int .i64 x1)) = wn := ⟨_, rfl⟩
        rw [hwn] at hset hgr2 hx2
        have HREL : Hid (SpoilPRel cap g w.heap.size x0 x1 w (.int .i64 ((k + 1 : Nat) : Int)) wn) := ⟨k + 1, by omega, rfl, hgr2, hx2, _, hset, by simp at hLl ⊢; omega⟩
        have HW := Lib.hid hwn
        have d1 : decide (k < cap) = true := decide_eq_true hlt2
        clear hset hgr2 hx2 hx hgr hL hLl hA hwn
        go_wp2_with fail
        rw [HW.out]
        go_roundw
        case rel => exact HREL.out
        case measure => simp only [intOf]; omega
      · have d1 : decide (k < cap) = false := decide_eq_false hlt2
        have HG := Lib.hid hgr
        clear hgr hx hL hLl
        go_wp2_with fail
        go_end0
        exact ⟨rfl, HG.out⟩

def CloPPost (w : World) (n : Nat) (L : List Value) (e : Ending) (w' : World) : Prop := ∃ v', e = .returned v' ∧ w'.ownsRow w.heap.size 52 2 v' n L ∧ Up w w'

set_option maxRecDepth 100000 in
set_option maxHeartbeats 1000000 in
theorem cloneP_raw (v : Value) (n : Nat) (L : List Value) (w : World) (h : Sl w 2 v n L) (hone : ∀ u ∈ L, u.oneCell' = true) (hl : n * 16 ≤ 140737488351232) :
    Calls Try.prog 20 #[v] w (CloPPost w n L) := by
  obtain ⟨i0, hi, hz0, hz1, hz2⟩ := info_parts stInfo
  have HX := Lib.hid h
  obtain ⟨o, c, rfl, h3, h3'⟩ := h.slice
  have hlen := h.1
  have q22 : ∀ (w : World) (a : Option Addr) (n c n' c' : Nat), (binOp .eql 37 (.slice a n c) (.slice none n' c')).run Try.prog w = .ok (.bool a.isNone) w := fun w a n c n' c' => Lib.run_eql_slice_nil w _ _ a n c n' c' Try.underlying37
  cases o with
  | none =>
    have hn : n = 0 := by
      by_cases e : n = 0
      · exact e
      · obtain ⟨b, off, e2, _⟩ := Sl.cells h e
        cases e2
    subst hn
    have hL0 : L = [] := List.eq_nil_of_length_eq_zero (by omega)
    subst hL0
    clear h hlen HX
    go_enter Try.func20, Try.ntmps20
    go_wp2
    go_ret
    exact ⟨_, rfl, World.ownsRow_nil _ _ _ _, Up.refl _⟩
  | some ad =>
    have hcl : Hid (∀ j u, L[j]? = some u → w.cell? (ad.add j) = some u) := by
      intro j u hj
      have hlt : j < L.length := (List.getElem?_eq_some_iff.1 hj).1
      have hne : n ≠ 0 := by
        rintro rfl
        omega
      obtain ⟨b, off, e, hc⟩ := Sl.cells HX.out hne
      cases e
      rw [add_offT]
      exact hc j u hj
    clear h HX
    go_enter Try.func20, Try.ntmps20
    go_wp2_with (at_builtin; refine wpList_append_own _ rfl _ _ 37 rfl w.heap.size 52 i0 (.agg #[.bool false, .int .i64 0]) 2 16 Try.underlying37 hi hz0 hz1 hz2 rfl (by omega) _ _ _ rfl (World.ownsRow_made w #[] 0 (Nat.le_refl _) (Nat.zero_le _) (by simp)) ad n c L rfl ?qc1 ?qc2 ?qc3 ?qc4 ?qc5 ?qc6 ?_)
    case qc1 => exact hlen
    case qc2 =>
      intro j u hj
      exact Lib.cell?_alloc_some _ (hcl.out j u hj)
    case qc3 => exact hone
    case qc4 => unfold maxLen; omega
    case qc5 => omega
    case qc6 => simp
    intro v' w1 hown hgrow hnil
    have HO : Hid (w1.ownsRow w.heap.size 52 2 v' n L) := by
      show w1.ownsRow w.heap.size 52 2 v' n L
      simpa using hown
    have HU : Hid (Up w w1) := ((Below.refl _ w).alloc (Nat.le_refl _) _).grown hgrow (by simp) (by intro k hk; simp [Value.ownBlock] at hk; omega)
    clear hown hgrow hnil hcl hlen
    go_wp2
    go_ret
    exact ⟨v', rfl, HO.out, HU.out⟩

end Go.Proofs.Ytemineffflodcaa
