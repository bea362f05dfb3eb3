/-
  What spoil (of the laws on memory) does with a row of strings of the call's own. Conditions: as each says.
-/
import Derived.Test.YtemineffflodcaaJListsOwn41
import Derived.OwnWalk
import Derived.Deep.Upon
namespace Go.Proofs.Ytemineffflodcaa
open Go.RowKit
open Go.Proofs

theorem lsetT (A R : List Value) (u0 v0 : Value) (a : Nat) (h : A.length = a) : ((A ++ (u0 :: R)).set (a) v0) = A ++ (v0 :: R) := by
  subst h
  rw [List.set_append_right _ _ (Nat.le_refl _)]
  simp

theorem splitT (L : List Value) (a : Nat) (h : a + 1 ≤ L.length) : ∃ A u0 R, A.length = a ∧ L = A ++ (u0 :: R) := by
  refine ⟨L.take a, L[a], L.drop (a + 1), by rw [List.length_take]; omega, ?_⟩
  rw [← List.drop_eq_getElem_cons, List.take_append_drop]

theorem cellsT {w : World} {g a T : Nat} {A R : List Value} {u0 : Value} (h : RowC w g T (A ++ (u0 :: R))) (ha : A.length = a) :
    w.cell? ⟨g, a, none⟩ = some u0 := by
  subst ha
  exact h.cell (by rw [List.getElem?_append_right (by omega)]; simp)

theorem RowC.setT {w : World} {g a T : Nat} {A R : List Value} {u0 : Value} (h : RowC w g T (A ++ (u0 :: R))) (ha : A.length = a) (v0 : Value) :
    RowC (w.setCell ⟨g, a, none⟩ (v0)) g T (A ++ (v0 :: R)) := by
  have := (h.set a v0)
  rw [lsetT A R u0 v0 a ha] at this
  exact this

theorem grownT {w w' : World} {g a : Nat} (h : w.grownBy w' (some g)) (v0 : Value) :
    w.grownBy (w'.setCell ⟨g, a, none⟩ (v0)) (some g) := by
  have one : ∀ (W : World) (j : Nat) (v : Value), w.grownBy W (some g) → w.grownBy (W.setCell ⟨g, j, none⟩ v) (some g) := fun W j v hW =>
    ⟨hW.os, hW.tape, hW.output, by simpa [World.setCell] using hW.size, fun k hk hne => by
      have hkg : g ≠ k := fun e => hne (by rw [e])
      simp [World.setCell, Array.getElem?_modify, hkg]
      simpa using hW.block k hk hne⟩
  exact one _ _ _ h

theorem otherT (w : World) (g a b : Nat) (h : g ≠ b) (v0 : Value) :
    (w.setCell ⟨g, a, none⟩ (v0)).heap[b]? = w.heap[b]? := by
  simp [World.setCell, Array.getElem?_modify, h]

def SpoilTRel (cap g : Nat)  (w : World) (i : Value) (wr : World) : Prop :=
  ∃ k : Nat, k ≤ cap ∧ i = .int .i64 (k : Int) ∧ w.grownBy wr (some g) ∧ ∃ L, RowC wr g 9 L ∧ L.length = cap * 1

set_option maxRecDepth 100000 in
set_option maxHeartbeats 1000000 in
theorem spoilT_any (v : Value) (n base : Nat) (L0 : List Value) (x : ByteArray) (w : World) (h : w.ownsRow base 9 1 v n L0) :
    Calls Try.prog 22 #[v, .string x] w fun e w' => e = .returned (.tuple #[]) ∧ w.grownBy w' v.ownBlock := by
  rcases own_row h with ⟨rfl, rfl, rfl⟩ | ⟨g, cap, sp, rfl, hg, hrow, hc1, hc2, hc3⟩
  · clear h
    go_enter Try.func22, Try.ntmps22
    go_wp2_with fail
    go_loopw [11] (fun i wr => i = .int .i64 0 ∧ wr = w) (fun _ _ => 0)
    case atStart => exact ⟨rfl, rfl⟩
    case round =>
      obtain ⟨rfl, rfl⟩ := hrel
      go_wp2_with fail
      go_end0
      exact ⟨rfl, World.grownBy.refl _ none⟩
  · have hlt := hrow.lt
    have hLl : (L0 ++ sp).length = cap * 1 := by rw [List.length_append, h.1]; exact hc3
    have HST : Hid (SpoilTRel cap g w (.int .i64 0) w) :=
      ⟨0, Nat.zero_le _, rfl, World.grownBy.refl w _, _, hrow, hLl⟩
    unfold maxLen at hc2
    have hlc : n ≤ cap := hc1

    clear h hrow hc3 hc1 hg hLl
    go_enter Try.func22, Try.ntmps22
    go_wp2_with fail
    go_loopw [4, 11] (fun _ i wr => SpoilTRel cap g w i wr) (fun _ i _ => cap - (intOf i).toNat)
    case atStart => exact HST.out
    case round =>
      obtain ⟨k, hk, rfl, hgr, L, hL, hLl⟩ := hrel
      by_cases hlt2 : k < cap
      · obtain ⟨A, u0, R, hA, rfl⟩ := splitT L (k) (by omega)
        have c0 := cellsT hL hA
        have f0 := hL.frozen (k)
        have hset := hL.setT hA (.string x)
        have hgr2 := grownT (a := k) hgr (.string x)
        obtain ⟨wn, hwn⟩ : ∃ wn, (wr.setCell ⟨g, k, none⟩ (.string x)) = wn := ⟨_, rfl⟩
        rw [hwn] at hset hgr2
        have HREL : Hid (SpoilTRel cap g w (.int .i64 ((k + 1 : Nat) : Int)) wn) := ⟨k + 1, by omega, rfl, hgr2, _, hset, by simp at hLl ⊢; omega⟩
        have HW := Lib.hid hwn
        have d1 : decide (k < cap) = true := decide_eq_true hlt2
        clear hset hgr2 hgr hL hLl hA hwn
        go_wp2_with fail
        rw [HW.out]
        go_roundw
        case rel => exact HREL.out
        case measure => simp only [intOf]; omega
      · have d1 : decide (k < cap) = false := decide_eq_false hlt2
        have HG := Lib.hid hgr
        clear hgr hL hLl
        go_wp2_with fail
        go_end0
        exact ⟨rfl, HG.out⟩

def CloTPost (w : World) (n : Nat) (L : List Value) (e : Ending) (w' : World) : Prop := ∃ v', e = .returned v' ∧ w'.ownsRow w.heap.size 9 1 v' n L ∧ Up w w'

set_option maxRecDepth 100000 in
set_option maxHeartbeats 1000000 in
theorem cloneT_raw (v : Value) (n : Nat) (L : List Value) (w : World) (h : Sl w 1 v n L) (hone : ∀ u ∈ L, u.oneCell' = true) (hl : n * 16 ≤ 140737488351232) :
    Calls Try.prog 18 #[v] w (CloTPost w n L) := by
  obtain ⟨i0, hi, hz0, hz1, hz2⟩ := info_parts strInfoT
  have HX := Lib.hid h
  obtain ⟨o, c, rfl, h3, h3'⟩ := h.slice
  have hlen := h.1
  have q22 : ∀ (w : World) (a : Option Addr) (n c n' c' : Nat), (binOp .eql 23 (.slice a n c) (.slice none n' c')).run Try.prog w = .ok (.bool a.isNone) w := fun w a n c n' c' => Lib.run_eql_slice_nil w _ _ a n c n' c' Try.underlying23
  cases o with
  | none =>
    have hn : n = 0 := by
      by_cases e : n = 0
      · exact e
      · obtain ⟨b, off, e2, _⟩ := Sl.cells h e
        cases e2
    subst hn
    have hL0 : L = [] := List.eq_nil_of_length_eq_zero (by omega)
    subst hL0
    clear h hlen HX
    go_enter Try.func18, Try.ntmps18
    go_wp2
    go_ret
    exact ⟨_, rfl, World.ownsRow_nil _ _ _ _, Up.refl _⟩
  | some ad =>
    have hcl : Hid (∀ j u, L[j]? = some u → w.cell? (ad.add j) = some u) := by
      intro j u hj
      have hlt : j < L.length := (List.getElem?_eq_some_iff.1 hj).1
      have hne : n ≠ 0 := by
        rintro rfl
        omega
      obtain ⟨b, off, e, hc⟩ := Sl.cells HX.out hne
      cases e
      rw [add_offT]
      exact hc j u hj
    clear h HX
    go_enter Try.func18, Try.ntmps18
    go_wp2_with (at_builtin; refine wpList_append_own _ rfl _ _ 23 rfl w.heap.size 9 i0 (.string ⟨#[]⟩) 1 16 Try.underlying23 hi hz0 hz1 hz2 rfl (by omega) _ _ _ rfl (World.ownsRow_made w #[] 0 (Nat.le_refl _) (Nat.zero_le _) (by simp)) ad n c L rfl ?qc1 ?qc2 ?qc3 ?qc4 ?qc5 ?qc6 ?_)
    case qc1 => exact hlen
    case qc2 =>
      intro j u hj
      exact Lib.cell?_alloc_some _ (hcl.out j u hj)
    case qc3 => exact hone
    case qc4 => unfold maxLen; omega
    case qc5 => omega
    case qc6 => simp
    intro v' w1 hown hgrow hnil
    have HO : Hid (w1.ownsRow w.heap.size 9 1 v' n L) := by
      show w1.ownsRow w.heap.size 9 1 v' n L
      simpa using hown
    have HU : Hid (Up w w1) := ((Below.refl _ w).alloc (Nat.le_refl _) _).grown hgrow (by simp) (by intro k hk; simp [Value.ownBlock] at hk; omega)
    clear hown hgrow hnil hcl hlen
    go_wp2
    go_ret
    exact ⟨v', rfl, HO.out, HU.out⟩

end Go.Proofs.Ytemineffflodcaa
