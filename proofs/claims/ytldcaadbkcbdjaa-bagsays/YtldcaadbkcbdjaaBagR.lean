/-
  What roomy, marked and spoil (of the laws on memory) do with rows of items. Conditions: as each says.
-/
import Derived.Test.YtldcaadbkcbdjaaBagO
import Derived.OwnWalk
import Derived.Deep.Upon
namespace Go.Proofs.Ytldcaadbkcbdjaa
open Go.RowKit
open Go.Proofs
open WoolBag

theorem set4 (A R : List Value) (u0 u1 u2 u3 v0 v1 v2 v3 : Value) (a : Nat) (h : A.length = a) :
    ((((A ++ (u0 :: u1 :: u2 :: u3 :: R)).set a v0).set (a + 1) v1).set (a + 2) v2).set (a + 3) v3 = A ++ (v0 :: v1 :: v2 :: v3 :: R) := by
  subst h
  rw [List.set_append_right _ _ (Nat.le_refl _), List.set_append_right _ _ (by omega), List.set_append_right _ _ (by omega), List.set_append_right _ _ (by omega)]
  simp [show A.length + 1 - A.length = 1 by omega, show A.length + 2 - A.length = 2 by omega, show A.length + 3 - A.length = 3 by omega]

theorem split4 (L : List Value) (a : Nat) (h : a + 4 ≤ L.length) : ∃ A u0 u1 u2 u3 R, A.length = a ∧ L = A ++ (u0 :: u1 :: u2 :: u3 :: R) := by
  refine ⟨L.take a, L[a], L[a + 1], L[a + 2], L[a + 3], L.drop (a + 4), by rw [List.length_take]; omega, ?_⟩
  rw [← List.drop_eq_getElem_cons, ← List.drop_eq_getElem_cons, ← List.drop_eq_getElem_cons, ← List.drop_eq_getElem_cons, List.take_append_drop]

theorem cells4 {w : World} {g a : Nat} {A R : List Value} {u0 u1 u2 u3 : Value} (h : RowI w g (A ++ (u0 :: u1 :: u2 :: u3 :: R))) (ha : A.length = a) :
    w.cell? ⟨g, a, none⟩ = some u0 ∧ w.cell? ⟨g, a + 1, none⟩ = some u1 ∧ w.cell? ⟨g, a + 2, none⟩ = some u2 ∧ w.cell? ⟨g, a + 3, none⟩ = some u3 := by
  subst ha
  refine ⟨h.cell ?_, h.cell ?_, h.cell ?_, h.cell ?_⟩ <;> rw [List.getElem?_append_right (by omega)]
  · simp
  · simp [show A.length + 1 - A.length = 1 by omega]
  · simp [show A.length + 2 - A.length = 2 by omega]
  · simp [show A.length + 3 - A.length = 3 by omega]

theorem RowI.set4 {w : World} {g a : Nat} {A R : List Value} {u0 u1 u2 u3 : Value} (h : RowI w g (A ++ (u0 :: u1 :: u2 :: u3 :: R))) (ha : A.length = a) (v0 v1 v2 v3 : Value) :
    RowI ((((w.setCell ⟨g, a, none⟩ v0).setCell ⟨g, a + 1, none⟩ v1).setCell ⟨g, a + 2, none⟩ v2).setCell ⟨g, a + 3, none⟩ v3) g (A ++ (v0 :: v1 :: v2 :: v3 :: R)) := by
  have := (((h.set a v0).set (a + 1) v1).set (a + 2) v2).set (a + 3) v3
  rw [Go.Proofs.Ytldcaadbkcbdjaa.set4 A R u0 u1 u2 u3 v0 v1 v2 v3 a ha] at this
  exact this

/-- stores into one block -/
theorem grown_set4 {w w' : World} {g a : Nat} (h : w.grownBy w' (some g)) (v0 v1 v2 v3 : Value) :
    w.grownBy ((((w'.setCell ⟨g, a, none⟩ v0).setCell ⟨g, a + 1, none⟩ v1).setCell ⟨g, a + 2, none⟩ v2).setCell ⟨g, a + 3, none⟩ v3) (some g) := by
  have one : ∀ (W : World) (j : Nat) (v : Value), w.grownBy W (some g) → w.grownBy (W.setCell ⟨g, j, none⟩ v) (some g) := fun W j v hW =>
    ⟨hW.os, hW.tape, hW.output, by simpa [World.setCell] using hW.size, fun k hk hne => by
      have hkg : g ≠ k := fun e => hne (by rw [e])
      simp [World.setCell, Array.getElem?_modify, hkg]
      simpa using hW.block k hk hne⟩
  exact one _ _ _ (one _ _ _ (one _ _ _ (one _ _ _ h)))

theorem other_set4 (w : World) (g a b : Nat) (h : g ≠ b) (v0 v1 v2 v3 : Value) :
    ((((w.setCell ⟨g, a, none⟩ v0).setCell ⟨g, a + 1, none⟩ v1).setCell ⟨g, a + 2, none⟩ v2).setCell ⟨g, a + 3, none⟩ v3).heap[b]? = w.heap[b]? := by
  simp [World.setCell, Array.getElem?_modify, h]

/-! ytldcaadbkcbdjaa# spoil -/

def SpoilRel (cap g X : Nat) (x : Itm) (w : World) (i : Value) (wr : World) : Prop :=
  ∃ k : Nat, k ≤ cap ∧ i = .int .i64 k ∧ w.grownBy wr (some g) ∧ RowI wr X (itC x) ∧ ∃ L, RowI wr g L ∧ L.length = cap * 4

set_option maxRecDepth 100000 in
set_option maxHeartbeats 1000000 in
theorem spoil_any (v : Value) (l : List Itm) (base : Nat) (x : Itm) (w : World) (h : OItems w base v l) :
    Calls Try.prog 25 #[v, itV x] w fun e w' => e = .returned (.tuple #[]) ∧ w.grownBy w' v.ownBlock := by
  unfold itV
  rcases h.row with ⟨rfl, rfl⟩ | ⟨g, cap, sp, rfl, hg, hrow, hc1, hc2, hc3⟩
  · clear h
    go_enter Try.func25, Try.ntmps25
    go_wp2_with fail
    go_loopw [11] (fun i wr => i = .int .i64 0 ∧ wr = w.alloc (.cells #[.int .i64 x.s, .int .i64 x.n, .string (bs x.t), .int .i64 x.r] 34)) (fun _ _ => 0)
    case atStart => exact ⟨rfl, rfl⟩
    case round =>
      obtain ⟨rfl, rfl⟩ := hrel
      go_wp2_with fail
      go_end0
      exact ⟨rfl, World.grownBy_alloc w _ none⟩
  · have hlt := hrow.lt
    have HST : Hid (SpoilRel cap g w.heap.size x w (.int .i64 0) (w.alloc (.cells #[.int .i64 x.s, .int .i64 x.n, .string (bs x.t), .int .i64 x.r] 34))) :=
      ⟨0, Nat.zero_le _, rfl, World.grownBy_alloc w _ _, heap_alloc_new w _, _, hrow.up (Up.alloc _ _), by rw [List.length_append, itL_length]; exact hc3⟩
    unfold maxLen at hc2
    have hlc : l.length ≤ cap := hc1
    obtain ⟨n, hn⟩ : ∃ n, l.length = n := ⟨_, rfl⟩
    rw [hn] at hlc ⊢
    have hgX : g ≠ w.heap.size := by omega
    clear h hrow hc3 hn hc1 hg
    go_enter Try.func25, Try.ntmps25
    go_wp2_with fail
    go_loopw [4, 11] (fun _ i wr => SpoilRel cap g w.heap.size x w i wr) (fun _ i _ => cap - (intOf i).toNat)
    case atStart => exact HST.out
    case round =>
      obtain ⟨k, hk, rfl, hgr, hx, L, hL, hLl⟩ := hrel
      by_cases hlt2 : k < cap
      · obtain ⟨A, u0, u1, u2, u3, R, hA, rfl⟩ := split4 L (k * 4) (by omega)
        obtain ⟨c0, c1, c2, c3⟩ := cells4 hL hA
        have f0 := hL.frozen (k * 4)
        have f1 := hL.frozen (k * 4 + 1)
        have f2 := hL.frozen (k * 4 + 2)
        have f3 := hL.frozen (k * 4 + 3)
        have x0 : wr.cell? ⟨w.heap.size, 0, none⟩ = some (.int .i64 x.s) := hx.cell rfl
        have x1 : wr.cell? ⟨w.heap.size, 1, none⟩ = some (.int .i64 x.n) := hx.cell rfl
        have x2 : wr.cell? ⟨w.heap.size, 2, none⟩ = some (.string (bs x.t)) := hx.cell rfl
        have x3 : wr.cell? ⟨w.heap.size, 3, none⟩ = some (.int .i64 x.r) := hx.cell rfl
        have hset := hL.set4 hA (.int .i64 x.s) (.int .i64 x.n) (.string (bs x.t)) (.int .i64 x.r)
        have hgr2 := grown_set4 (a := k * 4) hgr (.int .i64 x.s) (.int .i64 x.n) (.string (bs x.t)) (.int .i64 x.r)
        have hx2 : RowI ((((wr.setCell ⟨g, k * 4, none⟩ (.int .i64 x.s)).setCell ⟨g, k * 4 + 1, none⟩ (.int .i64 x.n)).setCell ⟨g, k * 4 + 2, none⟩ (.string (bs x.t))).setCell ⟨g, k * 4 + 3, none⟩ (.int .i64 x.r)) w.heap.size (itC x) := by
          unfold RowI
          rw [other_set4 _ _ _ _ hgX]
          exact hx
        obtain ⟨wn, hwn⟩ : ∃ wn, (((wr.setCell ⟨g, k * 4, none⟩ (.int .i64 x.s)).setCell ⟨g, k * 4 + 1, none⟩ (.int .i64 x.n)).setCell ⟨g, k * 4 + 2, none⟩ (.string (bs x.t))).setCell ⟨g, k * 4 + 3, none⟩ (.int .i64 x.r) = wn := ⟨_, rfl⟩
        rw [hwn] at hset hgr2 hx2
        have HREL : Hid (SpoilRel cap g w.heap.size x w (.int .i64 ((k + 1 : Nat) : Int)) wn) := ⟨k + 1, by omega, rfl, hgr2, hx2, _, hset, by simp at hLl ⊢; omega⟩
        have HW := Lib.hid hwn
        have d1 : decide (k < cap) = true := decide_eq_true hlt2
        clear hset hgr2 hx2 hgr hx hL hLl hA hwn
        go_wp2_with fail
        rw [HW.out]
        go_roundw
        case rel => exact HREL.out
        case measure => simp only [intOf]; omega
      · have d1 : decide (k < cap) = false := decide_eq_false hlt2
        have HG := Lib.hid hgr
        clear hgr hx hL hLl
        go_wp2_with fail
        go_end0
        exact ⟨rfl, HG.out⟩

end Go.Proofs.Ytldcaadbkcbdjaa
