/-
  What marked (of the laws on memory) returns of a row of items behind which three marks stand. Conditions: as it says.
-/
import Derived.Test.YtldcaadbkcbdjaaBagT
namespace Go.Proofs.Ytldcaadbkcbdjaa
open Go.RowKit
open Go.Proofs
open WoolBag

theorem mkC_get (x : Itm) (k : Nat) (h : k < 3) : (mkC x 3)[k * 4]? = some (.int .i64 x.s) ∧ (mkC x 3)[k * 4 + 1]? = some (.int .i64 x.n) ∧ (mkC x 3)[k * 4 + 2]? = some (.string (bs x.t)) ∧ (mkC x 3)[k * 4 + 3]? = some (.int .i64 x.r) := by
  match k, h with
  | 0, _ => exact ⟨rfl, rfl, rfl, rfl⟩
  | 1, _ => exact ⟨rfl, rfl, rfl, rfl⟩
  | 2, _ => exact ⟨rfl, rfl, rfl, rfl⟩

def MarkRel (X : Nat) (x : Itm) (w : World) (i : Value) (wr : World) : Prop := ∃ k : Nat, k ≤ 3 ∧ i = .int .i64 k ∧ Up w wr ∧ RowI wr X (itC x)

set_option maxRecDepth 100000 in
set_option maxHeartbeats 1000000 in
theorem marked_any (g : Nat) (l : List Itm) (x : Itm) (w : World) (hr : RowI w g (itL l ++ mkC x 3)) (hl : l.length * 40 ≤ 140737488351232) :
    Calls Try.prog 23 #[.slice (some ⟨g, 0, none⟩) l.length (l.length + 3), itV x] w fun e w' => e = .returned (.bool true) ∧ Up w w' := by
  have HR := Lib.hid hr
  have HQ := Lib.hid (heap_alloc_new w (.cells #[.int .i64 x.s, .int .i64 x.n, .string (bs x.t), .int .i64 x.r] 34))
  have HST : Hid (MarkRel w.heap.size x w (.int .i64 0) (w.alloc (.cells #[.int .i64 x.s, .int .i64 x.n, .string (bs x.t), .int .i64 x.r] 34))) := ⟨0, by omega, rfl, Up.alloc _ _, HQ.out⟩
  obtain ⟨n, hn⟩ : ∃ n, l.length = n := ⟨_, rfl⟩
  have HIL : Hid ((itL l).length = n * 4) := by show _ = _; rw [itL_length, hn]
  rw [hn] at hl ⊢
  have p1 : ¬ n + 3 = n := by omega
  have p2 : n + 3 - n = 3 := by omega
  have p3 : n ≤ n + 3 := by omega
  unfold itV
  have hse := self_eq x.t
  generalize hxt : bs x.t = xt at hse ⊢
  have HXT := Lib.hid hxt
  clear hr hn hxt
  rw [HXT.out] at HST
  go_enter Try.func23, Try.ntmps23
  go_wp2_with fail
  go_loopw [14] (fun i wr => MarkRel w.heap.size x w i wr) (fun i _ => 3 - (intOf i).toNat)
  case atStart => exact HST.out
  case round =>
    obtain ⟨k, hk, rfl, hu, hx⟩ := hrel
    by_cases hlt : k < 3
    · have hrr := HR.out.up hu
      obtain ⟨m0, m1, m2, m3⟩ := mkC_get x k hlt
      have hcell : ∀ j v, (mkC x 3)[j]? = some v → wr.cell? ⟨g, n * 4 + j, none⟩ = some v := fun j v hv => hrr.cell (by rw [List.getElem?_append_right (by rw [HIL.out]; omega), HIL.out, Nat.add_sub_cancel_left]; exact hv)
      have c0 := hcell _ _ m0
      have c1 := hcell _ _ m1
      have c2 := hcell _ _ m2
      have c3 := hcell _ _ m3
      rw [← Nat.add_assoc] at c1 c2 c3
      have x0 : wr.cell? ⟨w.heap.size, 0, none⟩ = some (.int .i64 x.s) := hx.cell rfl
      have x1 : wr.cell? ⟨w.heap.size, 1, none⟩ = some (.int .i64 x.n) := hx.cell rfl
      have x2 : wr.cell? ⟨w.heap.size, 2, none⟩ = some (.string (bs x.t)) := hx.cell rfl
      have x3 : wr.cell? ⟨w.heap.size, 3, none⟩ = some (.int .i64 x.r) := hx.cell rfl
      rw [HXT.out] at c2 x2
      have hlt0 := RowI.lt hx
      have hne : w.heap.size ≠ wr.heap.size := by omega
      clear hlt0
      have HREL : Hid (MarkRel w.heap.size x w (.int .i64 ((k + 1 : Nat) : Int)) (wr.alloc (.cells #[.int .i64 x.s, .int .i64 x.n, .string xt, .int .i64 x.r] 34))) := ⟨k + 1, by omega, rfl, hu.trans (Up.alloc _ _), hx.up (Up.alloc _ _)⟩
      have d1 : decide ((k : Int) < 3) = true := by rw [decide_eq_true_iff]; omega
      have hlt2 : w.heap.size < wr.heap.size := RowI.lt hx
      clear hrr hcell m0 m1 m2 m3 hu hx
      go_wp2_with fail
      go_roundw
      case rel => exact HREL.out
      case measure => simp only [intOf]; omega
    · have hk3 : k = 3 := by omega
      subst hk3
      have d1 : decide ((3 : Int) < 3) = false := by decide
      have HU := Lib.hid hu
      clear hu hx
      go_wp2_with fail
      go_ret
      exact ⟨rfl, HU.out⟩

end Go.Proofs.Ytldcaadbkcbdjaa
