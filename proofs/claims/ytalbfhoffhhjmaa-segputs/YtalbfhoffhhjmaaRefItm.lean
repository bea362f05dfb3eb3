/-
  What the reference's Item returns: where an identifier's item stands. Condition: the row can be read.
-/
import Derived.Test.YtalbfhoffhhjmaaBag2
namespace Go.Proofs.Ytalbfhoffhhjmaa
open Go.RowKit
open Go.Proofs
open WoolBag

def ItmRelS (id : Bool × Int × Int) (l : List Itm) (w : World) (i : Value) (wr : World) : Prop :=
  ∃ k : Nat, k ≤ l.length ∧ i = .int .i64 k ∧ Up w wr ∧ BoxI wr w.heap.size 28 (.bool id.1) (.int .i64 id.2.1) (.int .i64 id.2.2) ∧ ∀ j (h : j < l.length), j < k → idB id l[j] = false

set_option maxRecDepth 100000 in
set_option maxHeartbeats 1000000 in
theorem refItemS_any (v : Value) (l : List Itm) (ib : Bool) (is iN : Int) (w : World) (h : Items w v l) :
    Calls Try.prog 56 #[v, .agg #[.bool ib, .int .i64 is, .int .i64 iN]] w fun e w' => e = .returned (.int .i64 (ixI (idB (ib, is, iN)) l)) ∧ Up w w' := by
  obtain ⟨o, c, rfl, h2, h3, h4⟩ := h
  unfold maxLen at h3
  have H4 := Lib.hid h4
  obtain ⟨R, hR⟩ : ∃ R, ixI (idB (ib, is, iN)) l = R := ⟨_, rfl⟩
  rw [hR]
  unfold ixI at hR
  have HR := Lib.hid hR
  have HST : Hid (ItmRelS (ib, is, iN) l w (.int .i64 0) (w.alloc (.cells #[.bool ib, .int .i64 is, .int .i64 iN] 28))) := ⟨0, Nat.zero_le _, rfl, Up.alloc _ _, BoxI.new w _ _ _ _, fun j _ hj => by omega⟩
  clear h4 hR
  go_enter Try.func56, Try.ntmps56
  go_wp2_with fail
  go_loopw [5, 9] (fun _ i wr => ItmRelS (ib, is, iN) l w i wr) (fun _ i _ => l.length - (intOf i).toNat)
  case atStart => exact HST.out
  case round =>
    obtain ⟨k, hk, rfl, hu, hbx, hno⟩ := hrel
    have HN := Lib.hid hno
    clear hno
    by_cases hlt : k < l.length
    · rcases H4.out with h5 | ⟨b, off, rfl, h5⟩
      · rw [h5] at hlt; simp at hlt
      · obtain ⟨a1, a2, a3, a4⟩ := h5 k hlt
        rw [← hu.cell (World.block_lt_of_cell? w _ a1)] at a1
        rw [← hu.cell (World.block_lt_of_cell? w _ a2)] at a2
        rw [← hu.cell (World.block_lt_of_cell? w _ a3)] at a3
        rw [← hu.cell (World.block_lt_of_cell? w _ a4)] at a4
        obtain ⟨P, hP⟩ : ∃ P, idB (ib, is, iN) l[k] = P := ⟨_, rfl⟩
        have HPP := Lib.hid hP
        have hq : idB (ib, is, iN) l[k] = (ib && (l[k].s == is) && (l[k].n == iN)) := rfl
        rw [hq] at hP
        obtain ⟨x0, x1, x2⟩ := hbx.cells
        have hltb := hbx.lt
        have hneb : w.heap.size ≠ wr.heap.size := by omega
        generalize l[k].s = xs at a1 hP
        generalize l[k].n = xn at a2 hP
        generalize bs l[k].t = xt at a3
        generalize l[k].r = xr at a4
        have HU : Hid (Up w (wr.alloc (.cells #[.int .i64 xs, .int .i64 xn, .string xt, .int .i64 xr] 26))) := hu.trans (Up.alloc _ _)
        have HB := Lib.hid (hbx.up (Up.alloc wr (.cells #[.int .i64 xs, .int .i64 xn, .string xt, .int .i64 xr] 26)))
        have d1 : decide (k < l.length) = true := decide_eq_true hlt
        clear h5 hu hbx hq
        cases P with
        | true =>
          simp only [Bool.and_eq_true, beq_iff_eq] at hP
          obtain ⟨⟨rfl, rfl⟩, rfl⟩ := hP
          have HV : Hid (R = (k : Int)) := by
            show R = _
            rw [← HR.out, idx_of hlt HPP.out (fun j hj => HN.out j (by omega) hj)]
          go_wp2_with fail
          go_ret
          exact ⟨by rw [HV.out]; rfl, HU.out⟩
        | false =>
          have HREL : Hid (ItmRelS (ib, is, iN) l w (.int .i64 ((k + 1 : Nat) : Int)) (wr.alloc (.cells #[.int .i64 xs, .int .i64 xn, .string xt, .int .i64 xr] 26))) := by
            refine ⟨k + 1, by omega, rfl, HU.out, HB.out, fun j hj hjk => ?_⟩
            by_cases e : j = k
            · subst e; exact HPP.out
            · exact HN.out j hj (by omega)
          cases ib with
          | false =>
            clear hP
            go_wp2_with fail
            go_roundw
            case rel => exact HREL.out
            case measure => simp only [intOf]; omega
          | true =>
            by_cases e1 : is = xs
            · subst e1
              have e2 : (iN == xn) = false := by simp at hP ⊢; exact fun h => hP h.symm
              clear hP
              go_wp2_with fail
              go_roundw
              case rel => exact HREL.out
              case measure => simp only [intOf]; omega
            · have e2 : (is == xs) = false := by simpa using e1
              clear hP e1
              go_wp2_with fail
              go_roundw
              case rel => exact HREL.out
              case measure => simp only [intOf]; omega
    · have d1 : decide (k < l.length) = false := decide_eq_false hlt
      have HV : Hid (R = -1) := by
        show R = -1
        rw [← HR.out, idx_none.2 (fun x hx => by obtain ⟨i, hi, rfl⟩ := List.getElem_of_mem hx; exact HN.out i hi (by omega))]
      have HU := Lib.hid hu
      clear hu hbx
      go_wp2_with fail
      go_ret
      exact ⟨by rw [HV.out]; rfl, HU.out⟩

end Go.Proofs.Ytalbfhoffhhjmaa
