/-
  What fits (of the laws) returns: records put one by one. Condition: the row can be read.
-/
import Derived.Test.YtalbfhoffhhjmaaSegG
namespace Go.Proofs.Ytalbfhoffhhjmaa
open Go.RowKit
open Go.Proofs
open WoolBag
open WoolSeg

def FtRel (rs : List Rc) (w : World) (out i : Value) (wr : World) : Prop :=
  ∃ k : Nat, k ≤ rs.length ∧ i = .int .i64 (k : Int) ∧ OSgs wr w.heap.size out (fits (rs.take k)) ∧ Up w wr

set_option maxRecDepth 100000 in
set_option maxHeartbeats 2000000 in
theorem fits_any (v : Value) (rs : List Rc) (w : World) (h : Recs w v rs) : Calls Try.prog 8 #[v] w (SgPost w (fits rs)) := by
  have HX := Lib.hid h
  obtain ⟨o, c, rfl, h2, h3⟩ := h.slice
  unfold maxLen at h3
  obtain ⟨n, hn⟩ : ∃ n, rs.length = n := ⟨_, rfl⟩
  have HN := Lib.hid hn
  rw [hn] at h2 HX ⊢
  clear h hn
  go_enter Try.func8, Try.ntmps8
  go_wp2_with fail
  go_loopw [3, 10] (fun out i wr => FtRel rs w out i wr) (fun _ i _ => n - (intOf i).toNat)
  case atStart => exact ⟨0, Nat.zero_le _, rfl, OSgs.nil w _, Up.refl w⟩
  case round =>
    obtain ⟨k, hk, rfl, ho, hu⟩ := hrel
    rw [HN.out] at hk
    have HU := Lib.hid hu
    have HO := Lib.hid ho
    by_cases hlt : k < n
    · have hkr : k < rs.length := by rw [HN.out]; exact hlt
      obtain ⟨b, off, rfl, hat⟩ := HX.out.at (by rintro rfl; simp at hkr)
      obtain ⟨a0, a1, a2, a3⟩ := hat k hkr
      rw [← hu.cell (World.block_lt_of_cell? w _ a0)] at a0
      rw [← hu.cell (World.block_lt_of_cell? w _ a1)] at a1
      rw [← hu.cell (World.block_lt_of_cell? w _ a2)] at a2
      rw [← hu.cell (World.block_lt_of_cell? w _ a3)] at a3
      have hst := fits_take rs hkr
      obtain ⟨q, hq⟩ : ∃ q, rs[k] = q := ⟨_, rfl⟩
      obtain ⟨L, hL⟩ : ∃ L, fits (rs.take k) = L := ⟨_, rfl⟩
      rw [hq] at a0 a1 a2 a3 hst
      rw [hL] at ho hst
      have hright : Right L := hL ▸ fits_right _
      unfold fit at hst
      have HPU := Lib.hid (fun W (hW : Up wr W) => putS_any u3 L q W (ho.up hW).sgs (Right.small hright))
      obtain ⟨R, hR⟩ : ∃ R, WoolSeg.put L q = R := ⟨_, rfl⟩
      rw [hR] at hst HPU
      have HYES : Hid (∀ W wF nx, Up wr W → R.2 = 0 → OSgs wF W.heap.size nx R.1 → Up W wF → FtRel rs w nx (.int .i64 ((k + 1 : Nat) : Int)) wF) := fun W wF nx hW h0 hO hF =>
        ⟨k + 1, by omega, rfl, by rw [hst, if_pos h0]; exact hO.base (HU.out.trans hW).size, (HU.out.trans hW).trans hF⟩
      have HNO : Hid (∀ wF, Up wr wF → R.2 ≠ 0 → FtRel rs w u3 (.int .i64 ((k + 1 : Nat) : Int)) wF) := fun wF hF h0 =>
        ⟨k + 1, by omega, rfl, by rw [hst, if_neg h0]; exact ho.up hF, HU.out.trans hF⟩
      obtain ⟨oN, cN, hvN, _, _⟩ := ho.sgs.slice
      unfold rcA at HPU
      have d1 : decide (k < n) = true := decide_eq_true hlt
      obtain ⟨E, hE⟩ : ∃ E, R.2 = E := ⟨_, rfl⟩
      unfold PutSPost at HPU
      rw [hE] at HPU HYES HNO
      clear hat hst hL ho hu hq hright hR hE HO
      generalize L.length = lN at hvN
      subst hvN
      generalize q.1.1 = x0 at *
      generalize q.1.2.1 = x1 at *
      generalize q.1.2.2 = x2 at *
      generalize bs q.2 = x3 at *
      go_wp2_with fail
      refine (HPU.out _ (Up.alloc _ _)).mono ?_
      rintro e w8 ⟨v8, rfl, ho8, u8⟩
      have HU8 : Hid (Up wr w8) := (Up.alloc _ _).trans u8
      by_cases h0 : E = 0
      · subst h0
        have HY := Lib.hid (HYES.out _ _ _ (Up.alloc _ _) rfl ho8 u8)
        clear ho8 u8
        go_wp2_with fail
        go_roundw
        case rel => exact HY.out
        case measure => simp only [intOf]; omega
      · have HY := Lib.hid (HNO.out _ HU8.out h0)
        have d2 : (E == 0) = false := by rw [beq_eq_false_iff_ne]; exact h0
        clear ho8 u8
        go_wp2_with fail
        go_roundw
        case rel => exact HY.out
        case measure => simp only [intOf]; omega
    · have d1 : decide (k < n) = false := decide_eq_false hlt
      rw [List.take_of_length_le (by rw [HN.out]; omega)] at ho
      have HOE := Lib.hid ho
      clear ho hu HO
      go_wp2_with fail
      go_ret
      exact ⟨_, rfl, HOE.out, HU.out⟩

end Go.Proofs.Ytalbfhoffhhjmaa
