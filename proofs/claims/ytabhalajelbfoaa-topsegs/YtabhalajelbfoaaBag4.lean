/-
  What Check of package bag returns. Condition: the row can be read.
-/
import Derived.Test.YtabhalajelbfoaaBag3
namespace Go.Proofs.Ytabhalajelbfoaa
open Go.RowKit
open Go.Proofs
open WoolBag

/-! ytabhalajelbfoaa# Check -/

def BagRel (l : List Itm) (w : World) (i : Value) (wr : World) : Prop :=
  ∃ k : Nat, k ≤ l.length ∧ i = .int .i64 k ∧ Up w wr ∧ chkL FP [] l = chkL FP (l.take k) (l.drop k)

set_option maxRecDepth 100000 in
set_option maxHeartbeats 1000000 in
theorem check_any (v : Value) (l : List Itm) (w : World) (h : Items w v l) :
    Calls Try.prog 16 #[v] w fun e w' => e = .returned (.int .i64 (chk FP l)) ∧ Up w w' := by
  have HX := Lib.hid h
  obtain ⟨o, c, rfl, h2, h3, h4⟩ := h
  unfold maxLen at h3
  by_cases hbig : 64 < l.length
  · have hv : chk FP l = 2 := by unfold chk; rw [if_pos hbig]
    rw [hv]
    clear hv h4 HX
    go_enter Try.func16, Try.ntmps16
    go_wp2_with fail
    go_ret
    exact ⟨rfl, Up.refl _⟩
  have hv : chk FP l = chkL FP [] l := by unfold chk; rw [if_neg hbig]
  rw [hv]
  obtain ⟨E, hE⟩ : ∃ E, chkL FP [] l = E := ⟨_, rfl⟩
  rw [hE]
  have HE := Lib.hid hE
  have H4 := Lib.hid h4
  clear hv hE h4
  go_enter Try.func16, Try.ntmps16
  go_wp2_with fail
  go_loopw [11] (fun i wr => BagRel l w i wr) (fun i _ => l.length - (intOf i).toNat)
  case atStart => exact ⟨0, Nat.zero_le _, rfl, Up.refl w, rfl⟩
  case round =>
    obtain ⟨k, hk, rfl, hu, hck⟩ := hrel
    by_cases hlt : k < l.length
    · rcases H4.out with h5 | ⟨b, off, rfl, h5⟩
      · rw [h5] at hlt; simp at hlt
      · obtain ⟨a1, a2, a3, a4⟩ := h5 k hlt
        have k1 := World.block_lt_of_cell? w _ a1
        have hb1 : b < wr.heap.size := Nat.lt_of_lt_of_le k1 hu.size
        rw [← hu.cell (World.block_lt_of_cell? w _ a1)] at a1
        rw [← hu.cell (World.block_lt_of_cell? w _ a2)] at a2
        rw [← hu.cell (World.block_lt_of_cell? w _ a3)] at a3
        rw [← hu.cell (World.block_lt_of_cell? w _ a4)] at a4
        rw [List.drop_eq_getElem_cons hlt] at hck
        have hst : chkL FP (l.take k) (l[k] :: l.drop (k + 1)) = if errI FP (l.take k) l[k] = 0 then chkL FP (l.take (k + 1)) (l.drop (k + 1)) else errI FP (l.take k) l[k] := by
          rw [chkL, List.take_succ_eq_append_getElem hlt]
        rw [hst] at hck
        have hci : ∀ W, Up w W → Calls Try.prog 38 #[.slice (some ⟨b, off, none⟩) k c, .agg #[.int .i64 l[k].s, .int .i64 l[k].n, .string (bs l[k].t), .int .i64 l[k].r]] W fun e w' => e = .returned (.int .i64 (errI FP (l.take k) l[k])) ∧ Up W w' := fun W hW =>
          checkItem_any _ _ l[k] W ((HX.out.up hW).front k hk) (by rw [List.length_take]; omega)
        have HCI := Lib.hid hci
        clear hci hst h5 k1
        obtain ⟨R, hR⟩ : ∃ R, errI FP (l.take k) l[k] = R := ⟨_, rfl⟩
        rw [hR] at hck HCI
        have hrr := errI_range FP (l.take k) l[k]
        rw [hR] at hrr
        generalize l[k].s = xs at a1 HCI
        generalize l[k].n = xn at a2 HCI
        generalize bs l[k].t = xt at a3 HCI
        generalize l[k].r = xr at a4 HCI
        have HCK := Lib.hid hck
        have HU := Lib.hid hu
        have d1 : decide (k < l.length) = true := decide_eq_true hlt
        have hkc : k ≤ c := by omega
        clear hu hck hR
        go_wp2_with fail
        have q0 := World.cell?_alloc_new wr #[.int .i64 xs, .int .i64 xn, .string xt, .int .i64 xr] 43 0
        have q1 := World.cell?_alloc_new wr #[.int .i64 xs, .int .i64 xn, .string xt, .int .i64 xr] 43 1
        have q2 := World.cell?_alloc_new wr #[.int .i64 xs, .int .i64 xn, .string xt, .int .i64 xr] 43 2
        have q3 := World.cell?_alloc_new wr #[.int .i64 xs, .int .i64 xn, .string xt, .int .i64 xr] 43 3
        have q4 : wr.heap.size < (wr.alloc (.cells #[.int .i64 xs, .int .i64 xn, .string xt, .int .i64 xr] 43)).heap.size := by simp
        go_region_held3 (fun U => U.cell? ⟨wr.heap.size, 0, none⟩ = some (.int .i64 xs) ∧ U.cell? ⟨wr.heap.size, 1, none⟩ = some (.int .i64 xn) ∧ U.cell? ⟨wr.heap.size, 2, none⟩ = some (.string xt) ∧ U.cell? ⟨wr.heap.size, 3, none⟩ = some (.int .i64 xr)) (go_keep)
          ((go_at_call 38; ((with_reducible refine (HCI.out _ (HU.out.trans ((Up.alloc _ _).trans (Up.drew _)))).mono ?_); rintro e w4 ⟨rfl, u4⟩; have f0 := (Below.cell u4 (p := ⟨wr.heap.size, 0, none⟩) q4).trans q0; have f1 := (Below.cell u4 (p := ⟨wr.heap.size, 1, none⟩) q4).trans q1; have f2 := (Below.cell u4 (p := ⟨wr.heap.size, 2, none⟩) q4).trans q2; have f3 := (Below.cell u4 (p := ⟨wr.heap.size, 3, none⟩) q4).trans q3)))
        all_goals
          have HU4 : Hid (Up w w4) := HU.out.trans ((Up.alloc _ _).trans ((Up.drew _).trans u4))
          have hck := HCK.out
          clear f0 f1 f2 f3 q0 q1 q2 q3 q4 u4 HCK
          by_cases h0 : R = 0
          · subst h0
            rw [if_pos rfl] at hck
            have HCK := Lib.hid hck
            clear hck hrr
            go_wp2_with fail
            go_roundw
            case rel => exact ⟨k + 1, by omega, by go_num, HU4.out, HCK.out⟩
            case measure => simp only [intOf]; omega
          · rw [if_neg h0] at hck
            have hne : (R != 0) = true := by rw [bne_iff_ne]; exact h0
            have HER := Lib.hid (HE.out.symm.trans hck)
            clear hck hrr h0
            go_wp2_with fail
            go_ret
            exact ⟨by rw [HER.out]; rfl, HU4.out⟩
    · have d1 : decide (k < l.length) = false := decide_eq_false hlt
      rw [List.drop_of_length_le (by omega)] at hck
      have HER : Hid (E = 0) := HE.out.symm.trans hck
      clear hck
      go_wp2_with fail
      go_ret
      exact ⟨by rw [HER.out]; rfl, hu⟩

end Go.Proofs.Ytabhalajelbfoaa
