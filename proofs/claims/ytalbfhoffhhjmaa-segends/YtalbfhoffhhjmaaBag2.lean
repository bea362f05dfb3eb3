/-
  What hasId, hasText, isBehind (makers of predicates), fingerprint, checkItem and Check of package bag return. Conditions: as each says.
-/
import Derived.Test.YtalbfhoffhhjmaaBag1
namespace Go.Proofs.Ytalbfhoffhhjmaa
open Go.RowKit
open Go.Proofs
open WoolBag

theorem hmf : ∀ (fn : Fn) (first cap : Array Value) (w : World), (Instr.makeFunc fn first cap).run Try.prog w = .ok (.func fn first cap) w := fun _ _ _ _ => rfl

set_option maxRecDepth 100000 in
theorem hasId_in (i : Bool × Int × Int) (B : Nat) (x : Itm) (W : World) (hB : B < W.heap.size) (h0 : W.cell? ⟨B, 0, none⟩ = some (.bool i.1)) (h1 : W.cell? ⟨B, 1, none⟩ = some (.int .i64 i.2.1)) (h2 : W.cell? ⟨B, 2, none⟩ = some (.int .i64 i.2.2)) :
    Calls Try.prog 83 #[itV x, .pointer (some ⟨B, 0, none⟩)] W fun e w' => e = .returned (.bool (idB i x)) ∧ Up W w' := by
  obtain ⟨b, σ, ν⟩ := i
  simp only at h0 h1 h2
  have hid := identifier_any x
  have hv : idV (idOf x) = .agg #[.bool true, .int .i64 x.s, .int .i64 x.n] := rfl
  have hq : idB (b, σ, ν) x = (b && (x.s == σ) && (x.n == ν)) := rfl
  rw [hq]
  unfold itV at hid ⊢
  simp only [hv] at hid
  generalize x.s = xs at *
  generalize x.n = xn at *
  generalize bs x.t = xt at *
  generalize x.r = xr at *
  have hne : B ≠ W.heap.size := by omega
  clear hv hq
  have q0 := World.cell?_alloc_new W #[.int .i64 xs, .int .i64 xn, .string xt, .int .i64 xr] 26 0
  have q1 := World.cell?_alloc_new W #[.int .i64 xs, .int .i64 xn, .string xt, .int .i64 xr] 26 1
  have q2 := World.cell?_alloc_new W #[.int .i64 xs, .int .i64 xn, .string xt, .int .i64 xr] 26 2
  have q3 := World.cell?_alloc_new W #[.int .i64 xs, .int .i64 xn, .string xt, .int .i64 xr] 26 3
  have q4 : W.heap.size < (W.alloc (.cells #[.int .i64 xs, .int .i64 xn, .string xt, .int .i64 xr] 26)).heap.size := by simp
  have r0 := (Below.cell (Up.alloc W (.cells #[.int .i64 xs, .int .i64 xn, .string xt, .int .i64 xr] 26)) (p := ⟨B, 0, none⟩) hB).trans h0
  have r1 := (Below.cell (Up.alloc W (.cells #[.int .i64 xs, .int .i64 xn, .string xt, .int .i64 xr] 26)) (p := ⟨B, 1, none⟩) hB).trans h1
  have r2 := (Below.cell (Up.alloc W (.cells #[.int .i64 xs, .int .i64 xn, .string xt, .int .i64 xr] 26)) (p := ⟨B, 2, none⟩) hB).trans h2
  clear h0 h1 h2
  have HID := Lib.hid hid
  clear hid
  cases b with
  | false =>
    go_enter Try.func83, Try.ntmps83
    go_wp2_with fail
    go_region_held3 (fun U => (U.cell? ⟨W.heap.size, 0, none⟩ = some (.int .i64 xs) ∧ U.cell? ⟨W.heap.size, 1, none⟩ = some (.int .i64 xn) ∧ U.cell? ⟨W.heap.size, 2, none⟩ = some (.string xt) ∧ U.cell? ⟨W.heap.size, 3, none⟩ = some (.int .i64 xr)) ∧ U.cell? ⟨B, 0, none⟩ = some (.bool false) ∧ U.cell? ⟨B, 1, none⟩ = some (.int .i64 σ) ∧ U.cell? ⟨B, 2, none⟩ = some (.int .i64 ν)) (go_keep)
      ((go_at_call 64; ((with_reducible refine (HID.out _).mono ?_); rintro e w4 ⟨rfl, u4⟩; have f0 := (Below.cell u4 (p := ⟨W.heap.size, 0, none⟩) q4).trans q0; have f1 := (Below.cell u4 (p := ⟨W.heap.size, 1, none⟩) q4).trans q1; have f2 := (Below.cell u4 (p := ⟨W.heap.size, 2, none⟩) q4).trans q2; have f3 := (Below.cell u4 (p := ⟨W.heap.size, 3, none⟩) q4).trans q3; have g0 := (Below.cell u4 (p := ⟨B, 0, none⟩) (Nat.lt_trans hB q4)).trans r0; have g1 := (Below.cell u4 (p := ⟨B, 1, none⟩) (Nat.lt_trans hB q4)).trans r1; have g2 := (Below.cell u4 (p := ⟨B, 2, none⟩) (Nat.lt_trans hB q4)).trans r2)))
    all_goals
      go_wp2_with fail
      go_ret
      exact ⟨by simp, (Up.alloc _ _).trans ((Up.drew _).trans u4)⟩
  | true =>
    cases d1 : (xs == σ) with
    | false =>
      go_enter Try.func83, Try.ntmps83
      go_wp2_with fail
      go_region_held3 (fun U => (U.cell? ⟨W.heap.size, 0, none⟩ = some (.int .i64 xs) ∧ U.cell? ⟨W.heap.size, 1, none⟩ = some (.int .i64 xn) ∧ U.cell? ⟨W.heap.size, 2, none⟩ = some (.string xt) ∧ U.cell? ⟨W.heap.size, 3, none⟩ = some (.int .i64 xr)) ∧ U.cell? ⟨B, 0, none⟩ = some (.bool true) ∧ U.cell? ⟨B, 1, none⟩ = some (.int .i64 σ) ∧ U.cell? ⟨B, 2, none⟩ = some (.int .i64 ν)) (go_keep)
        ((go_at_call 64; ((with_reducible refine (HID.out _).mono ?_); rintro e w4 ⟨rfl, u4⟩; have f0 := (Below.cell u4 (p := ⟨W.heap.size, 0, none⟩) q4).trans q0; have f1 := (Below.cell u4 (p := ⟨W.heap.size, 1, none⟩) q4).trans q1; have f2 := (Below.cell u4 (p := ⟨W.heap.size, 2, none⟩) q4).trans q2; have f3 := (Below.cell u4 (p := ⟨W.heap.size, 3, none⟩) q4).trans q3; have g0 := (Below.cell u4 (p := ⟨B, 0, none⟩) (Nat.lt_trans hB q4)).trans r0; have g1 := (Below.cell u4 (p := ⟨B, 1, none⟩) (Nat.lt_trans hB q4)).trans r1; have g2 := (Below.cell u4 (p := ⟨B, 2, none⟩) (Nat.lt_trans hB q4)).trans r2)))
      all_goals
        go_wp2_with fail
        go_ret
        exact ⟨by simp, (Up.alloc _ _).trans ((Up.drew _).trans u4)⟩
    | true =>
      cases d2 : (xn == ν) with
      | false =>
        go_enter Try.func83, Try.ntmps83
        go_wp2_with fail
        go_region_held3 (fun U => (U.cell? ⟨W.heap.size, 0, none⟩ = some (.int .i64 xs) ∧ U.cell? ⟨W.heap.size, 1, none⟩ = some (.int .i64 xn) ∧ U.cell? ⟨W.heap.size, 2, none⟩ = some (.string xt) ∧ U.cell? ⟨W.heap.size, 3, none⟩ = some (.int .i64 xr)) ∧ U.cell? ⟨B, 0, none⟩ = some (.bool true) ∧ U.cell? ⟨B, 1, none⟩ = some (.int .i64 σ) ∧ U.cell? ⟨B, 2, none⟩ = some (.int .i64 ν)) (go_keep)
          ((go_at_call 64; ((with_reducible refine (HID.out _).mono ?_); rintro e w4 ⟨rfl, u4⟩; have f0 := (Below.cell u4 (p := ⟨W.heap.size, 0, none⟩) q4).trans q0; have f1 := (Below.cell u4 (p := ⟨W.heap.size, 1, none⟩) q4).trans q1; have f2 := (Below.cell u4 (p := ⟨W.heap.size, 2, none⟩) q4).trans q2; have f3 := (Below.cell u4 (p := ⟨W.heap.size, 3, none⟩) q4).trans q3; have g0 := (Below.cell u4 (p := ⟨B, 0, none⟩) (Nat.lt_trans hB q4)).trans r0; have g1 := (Below.cell u4 (p := ⟨B, 1, none⟩) (Nat.lt_trans hB q4)).trans r1; have g2 := (Below.cell u4 (p := ⟨B, 2, none⟩) (Nat.lt_trans hB q4)).trans r2)))
        all_goals
          go_wp2_with fail
          go_ret
          exact ⟨by simp, (Up.alloc _ _).trans ((Up.drew _).trans u4)⟩
      | true =>
        go_enter Try.func83, Try.ntmps83
        go_wp2_with fail
        go_region_held3 (fun U => (U.cell? ⟨W.heap.size, 0, none⟩ = some (.int .i64 xs) ∧ U.cell? ⟨W.heap.size, 1, none⟩ = some (.int .i64 xn) ∧ U.cell? ⟨W.heap.size, 2, none⟩ = some (.string xt) ∧ U.cell? ⟨W.heap.size, 3, none⟩ = some (.int .i64 xr)) ∧ U.cell? ⟨B, 0, none⟩ = some (.bool true) ∧ U.cell? ⟨B, 1, none⟩ = some (.int .i64 σ) ∧ U.cell? ⟨B, 2, none⟩ = some (.int .i64 ν)) (go_keep)
          ((go_at_call 64; ((with_reducible refine (HID.out _).mono ?_); rintro e w4 ⟨rfl, u4⟩; have f0 := (Below.cell u4 (p := ⟨W.heap.size, 0, none⟩) q4).trans q0; have f1 := (Below.cell u4 (p := ⟨W.heap.size, 1, none⟩) q4).trans q1; have f2 := (Below.cell u4 (p := ⟨W.heap.size, 2, none⟩) q4).trans q2; have f3 := (Below.cell u4 (p := ⟨W.heap.size, 3, none⟩) q4).trans q3; have g0 := (Below.cell u4 (p := ⟨B, 0, none⟩) (Nat.lt_trans hB q4)).trans r0; have g1 := (Below.cell u4 (p := ⟨B, 1, none⟩) (Nat.lt_trans hB q4)).trans r1; have g2 := (Below.cell u4 (p := ⟨B, 2, none⟩) (Nat.lt_trans hB q4)).trans r2)))
        all_goals
          go_wp2_with fail
          go_ret
          exact ⟨by simp, (Up.alloc _ _).trans ((Up.drew _).trans u4)⟩

/-- what a maker of predicates leaves -/
def MakePost (w : World) (g : Nat) (p : Itm → Bool) (e : Ending) (w' : World) : Prop := ∃ lb, e = .returned (.func (.func g) #[] lb) ∧ Up w w' ∧ Pred w' g lb p

theorem hasText_make (t : List UInt8) (w : World) : Calls Try.prog 48 #[.string (bs t)] w (MakePost w 62 (txtB t)) := by
  have h := hmf
  go_enter Try.func48, Try.ntmps48
  go_wp2_with fail
  go_ret
  refine ⟨_, rfl, Up.alloc _ _, fun W hu x => ?_⟩
  have q0 := World.cell?_alloc_new w #[.string (bs t)] 9 0
  have hB : w.heap.size < (w.alloc (.cells #[.string (bs t)] 9)).heap.size := by simp
  exact hasText_in t w.heap.size x W (Nat.lt_of_lt_of_le hB hu.size) ((hu.cell (p := ⟨w.heap.size, 0, none⟩) hB).trans q0)

theorem isBehind_make (a : Itm) (w : World) : Calls Try.prog 60 #[itV a] w (MakePost w 81 (behB a)) := by
  have h := hmf
  unfold itV
  go_enter Try.func60, Try.ntmps60
  go_wp2_with fail
  go_ret
  refine ⟨_, rfl, Up.alloc _ _, fun W hu x => ?_⟩
  have q0 := World.cell?_alloc_new w #[.int .i64 a.s, .int .i64 a.n, .string (bs a.t), .int .i64 a.r] 26 0
  have q1 := World.cell?_alloc_new w #[.int .i64 a.s, .int .i64 a.n, .string (bs a.t), .int .i64 a.r] 26 1
  have hB : w.heap.size < (w.alloc (.cells #[.int .i64 a.s, .int .i64 a.n, .string (bs a.t), .int .i64 a.r] 26)).heap.size := by simp
  exact isBehind_in a x w.heap.size W (Nat.lt_of_lt_of_le hB hu.size) ((hu.cell (p := ⟨w.heap.size, 0, none⟩) hB).trans q0) ((hu.cell (p := ⟨w.heap.size, 1, none⟩) hB).trans q1)

theorem hasId_make (i : Bool × Int × Int) (w : World) : Calls Try.prog 65 #[idV i] w (MakePost w 83 (idB i)) := by
  have h := hmf
  unfold idV
  go_enter Try.func65, Try.ntmps65
  go_wp2_with fail
  go_ret
  refine ⟨_, rfl, Up.alloc _ _, fun W hu x => ?_⟩
  have q0 := World.cell?_alloc_new w #[.bool i.1, .int .i64 i.2.1, .int .i64 i.2.2] 28 0
  have q1 := World.cell?_alloc_new w #[.bool i.1, .int .i64 i.2.1, .int .i64 i.2.2] 28 1
  have q2 := World.cell?_alloc_new w #[.bool i.1, .int .i64 i.2.1, .int .i64 i.2.2] 28 2
  have hB : w.heap.size < (w.alloc (.cells #[.bool i.1, .int .i64 i.2.1, .int .i64 i.2.2] 28)).heap.size := by simp
  exact hasId_in i w.heap.size x W (Nat.lt_of_lt_of_le hB hu.size) ((hu.cell (p := ⟨w.heap.size, 0, none⟩) hB).trans q0) ((hu.cell (p := ⟨w.heap.size, 1, none⟩) hB).trans q1) ((hu.cell (p := ⟨w.heap.size, 2, none⟩) hB).trans q2)

theorem eg_text : ∀ args w, (callFunc 62 args).run Try.prog w = .ok (.enter 62 args) w := enters_of Try.func62 (by kernel_rfl) rfl

theorem eg_beh : ∀ args w, (callFunc 81 args).run Try.prog w = .ok (.enter 81 args) w := enters_of Try.func81 (by kernel_rfl) rfl

theorem eg_id : ∀ args w, (callFunc 83 args).run Try.prog w = .ok (.enter 83 args) w := enters_of Try.func83 (by kernel_rfl) rfl

/-- the fingerprint of a block -/
def FP (t : List UInt8) : Int := ((fp 65581 t : Nat) : Int)

theorem fingerprint_any (t : List UInt8) (w : World) (hl : t.length ≤ 64) :
    Calls Try.prog 59 #[.string (bs t)] w fun e w' => e = .returned (.int .i64 (FP t)) ∧ Up w w' := by
  have h := of_ok 65581 (bs t) w (by omega) (by omega) (by rw [bs_size]; omega)
  rw [bs_list] at h
  unfold FP
  generalize fp 65581 t = N at h ⊢
  go_enter Try.func59, Try.ntmps59
  go_wp2_with fail
  refine h.mono ?_
  rintro e w1 ⟨rfl, u1⟩
  go_wp2_with fail
  go_ret
  exact ⟨rfl, u1⟩

end Go.Proofs.Ytalbfhoffhhjmaa
