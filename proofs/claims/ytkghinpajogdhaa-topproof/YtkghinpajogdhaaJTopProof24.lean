/-
  The texts Bag2, VolA, one behind the other; each says below what it holds and on what conditions.
-/
import Derived.Test.YtkghinpajogdhaaJTopProof23
import Derived.Test.YtkghinpajogdhaaJTopProof22
import Derived.Test.YtkghinpajogdhaaJTopProof20
import Derived.BigRegion

/-
  What hasId, hasText, isBehind (makers of predicates), fingerprint, checkItem and Check of package bag return. Conditions: as each says.
-/
namespace Go.Proofs.Ytkghinpajogdhaa
open Go.RowKit
open Go.Proofs
open WoolBag

theorem hmf : ∀ (fn : Fn) (first cap : Array Value) (w : World), (Instr.makeFunc fn first cap).run Try.prog w = .ok (.func fn first cap) w := fun _ _ _ _ => rfl

set_option maxRecDepth 100000 in
theorem hasId_in (i : Bool × Int × Int) (B : Nat) (x : Itm) (W : World) (hB : B < W.heap.size) (h0 : W.cell? ⟨B, 0, none⟩ = some (.bool i.1)) (h1 : W.cell? ⟨B, 1, none⟩ = some (.int .i64 i.2.1)) (h2 : W.cell? ⟨B, 2, none⟩ = some (.int .i64 i.2.2)) :
    Calls Try.prog 91 #[itV x, .pointer (some ⟨B, 0, none⟩)] W fun e w' => e = .returned (.bool (idB i x)) ∧ Up W w' := by
  obtain ⟨b, σ, ν⟩ := i
  simp only at h0 h1 h2
  have hid := identifier_any x
  have hv : idV (idOf x) = .agg #[.bool true, .int .i64 x.s, .int .i64 x.n] := rfl
  have hq : idB (b, σ, ν) x = (b && (x.s == σ) && (x.n == ν)) := rfl
  rw [hq]
  unfold itV at hid ⊢
  simp only [hv] at hid
  generalize x.s = xs at *
  generalize x.n = xn at *
  generalize bs x.t = xt at *
  generalize x.r = xr at *
  have hne : B ≠ W.heap.size := by omega
  clear hv hq
  have q0 := World.cell?_alloc_new W #[.int .i64 xs, .int .i64 xn, .string xt, .int .i64 xr] 92 0
  have q1 := World.cell?_alloc_new W #[.int .i64 xs, .int .i64 xn, .string xt, .int .i64 xr] 92 1
  have q2 := World.cell?_alloc_new W #[.int .i64 xs, .int .i64 xn, .string xt, .int .i64 xr] 92 2
  have q3 := World.cell?_alloc_new W #[.int .i64 xs, .int .i64 xn, .string xt, .int .i64 xr] 92 3
  have q4 : W.heap.size < (W.alloc (.cells #[.int .i64 xs, .int .i64 xn, .string xt, .int .i64 xr] 92)).heap.size := by simp
  have r0 := (Below.cell (Up.alloc W (.cells #[.int .i64 xs, .int .i64 xn, .string xt, .int .i64 xr] 92)) (p := ⟨B, 0, none⟩) hB).trans h0
  have r1 := (Below.cell (Up.alloc W (.cells #[.int .i64 xs, .int .i64 xn, .string xt, .int .i64 xr] 92)) (p := ⟨B, 1, none⟩) hB).trans h1
  have r2 := (Below.cell (Up.alloc W (.cells #[.int .i64 xs, .int .i64 xn, .string xt, .int .i64 xr] 92)) (p := ⟨B, 2, none⟩) hB).trans h2
  clear h0 h1 h2
  have HID := Lib.hid hid
  clear hid
  cases b with
  | false =>
    go_enter Try.func91, Try.ntmps91
    go_wp2_with fail
    go_region_held3 (fun U => (U.cell? ⟨W.heap.size, 0, none⟩ = some (.int .i64 xs) ∧ U.cell? ⟨W.heap.size, 1, none⟩ = some (.int .i64 xn) ∧ U.cell? ⟨W.heap.size, 2, none⟩ = some (.string xt) ∧ U.cell? ⟨W.heap.size, 3, none⟩ = some (.int .i64 xr)) ∧ U.cell? ⟨B, 0, none⟩ = some (.bool false) ∧ U.cell? ⟨B, 1, none⟩ = some (.int .i64 σ) ∧ U.cell? ⟨B, 2, none⟩ = some (.int .i64 ν)) (go_keep)
      ((go_at_call 72; ((with_reducible refine (HID.out _).mono ?_); rintro e w4 ⟨rfl, u4⟩; have f0 := (Below.cell u4 (p := ⟨W.heap.size, 0, none⟩) q4).trans q0; have f1 := (Below.cell u4 (p := ⟨W.heap.size, 1, none⟩) q4).trans q1; have f2 := (Below.cell u4 (p := ⟨W.heap.size, 2, none⟩) q4).trans q2; have f3 := (Below.cell u4 (p := ⟨W.heap.size, 3, none⟩) q4).trans q3; have g0 := (Below.cell u4 (p := ⟨B, 0, none⟩) (Nat.lt_trans hB q4)).trans r0; have g1 := (Below.cell u4 (p := ⟨B, 1, none⟩) (Nat.lt_trans hB q4)).trans r1; have g2 := (Below.cell u4 (p := ⟨B, 2, none⟩) (Nat.lt_trans hB q4)).trans r2)))
    all_goals
      go_wp2_with fail
      go_ret
      exact ⟨by simp, (Up.alloc _ _).trans ((Up.drew _).trans u4)⟩
  | true =>
    cases d1 : (xs == σ) with
    | false =>
      go_enter Try.func91, Try.ntmps91
      go_wp2_with fail
      go_region_held3 (fun U => (U.cell? ⟨W.heap.size, 0, none⟩ = some (.int .i64 xs) ∧ U.cell? ⟨W.heap.size, 1, none⟩ = some (.int .i64 xn) ∧ U.cell? ⟨W.heap.size, 2, none⟩ = some (.string xt) ∧ U.cell? ⟨W.heap.size, 3, none⟩ = some (.int .i64 xr)) ∧ U.cell? ⟨B, 0, none⟩ = some (.bool true) ∧ U.cell? ⟨B, 1, none⟩ = some (.int .i64 σ) ∧ U.cell? ⟨B, 2, none⟩ = some (.int .i64 ν)) (go_keep)
        ((go_at_call 72; ((with_reducible refine (HID.out _).mono ?_); rintro e w4 ⟨rfl, u4⟩; have f0 := (Below.cell u4 (p := ⟨W.heap.size, 0, none⟩) q4).trans q0; have f1 := (Below.cell u4 (p := ⟨W.heap.size, 1, none⟩) q4).trans q1; have f2 := (Below.cell u4 (p := ⟨W.heap.size, 2, none⟩) q4).trans q2; have f3 := (Below.cell u4 (p := ⟨W.heap.size, 3, none⟩) q4).trans q3; have g0 := (Below.cell u4 (p := ⟨B, 0, none⟩) (Nat.lt_trans hB q4)).trans r0; have g1 := (Below.cell u4 (p := ⟨B, 1, none⟩) (Nat.lt_trans hB q4)).trans r1; have g2 := (Below.cell u4 (p := ⟨B, 2, none⟩) (Nat.lt_trans hB q4)).trans r2)))
      all_goals
        go_wp2_with fail
        go_ret
        exact ⟨by simp, (Up.alloc _ _).trans ((Up.drew _).trans u4)⟩
    | true =>
      cases d2 : (xn == ν) with
      | false =>
        go_enter Try.func91, Try.ntmps91
        go_wp2_with fail
        go_region_held3 (fun U => (U.cell? ⟨W.heap.size, 0, none⟩ = some (.int .i64 xs) ∧ U.cell? ⟨W.heap.size, 1, none⟩ = some (.int .i64 xn) ∧ U.cell? ⟨W.heap.size, 2, none⟩ = some (.string xt) ∧ U.cell? ⟨W.heap.size, 3, none⟩ = some (.int .i64 xr)) ∧ U.cell? ⟨B, 0, none⟩ = some (.bool true) ∧ U.cell? ⟨B, 1, none⟩ = some (.int .i64 σ) ∧ U.cell? ⟨B, 2, none⟩ = some (.int .i64 ν)) (go_keep)
          ((go_at_call 72; ((with_reducible refine (HID.out _).mono ?_); rintro e w4 ⟨rfl, u4⟩; have f0 := (Below.cell u4 (p := ⟨W.heap.size, 0, none⟩) q4).trans q0; have f1 := (Below.cell u4 (p := ⟨W.heap.size, 1, none⟩) q4).trans q1; have f2 := (Below.cell u4 (p := ⟨W.heap.size, 2, none⟩) q4).trans q2; have f3 := (Below.cell u4 (p := ⟨W.heap.size, 3, none⟩) q4).trans q3; have g0 := (Below.cell u4 (p := ⟨B, 0, none⟩) (Nat.lt_trans hB q4)).trans r0; have g1 := (Below.cell u4 (p := ⟨B, 1, none⟩) (Nat.lt_trans hB q4)).trans r1; have g2 := (Below.cell u4 (p := ⟨B, 2, none⟩) (Nat.lt_trans hB q4)).trans r2)))
        all_goals
          go_wp2_with fail
          go_ret
          exact ⟨by simp, (Up.alloc _ _).trans ((Up.drew _).trans u4)⟩
      | true =>
        go_enter Try.func91, Try.ntmps91
        go_wp2_with fail
        go_region_held3 (fun U => (U.cell? ⟨W.heap.size, 0, none⟩ = some (.int .i64 xs) ∧ U.cell? ⟨W.heap.size, 1, none⟩ = some (.int .i64 xn) ∧ U.cell? ⟨W.heap.size, 2, none⟩ = some (.string xt) ∧ U.cell? ⟨W.heap.size, 3, none⟩ = some (.int .i64 xr)) ∧ U.cell? ⟨B, 0, none⟩ = some (.bool true) ∧ U.cell? ⟨B, 1, none⟩ = some (.int .i64 σ) ∧ U.cell? ⟨B, 2, none⟩ = some (.int .i64 ν)) (go_keep)
          ((go_at_call 72; ((with_reducible refine (HID.out _).mono ?_); rintro e w4 ⟨rfl, u4⟩; have f0 := (Below.cell u4 (p := ⟨W.heap.size, 0, none⟩) q4).trans q0; have f1 := (Below.cell u4 (p := ⟨W.heap.size, 1, none⟩) q4).trans q1; have f2 := (Below.cell u4 (p := ⟨W.heap.size, 2, none⟩) q4).trans q2; have f3 := (Below.cell u4 (p := ⟨W.heap.size, 3, none⟩) q4).trans q3; have g0 := (Below.cell u4 (p := ⟨B, 0, none⟩) (Nat.lt_trans hB q4)).trans r0; have g1 := (Below.cell u4 (p := ⟨B, 1, none⟩) (Nat.lt_trans hB q4)).trans r1; have g2 := (Below.cell u4 (p := ⟨B, 2, none⟩) (Nat.lt_trans hB q4)).trans r2)))
        all_goals
          go_wp2_with fail
          go_ret
          exact ⟨by simp, (Up.alloc _ _).trans ((Up.drew _).trans u4)⟩

/-- what a maker of predicates leaves -/
def MakePost (w : World) (g : Nat) (p : Itm → Bool) (e : Ending) (w' : World) : Prop := ∃ lb, e = .returned (.func (.func g) #[] lb) ∧ Up w w' ∧ Pred w' g lb p

theorem hasText_make (t : List UInt8) (w : World) : Calls Try.prog 67 #[.string (bs t)] w (MakePost w 86 (txtB t)) := by
  have h := hmf
  go_enter Try.func67, Try.ntmps67
  go_wp2_with fail
  go_ret
  refine ⟨_, rfl, Up.alloc _ _, fun W hu x => ?_⟩
  have q0 := World.cell?_alloc_new w #[.string (bs t)] 9 0
  have hB : w.heap.size < (w.alloc (.cells #[.string (bs t)] 9)).heap.size := by simp
  exact hasText_in t w.heap.size x W (Nat.lt_of_lt_of_le hB hu.size) ((hu.cell (p := ⟨w.heap.size, 0, none⟩) hB).trans q0)

theorem isBehind_make (a : Itm) (w : World) : Calls Try.prog 89 #[itV a] w (MakePost w 95 (behB a)) := by
  have h := hmf
  unfold itV
  go_enter Try.func89, Try.ntmps89
  go_wp2_with fail
  go_ret
  refine ⟨_, rfl, Up.alloc _ _, fun W hu x => ?_⟩
  have q0 := World.cell?_alloc_new w #[.int .i64 a.s, .int .i64 a.n, .string (bs a.t), .int .i64 a.r] 92 0
  have q1 := World.cell?_alloc_new w #[.int .i64 a.s, .int .i64 a.n, .string (bs a.t), .int .i64 a.r] 92 1
  have hB : w.heap.size < (w.alloc (.cells #[.int .i64 a.s, .int .i64 a.n, .string (bs a.t), .int .i64 a.r] 92)).heap.size := by simp
  exact isBehind_in a x w.heap.size W (Nat.lt_of_lt_of_le hB hu.size) ((hu.cell (p := ⟨w.heap.size, 0, none⟩) hB).trans q0) ((hu.cell (p := ⟨w.heap.size, 1, none⟩) hB).trans q1)

theorem hasId_make (i : Bool × Int × Int) (w : World) : Calls Try.prog 73 #[idV i] w (MakePost w 91 (idB i)) := by
  have h := hmf
  unfold idV
  go_enter Try.func73, Try.ntmps73
  go_wp2_with fail
  go_ret
  refine ⟨_, rfl, Up.alloc _ _, fun W hu x => ?_⟩
  have q0 := World.cell?_alloc_new w #[.bool i.1, .int .i64 i.2.1, .int .i64 i.2.2] 57 0
  have q1 := World.cell?_alloc_new w #[.bool i.1, .int .i64 i.2.1, .int .i64 i.2.2] 57 1
  have q2 := World.cell?_alloc_new w #[.bool i.1, .int .i64 i.2.1, .int .i64 i.2.2] 57 2
  have hB : w.heap.size < (w.alloc (.cells #[.bool i.1, .int .i64 i.2.1, .int .i64 i.2.2] 57)).heap.size := by simp
  exact hasId_in i w.heap.size x W (Nat.lt_of_lt_of_le hB hu.size) ((hu.cell (p := ⟨w.heap.size, 0, none⟩) hB).trans q0) ((hu.cell (p := ⟨w.heap.size, 1, none⟩) hB).trans q1) ((hu.cell (p := ⟨w.heap.size, 2, none⟩) hB).trans q2)

theorem eg_text : ∀ args w, (callFunc 86 args).run Try.prog w = .ok (.enter 86 args) w := enters_of Try.func86 (by kernel_rfl) rfl
theorem eg_beh : ∀ args w, (callFunc 95 args).run Try.prog w = .ok (.enter 95 args) w := enters_of Try.func95 (by kernel_rfl) rfl
theorem eg_id : ∀ args w, (callFunc 91 args).run Try.prog w = .ok (.enter 91 args) w := enters_of Try.func91 (by kernel_rfl) rfl

/-- the fingerprint of a block -/
def FP (t : List UInt8) : Int := ((fp 65581 t : Nat) : Int)

theorem fingerprint_any (t : List UInt8) (w : World) (hl : t.length ≤ 64) :
    Calls Try.prog 87 #[.string (bs t)] w fun e w' => e = .returned (.int .i64 (FP t)) ∧ Up w w' := by
  have h := of_ok 65581 (bs t) w (by omega) (by omega) (by rw [bs_size]; omega)
  rw [bs_list] at h
  unfold FP
  generalize fp 65581 t = N at h ⊢
  go_enter Try.func87, Try.ntmps87
  go_wp2_with fail
  refine h.mono ?_
  rintro e w1 ⟨rfl, u1⟩
  go_wp2_with fail
  go_ret
  exact ⟨rfl, u1⟩

end Go.Proofs.Ytkghinpajogdhaa

/-
  What vol's unused, count and checkBlock return. Conditions: as each says.
-/
namespace Go.Proofs.Ytkghinpajogdhaa
open Go.RowKit
open Go.Proofs
open Go.Maps
open WoolBag
open WoolVol

theorem grown_up {w w' : World} (h : Up w w') (r : Option Nat) : w.grownBy w' r := ⟨h.os, h.tape, h.output, h.size, fun k hk _ => h.block k hk⟩

theorem wf_small (z : Int) (h : -9223372036854775808 ≤ z ∧ z ≤ 9223372036854775807) : (Lit.int .i64 z).wf = true := WalkArith.wf_i64 h

theorem FP_le (t : List UInt8) : 0 ≤ FP t ∧ FP t < 1073741824 := by
  have := fp_le 65581 (by omega) (by omega) t
  unfold FP
  omega

/-- the identifiers of items fit -/
theorem wf_id {l : List Itm} (hb : Bag FP l) (k : Nat) (hk : k < l.length) : WfI (idOf l[k]) := by
  obtain ⟨_, h1, h2, h3, _⟩ := hb.ok _ (List.getElem_mem hk)
  have h4 := FP_le l[k].t
  refine ⟨wf_small _ ?_, wf_small _ ?_⟩
  · show _ ≤ l[k].s ∧ l[k].s ≤ _
    rw [h1]; omega
  · show _ ≤ l[k].n ∧ l[k].n ≤ _
    omega

/-- a block of one item's cells, just made -/
theorem item_new (W : World) (x : Itm) : (W.alloc (.cells (itC x).toArray 92)).cell? ⟨W.heap.size, 0, none⟩ = some (.int .i64 x.s) := World.cell?_alloc_new W _ _ 0

def UnRel (l : List Itm) (w : World) (B : Nat) (i : Value) (wr : World) : Prop := ∃ k : Nat, k ≤ l.length ∧ i = .int .i64 k ∧ Uses wr B k (l.take k) [] ∧ Below B w wr

def UnPost (w : World) (l : List Itm) (e : Ending) (w' : World) : Prop := ∃ B, e = .returned (.map (some B)) ∧ w.heap.size ≤ B ∧ Uses w' B l.length l [] ∧ Up w w'

set_option maxRecDepth 100000 in
set_option maxHeartbeats 1000000 in
theorem unused_any (v : Value) (l : List Itm) (w : World) (h : Items w v l) (hb : Bag FP l) : Calls Try.prog 57 #[v] w (UnPost w l) := by
  obtain ⟨o, c, rfl, h2, h3, h4⟩ := h
  unfold maxLen at h3
  have H4 := Lib.hid h4
  have HB := Lib.hid hb
  have hl := hb.len
  clear h4 hb
  have hmm := @run_makeMap Try.prog
  go_enter Try.func57, Try.ntmps57
  go_wp2_with fail
  clear hmm
  go_loopw [9] (fun i wr => UnRel l w w.heap.size i wr) (fun i _ => l.length - (intOf i).toNat)
  case atStart => exact ⟨0, Nat.zero_le _, rfl, (MapF.made w).congr (fun _ => rfl) (fun _ => rfl), Up.alloc _ _⟩
  case round =>
    obtain ⟨k, hk, rfl, hus, hu⟩ := hrel
    by_cases hlt : k < l.length
    · rcases H4.out with h5 | ⟨b, off, rfl, h5⟩
      · rw [h5] at hlt; simp at hlt
      · obtain ⟨a1, a2, a3, a4⟩ := h5 k hlt
        rw [← hu.cell (World.block_lt_of_cell? w _ a1)] at a1
        rw [← hu.cell (World.block_lt_of_cell? w _ a2)] at a2
        rw [← hu.cell (World.block_lt_of_cell? w _ a3)] at a3
        rw [← hu.cell (World.block_lt_of_cell? w _ a4)] at a4
        have HWF := Lib.hid (wf_id HB.out k hlt)
        have HT : Hid (l.take (k + 1) = l.take k ++ [l[k]]) := List.take_succ_eq_append_getElem hlt
        have HID : Hid (∀ W, Calls Try.prog 72 #[.agg #[.int .i64 l[k].s, .int .i64 l[k].n, .string (bs l[k].t), .int .i64 l[k].r]] W fun e w' => e = .returned (idV (idOf l[k])) ∧ Up W w') := fun W => identifier_any l[k] W
        generalize l[k] = x at *
        have HU := Lib.hid hu
        have HUS := Lib.hid hus
        have d1 : decide (k < l.length) = true := decide_eq_true hlt
        obtain ⟨xs, xn, xt, xr⟩ := x
        simp only at a1 a2 a3 a4 HID
        clear h5 hu hus
        go_wp2_with fail
        refine (HID.out _).mono ?_
        rintro e w1 ⟨rfl, u1⟩
        have HUS1 : Hid (Uses w1 w.heap.size k (l.take k) []) := (HUS.out.up (Up.alloc _ _)).up u1
        have HU1 : Hid (Up w w1) := (show Up w wr from HU.out).trans ((Up.alloc _ _).trans u1)
        clear u1
        go_wp2_with (at_mapUpdate; refine wp_store rfl _ _ _ rfl w.heap.size k _ _ rfl HUS1.out (by unfold maxLen; omega) (idOf ⟨xs, xn, xt, xr⟩) HWF.out 0 (by decide) rfl rfl ?_; intro w2 hm2 hg2)
        go_roundw
        case rel => exact ⟨k + 1, by omega, by go_num, by rw [HT.out]; exact Uses.start hm2, Below.grown HU1.out hg2 HU1.out.size (fun j hj => by cases hj; exact Nat.le_refl _)⟩
        case measure => simp only [intOf]; omega
    · have d1 : decide (k < l.length) = false := decide_eq_false hlt
      have hke : k = l.length := by omega
      subst hke
      rw [List.take_length] at hus
      have HUS := Lib.hid hus
      have HU := Lib.hid hu
      clear hus hu
      go_wp2_with fail
      go_ret
      exact ⟨w.heap.size, rfl, Nat.le_refl _, HUS.out, HU.out⟩

set_option maxRecDepth 100000 in
set_option maxHeartbeats 1000000 in
theorem count_any (i : Idn) (B n : Nat) (l : List Itm) (all : List Idn) (w : World) (hU : Uses w B n l all) (hn : n < maxLen) (hi : WfI i) (hin : i.1 = true → l.any (idB i) = true) (hall : all.length ≤ 100000) :
    Calls Try.prog 71 #[idV i, .map (some B)] w fun e w' => e = .returned (.tuple #[]) ∧ Uses w' B (n + 1) l (all ++ [i]) ∧ w.grownBy w' (some B) := by
  obtain ⟨b, s, m⟩ := i
  cases b with
  | false =>
    unfold idV
    simp only
    go_enter Try.func71, Try.ntmps71
    go_wp2_with fail
    go_end0
    exact ⟨rfl, (Uses.hole rfl (MapF.mono (hU.up (Up.alloc _ _)) (Nat.le_succ _))), (World.grownBy_alloc w _ _)⟩
  | true =>
    have hany := hin rfl
    have hA := (hU.up (Up.alloc w (.cells #[.bool true, .int .i64 s, .int .i64 m] 57))).up (Up.drew _)
    obtain ⟨st, h1, h2, h3, h4⟩ := MapF.inc hA hn (true, s, m) hi (by unfold hasU; exact hany)
    have hc : useU l all (true, s, m) = cnt all (true, s, m) := by unfold useU; rw [if_pos hany]
    rw [hc] at h1 h2 h3
    have hc1 := cnt_nonneg all (true, s, m)
    have hc2 := cnt_le all (true, s, m)
    obtain ⟨z, hz⟩ : ∃ z, cnt all (true, s, m) = z := ⟨_, rfl⟩
    have hw : IntKind.i64.wrap (cnt all (true, s, m) + 1) = cnt all (true, s, m) + 1 := IntWalk.i64_in _ (by omega)
    obtain ⟨w', h5, h6, h7⟩ := h4 (cnt all (true, s, m) + 1) (wf_small _ (by omega))
    have HM : Hid (Uses w' B (n + 1) l (all ++ [(true, s, m)])) := Uses.more hany h6
    have HG : Hid (w.grownBy w' (some B)) := (grown_up ((Up.alloc w _).trans (Up.drew _)) _).trans h7
    rw [hz] at h1 h2 hw h5
    unfold idV at h1 h2 ⊢
    unfold goInt at h1 h5
    simp only at h1 h2 ⊢
    clear h3 h4 h6 h7 hc hz hc1 hc2 hA hU hin hany
    go_enter Try.func71, Try.ntmps71
    go_wp2_with fail
    go_region
    all_goals
      go_end0
      exact ⟨rfl, HM.out, HG.out⟩

set_option maxRecDepth 100000 in
set_option maxHeartbeats 1000000 in
theorem checkBlock_any (i : Idn) (B n : Nat) (l : List Itm) (all : List Idn) (w : World) (hU : Uses w B n l all) (hi : WfI i) :
    Calls Try.prog 81 #[idV i, .map (some B)] w fun e w' => e = .returned (.int .i64 (errB l i)) ∧ Up w w' := by
  obtain ⟨b, s, m⟩ := i
  have HUS := Lib.hid hU
  have HWF := Lib.hid hi
  have he : errB l (b, s, m) = if !b && !(((b, s, m) : Idn) == noId) then 3 else if b && !(hasU l (b, s, m)) then 4 else 0 := rfl
  cases b with
  | false =>
    have e2 : (((false, s, m) : Idn) == noId) = ((s == 0) && (m == 0)) := by
      unfold noId
      rw [Bool.eq_iff_iff]
      simp
    rw [e2] at he
    obtain ⟨E, hE⟩ : ∃ E, errB l (false, s, m) = E := ⟨_, rfl⟩
    rw [hE] at he ⊢
    have hno : hasU l (false, s, m) = false := by
      unfold hasU
      rw [List.any_eq_false]
      intro x _
      unfold idB
      simp
    by_cases hz : s = 0 ∧ m = 0
    · obtain ⟨rfl, rfl⟩ := hz
      have HE := Lib.hid he
      have HH := Lib.hid hno
      clear he hE e2 hU hi hno
      unfold idV
      simp only
      go_enter Try.func81, Try.ntmps81
      go_wp2_with (at_lookup; refine wp_look_ok rfl _ _ rfl B n _ _ rfl (HUS.out.up (by first | exact Up.alloc _ _ | exact (Up.alloc _ _).trans (Up.alloc _ _))) (false, 0, 0) HWF.out rfl ?_; rw [HH.out])
      go_ret
      exact ⟨by rw [HE.out]; rfl, by first | exact Up.alloc _ _ | exact (Up.alloc _ _).trans (Up.alloc _ _)⟩
    · have hz2 : ((s == 0) && (m == 0)) = false := by
        rw [Bool.and_eq_false_iff]
        by_cases h0 : s = 0
        · right; simp; intro h1; exact hz ⟨h0, h1⟩
        · left; simpa using h0
      rw [hz2] at he
      have HE := Lib.hid he
      clear he hE e2 hU hi hno HUS HWF
      unfold idV
      simp only
      go_enter Try.func81, Try.ntmps81
      go_wp2_with fail
      all_goals
        first
        | (exfalso; omega)
        | (go_ret; exact ⟨by rw [HE.out]; rfl, Up.alloc _ _⟩)
  | true =>
    obtain ⟨E, hE⟩ : ∃ E, errB l (true, s, m) = E := ⟨_, rfl⟩
    rw [hE] at he ⊢
    cases hh : hasU l (true, s, m) with
    | false =>
      rw [hh] at he
      have HE := Lib.hid he
      have HH := Lib.hid hh
      clear he hE hU hi hh
      unfold idV
      simp only
      go_enter Try.func81, Try.ntmps81
      go_wp2_with (at_lookup; refine wp_look_ok rfl _ _ rfl B n _ _ rfl (HUS.out.up (Up.alloc _ _)) (true, s, m) HWF.out rfl ?_; rw [HH.out])
      go_ret
      exact ⟨by rw [HE.out]; rfl, Up.alloc _ _⟩
    | true =>
      rw [hh] at he
      have HE := Lib.hid he
      have HH := Lib.hid hh
      clear he hE hU hi hh
      unfold idV
      simp only
      go_enter Try.func81, Try.ntmps81
      go_wp2_with (at_lookup; refine wp_look_ok rfl _ _ rfl B n _ _ rfl (HUS.out.up (Up.alloc _ _)) (true, s, m) HWF.out rfl ?_; rw [HH.out])
      go_ret
      exact ⟨by rw [HE.out]; rfl, Up.alloc _ _⟩

end Go.Proofs.Ytkghinpajogdhaa
