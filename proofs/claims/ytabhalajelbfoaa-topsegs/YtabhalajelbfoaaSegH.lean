/-
  What used of package seg, slices.Index and Contains of records return. Conditions: the rows can be read.
-/
import Derived.Test.YtabhalajelbfoaaSegG
import Derived.Test.YtabhalajelbfoaaBag2
namespace Go.Proofs.Ytabhalajelbfoaa
open Go.RowKit
open Go.Proofs
open WoolBag
open WoolSeg

theorem eg_used : ∀ args w, (callFunc 62 args).run Try.prog w = .ok (.enter 62 args) w := enters_of Try.func62 (by kernel_rfl) rfl

/-- is the item's record this one? -/
def rcB (r : Rc) (x : Itm) : Bool := (idB r.1 x) && (x.t == r.2)
theorem rcB_eq (r : Rc) (x : Itm) : rcB r x = decide (rcOf x = r) := by
  obtain ⟨⟨b, σ, ν⟩, t⟩ := r
  unfold rcB idB rcOf idOf
  cases b
  · simp
  · rw [Bool.eq_iff_iff]
    simp [and_assoc]
theorem used_any (b : List Itm) (r : Rc) : WoolSeg.used b r = b.any (rcB r) := by
  unfold WoolSeg.used
  congr 1
  funext x
  exact (rcB_eq r x).symm

set_option maxRecDepth 100000 in
set_option maxHeartbeats 2000000 in
theorem used_in (r : Rc) (B : Nat) (x : Itm) (W : World) (hR : RowC W B 36 (rcC r)) :
    Calls Try.prog 62 #[itV x, .pointer (some ⟨B, 0, none⟩)] W fun e w' => e = .returned (.bool (rcB r x)) ∧ Up W w' := by
  have hB := hR.lt
  have h0 := hR.cell (j := 0) rfl
  have h1 := hR.cell (j := 1) rfl
  have h2 := hR.cell (j := 2) rfl
  have h3 := hR.cell (j := 3) rfl
  obtain ⟨⟨b, σ, ν⟩, t⟩ := r
  simp only at h0 h1 h2 h3
  have hid := identifier_any x
  have hv : idV (idOf x) = .agg #[.bool true, .int .i64 x.s, .int .i64 x.n] := rfl
  have hq : rcB ((b, σ, ν), t) x = ((b && (x.s == σ) && (x.n == ν)) && (x.t == t)) := rfl
  rw [hq]
  have htx := txt_eq x.t t
  unfold itV at hid ⊢
  simp only [hv] at hid
  generalize (x.t == t) = Q at *
  generalize x.s = xs at *
  generalize x.n = xn at *
  generalize bs x.t = xt at *
  generalize bs t = tt at *
  generalize x.r = xr at *
  have hne : B ≠ W.heap.size := by omega
  clear hv hq hR
  have q0 := World.cell?_alloc_new W #[.int .i64 xs, .int .i64 xn, .string xt, .int .i64 xr] 43 0
  have q1 := World.cell?_alloc_new W #[.int .i64 xs, .int .i64 xn, .string xt, .int .i64 xr] 43 1
  have q2 := World.cell?_alloc_new W #[.int .i64 xs, .int .i64 xn, .string xt, .int .i64 xr] 43 2
  have q3 := World.cell?_alloc_new W #[.int .i64 xs, .int .i64 xn, .string xt, .int .i64 xr] 43 3
  have q4 : W.heap.size < (W.alloc (.cells #[.int .i64 xs, .int .i64 xn, .string xt, .int .i64 xr] 43)).heap.size := by simp
  have r0 := (Below.cell (Up.alloc W (.cells #[.int .i64 xs, .int .i64 xn, .string xt, .int .i64 xr] 43)) (p := ⟨B, 0, none⟩) hB).trans h0
  have r1 := (Below.cell (Up.alloc W (.cells #[.int .i64 xs, .int .i64 xn, .string xt, .int .i64 xr] 43)) (p := ⟨B, 1, none⟩) hB).trans h1
  have r2 := (Below.cell (Up.alloc W (.cells #[.int .i64 xs, .int .i64 xn, .string xt, .int .i64 xr] 43)) (p := ⟨B, 2, none⟩) hB).trans h2
  have r3 := (Below.cell (Up.alloc W (.cells #[.int .i64 xs, .int .i64 xn, .string xt, .int .i64 xr] 43)) (p := ⟨B, 3, none⟩) hB).trans h3
  clear h0 h1 h2 h3
  have HID := Lib.hid hid
  have HQ := Lib.hid htx
  clear hid htx
  cases b with
  | false =>
    go_enter Try.func62, Try.ntmps62
    go_wp2_with fail
    refine wp_region_held_drew (S := (fun U => (U.cell? ⟨W.heap.size, 0, none⟩ = some (.int .i64 xs) ∧ U.cell? ⟨W.heap.size, 1, none⟩ = some (.int .i64 xn) ∧ U.cell? ⟨W.heap.size, 2, none⟩ = some (.string xt) ∧ U.cell? ⟨W.heap.size, 3, none⟩ = some (.int .i64 xr)) ∧ U.cell? ⟨B, 0, none⟩ = some (.bool false) ∧ U.cell? ⟨B, 1, none⟩ = some (.int .i64 σ) ∧ U.cell? ⟨B, 2, none⟩ = some (.int .i64 ν) ∧ U.cell? ⟨B, 3, none⟩ = some (.string tt))) (by kernel_rfl) ?_ (fun hHeld => ?_)
    case refine_1 => exact ⟨⟨q0, q1, q2, q3⟩, r0, r1, r2, r3⟩
    (refine wpAnyH_take (i := 0) (oi := { dst := some 4, op := Op.load 43 (Operand.tmp 2), type := 43, pos := "seg.go:124", after := #[], guard := none }) (v := ?_) rfl (by kernel_rfl) (by kernel_rfl) (by kernel_rfl) (fun _ _ _ h => h) (Or.inl ⟨by rfl, ?_⟩) (by assumption) ?_)
    rotate_left
    · (intro w hSw; (try dsimp only at hSw); go_simp; try with_reducible rfl)
    try simp only [Act.put, List.setIfInBounds_toArray, List.set_cons_zero, List.set_cons_succ]
    (refine wpAnyH_take (i := 2) (oi := { dst := some 6, op := Op.fieldAddr 36 (Operand.tmp 1) 0, type := 0, pos := "seg.go:124", after := #[], guard := none }) (v := ?_) rfl (by kernel_rfl) (by kernel_rfl) (by kernel_rfl) (fun _ _ _ h => h) (Or.inl ⟨by rfl, ?_⟩) (by assumption) ?_)
    rotate_left
    · (intro w hSw; (try dsimp only at hSw); go_simp; try with_reducible rfl)
    try simp only [Act.put, List.setIfInBounds_toArray, List.set_cons_zero, List.set_cons_succ]
    (refine wpAnyH_take (i := 3) (oi := { dst := some 7, op := Op.load 29 (Operand.tmp 6), type := 29, pos := "seg.go:124", after := #[{ on := 2, ground := Ground.data }], guard := none }) (v := ?_) rfl (by kernel_rfl) (by kernel_rfl) (by kernel_rfl) (fun _ _ _ h => h) (Or.inl ⟨by rfl, ?_⟩) (by assumption) ?_)
    rotate_left
    · (intro w hSw; (try dsimp only at hSw); go_simp; try with_reducible rfl)
    try simp only [Act.put, List.setIfInBounds_toArray, List.set_cons_zero, List.set_cons_succ]
    refine wpAnyH_ready (rs := [1]) (by kernel_rfl) (by simp) ?_
    refine AllReadyH.cons (o := { dst := some 5, op := Op.call { callee := Callee.value (Operand.func 40), args := #[Operand.tmp 4], argTypes := #[43] }, type := 29, pos := "seg.go:124", after := #[{ on := 0, ground := Ground.data }], guard := none }) rfl (fun K hK => ?_) ?_
    rotate_left
    · exact AllReadyH.nil
    go_simp
    go_at_call 40
    with_reducible refine (HID.out _).mono ?_
    rintro e w4 ⟨rfl, u4⟩
    have f0 := (Below.cell u4 (p := ⟨W.heap.size, 0, none⟩) q4).trans q0
    have f1 := (Below.cell u4 (p := ⟨W.heap.size, 1, none⟩) q4).trans q1
    have f2 := (Below.cell u4 (p := ⟨W.heap.size, 2, none⟩) q4).trans q2
    have f3 := (Below.cell u4 (p := ⟨W.heap.size, 3, none⟩) q4).trans q3
    have g0 := (Below.cell u4 (p := ⟨B, 0, none⟩) (Nat.lt_trans hB q4)).trans r0
    have g1 := (Below.cell u4 (p := ⟨B, 1, none⟩) (Nat.lt_trans hB q4)).trans r1
    have g2 := (Below.cell u4 (p := ⟨B, 2, none⟩) (Nat.lt_trans hB q4)).trans r2
    have g3 := (Below.cell u4 (p := ⟨B, 3, none⟩) (Nat.lt_trans hB q4)).trans r3
    refine hK.out _ _ ?_ (fun hHeld => ?_)
    · exact ⟨⟨f0, f1, f2, f3⟩, g0, g1, g2, g3⟩
    clear hK K
    try simp only [Act.put, List.setIfInBounds_toArray, List.set_cons_zero, List.set_cons_succ]
    (refine wpAnyH_take (i := 4) (oi := { dst := some 8, op := Op.binOp BinOp.eql 29 (Operand.tmp 5) (Operand.tmp 7) 29, type := 4, pos := "seg.go:124", after := #[{ on := 1, ground := Ground.data }, { on := 3, ground := Ground.data }], guard := none }) (v := ?_) rfl (by kernel_rfl) (by kernel_rfl) (by kernel_rfl) (fun _ _ _ h => h) (Or.inl ⟨by rfl, ?_⟩) (by assumption) ?_)
    rotate_left
    · (intro w hSw; (try dsimp only at hSw); go_simp; try with_reducible rfl)
    try simp only [Act.put, List.setIfInBounds_toArray, List.set_cons_zero, List.set_cons_succ]
    (refine wpAnyH_take (i := 5) (oi := { dst := some 9, op := Op.move (Operand.tmp 8), type := 4, pos := "seg.go:124", after := #[{ on := 4, ground := Ground.data }, { on := 1, ground := Ground.chain }], guard := none }) (v := ?_) rfl (by kernel_rfl) (by kernel_rfl) (by kernel_rfl) (fun _ _ _ h => h) (Or.inl ⟨by rfl, ?_⟩) (by assumption) ?_)
    rotate_left
    · (intro w hSw; (try dsimp only at hSw); go_simp; try with_reducible rfl)
    try simp only [Act.put, List.setIfInBounds_toArray, List.set_cons_zero, List.set_cons_succ]
    (refine wpAnyH_take (i := 6) (oi := { dst := some 10, op := Op.fieldAddr 43 (Operand.tmp 2) 2, type := 0, pos := "seg.go:124", after := #[{ on := 5, ground := Ground.guard }], guard := some (5, true) }) (v := undef) rfl (by kernel_rfl) (by kernel_rfl) (by kernel_rfl) (fun _ _ _ h => h) (Or.inr ⟨by rfl, rfl⟩) (by assumption) ?_)
    try simp only [Act.put, List.setIfInBounds_toArray, List.set_cons_zero, List.set_cons_succ]
    (refine wpAnyH_take (i := 7) (oi := { dst := some 11, op := Op.load 9 (Operand.tmp 10), type := 9, pos := "seg.go:124", after := #[{ on := 6, ground := Ground.data }, { on := 5, ground := Ground.guard }], guard := some (5, true) }) (v := undef) rfl (by kernel_rfl) (by kernel_rfl) (by kernel_rfl) (fun _ _ _ h => h) (Or.inr ⟨by rfl, rfl⟩) (by assumption) ?_)
    try simp only [Act.put, List.setIfInBounds_toArray, List.set_cons_zero, List.set_cons_succ]
    (refine wpAnyH_take (i := 8) (oi := { dst := some 12, op := Op.fieldAddr 36 (Operand.tmp 1) 1, type := 0, pos := "seg.go:124", after := #[{ on := 5, ground := Ground.guard }], guard := some (5, true) }) (v := undef) rfl (by kernel_rfl) (by kernel_rfl) (by kernel_rfl) (fun _ _ _ h => h) (Or.inr ⟨by rfl, rfl⟩) (by assumption) ?_)
    try simp only [Act.put, List.setIfInBounds_toArray, List.set_cons_zero, List.set_cons_succ]
    (refine wpAnyH_take (i := 9) (oi := { dst := some 13, op := Op.load 9 (Operand.tmp 12), type := 9, pos := "seg.go:124", after := #[{ on := 8, ground := Ground.data }, { on := 5, ground := Ground.guard }], guard := some (5, true) }) (v := undef) rfl (by kernel_rfl) (by kernel_rfl) (by kernel_rfl) (fun _ _ _ h => h) (Or.inr ⟨by rfl, rfl⟩) (by assumption) ?_)
    try simp only [Act.put, List.setIfInBounds_toArray, List.set_cons_zero, List.set_cons_succ]
    (refine wpAnyH_take (i := 10) (oi := { dst := some 14, op := Op.binOp BinOp.eql 9 (Operand.tmp 11) (Operand.tmp 13) 9, type := 4, pos := "seg.go:124", after := #[{ on := 7, ground := Ground.data }, { on := 9, ground := Ground.data }, { on := 5, ground := Ground.guard }], guard := some (5, true) }) (v := undef) rfl (by kernel_rfl) (by kernel_rfl) (by kernel_rfl) (fun _ _ _ h => h) (Or.inr ⟨by rfl, rfl⟩) (by assumption) ?_)
    try simp only [Act.put, List.setIfInBounds_toArray, List.set_cons_zero, List.set_cons_succ]
    (refine wpAnyH_take (i := 11) (oi := { dst := some 15, op := Op.pick (Operand.tmp 9) (Operand.tmp 14) (Operand.const (Value.bool false)), type := 4, pos := "seg.go:124", after := #[{ on := 5, ground := Ground.data }, { on := 10, ground := Ground.data }], guard := none }) (v := ?_) rfl (by kernel_rfl) (by kernel_rfl) (by kernel_rfl) (fun _ _ _ h => h) (Or.inl ⟨by rfl, ?_⟩) (by assumption) ?_)
    rotate_left
    · (intro w hSw; (try dsimp only at hSw); go_simp; try with_reducible rfl)
    try simp only [Act.put, List.setIfInBounds_toArray, List.set_cons_zero, List.set_cons_succ]
    (refine wpAnyH_take (i := 12) (oi := { dst := some 3, op := Op.assign (Operand.tmp 15), type := 4, pos := "seg.go:124", after := #[{ on := 11, ground := Ground.data }, { on := 5, ground := Ground.chain }, { on := 0, ground := Ground.phase }, { on := 1, ground := Ground.phase }, { on := 2, ground := Ground.phase }, { on := 3, ground := Ground.phase }, { on := 4, ground := Ground.phase }, { on := 5, ground := Ground.phase }, { on := 6, ground := Ground.phase }, { on := 7, ground := Ground.phase }, { on := 8, ground := Ground.phase }, { on := 9, ground := Ground.phase }, { on := 10, ground := Ground.phase }, { on := 11, ground := Ground.phase }], guard := none }) (v := ?_) rfl (by kernel_rfl) (by kernel_rfl) (by kernel_rfl) (fun _ _ _ h => h) (Or.inl ⟨by rfl, ?_⟩) (by assumption) ?_)
    rotate_left
    · (intro w hSw; (try dsimp only at hSw); go_simp; try with_reducible rfl)
    try simp only [Act.put, List.setIfInBounds_toArray, List.set_cons_zero, List.set_cons_succ]
    refine wpAnyH_done (by kernel_rfl) ?_ _
    have HU4 : Hid (Up W w4) := (Up.alloc _ _).trans ((Up.drew _).trans u4)
    clear f0 f1 f2 f3 g0 g1 g2 g3
    go_wp2_with fail
    go_ret
    exact ⟨by simp, HU4.out⟩
  | true =>
    by_cases d1 : xs = σ
    · subst d1
      by_cases d2 : xn = ν
      · subst d2
        go_enter Try.func62, Try.ntmps62
        go_wp2_with fail
        go_region_held3 (fun U => (U.cell? ⟨W.heap.size, 0, none⟩ = some (.int .i64 xs) ∧ U.cell? ⟨W.heap.size, 1, none⟩ = some (.int .i64 xn) ∧ U.cell? ⟨W.heap.size, 2, none⟩ = some (.string xt) ∧ U.cell? ⟨W.heap.size, 3, none⟩ = some (.int .i64 xr)) ∧ U.cell? ⟨B, 0, none⟩ = some (.bool true) ∧ U.cell? ⟨B, 1, none⟩ = some (.int .i64 xs) ∧ U.cell? ⟨B, 2, none⟩ = some (.int .i64 xn) ∧ U.cell? ⟨B, 3, none⟩ = some (.string tt)) (go_keep)
          ((go_at_call 40; ((with_reducible refine (HID.out _).mono ?_); rintro e w4 ⟨rfl, u4⟩; have f0 := (Below.cell u4 (p := ⟨W.heap.size, 0, none⟩) q4).trans q0; have f1 := (Below.cell u4 (p := ⟨W.heap.size, 1, none⟩) q4).trans q1; have f2 := (Below.cell u4 (p := ⟨W.heap.size, 2, none⟩) q4).trans q2; have f3 := (Below.cell u4 (p := ⟨W.heap.size, 3, none⟩) q4).trans q3; have g0 := (Below.cell u4 (p := ⟨B, 0, none⟩) (Nat.lt_trans hB q4)).trans r0; have g1 := (Below.cell u4 (p := ⟨B, 1, none⟩) (Nat.lt_trans hB q4)).trans r1; have g2 := (Below.cell u4 (p := ⟨B, 2, none⟩) (Nat.lt_trans hB q4)).trans r2; have g3 := (Below.cell u4 (p := ⟨B, 3, none⟩) (Nat.lt_trans hB q4)).trans r3)))
        all_goals
          have HU4 : Hid (Up W w4) := (Up.alloc _ _).trans ((Up.drew _).trans u4)
          clear f0 f1 f2 f3 g0 g1 g2 g3
          go_wp2_with fail
          go_ret
          exact ⟨by first | (simp [HQ.out]; done) | simp, HU4.out⟩
      · have e2 : (xn == ν) = false := beq_eq_false_iff_ne.2 d2
        go_enter Try.func62, Try.ntmps62
        go_wp2_with fail
        refine wp_region_held_drew (S := (fun U => (U.cell? ⟨W.heap.size, 0, none⟩ = some (.int .i64 xs) ∧ U.cell? ⟨W.heap.size, 1, none⟩ = some (.int .i64 xn) ∧ U.cell? ⟨W.heap.size, 2, none⟩ = some (.string xt) ∧ U.cell? ⟨W.heap.size, 3, none⟩ = some (.int .i64 xr)) ∧ U.cell? ⟨B, 0, none⟩ = some (.bool true) ∧ U.cell? ⟨B, 1, none⟩ = some (.int .i64 xs) ∧ U.cell? ⟨B, 2, none⟩ = some (.int .i64 ν) ∧ U.cell? ⟨B, 3, none⟩ = some (.string tt))) (by kernel_rfl) ?_ (fun hHeld => ?_)
        case refine_1 => exact ⟨⟨q0, q1, q2, q3⟩, r0, r1, r2, r3⟩
        (refine wpAnyH_take (i := 0) (oi := { dst := some 4, op := Op.load 43 (Operand.tmp 2), type := 43, pos := "seg.go:124", after := #[], guard := none }) (v := ?_) rfl (by kernel_rfl) (by kernel_rfl) (by kernel_rfl) (fun _ _ _ h => h) (Or.inl ⟨by rfl, ?_⟩) (by assumption) ?_)
        rotate_left
        · (intro w hSw; (try dsimp only at hSw); go_simp; try with_reducible rfl)
        try simp only [Act.put, List.setIfInBounds_toArray, List.set_cons_zero, List.set_cons_succ]
        (refine wpAnyH_take (i := 2) (oi := { dst := some 6, op := Op.fieldAddr 36 (Operand.tmp 1) 0, type := 0, pos := "seg.go:124", after := #[], guard := none }) (v := ?_) rfl (by kernel_rfl) (by kernel_rfl) (by kernel_rfl) (fun _ _ _ h => h) (Or.inl ⟨by rfl, ?_⟩) (by assumption) ?_)
        rotate_left
        · (intro w hSw; (try dsimp only at hSw); go_simp; try with_reducible rfl)
        try simp only [Act.put, List.setIfInBounds_toArray, List.set_cons_zero, List.set_cons_succ]
        (refine wpAnyH_take (i := 3) (oi := { dst := some 7, op := Op.load 29 (Operand.tmp 6), type := 29, pos := "seg.go:124", after := #[{ on := 2, ground := Ground.data }], guard := none }) (v := ?_) rfl (by kernel_rfl) (by kernel_rfl) (by kernel_rfl) (fun _ _ _ h => h) (Or.inl ⟨by rfl, ?_⟩) (by assumption) ?_)
        rotate_left
        · (intro w hSw; (try dsimp only at hSw); go_simp; try with_reducible rfl)
        try simp only [Act.put, List.setIfInBounds_toArray, List.set_cons_zero, List.set_cons_succ]
        refine wpAnyH_ready (rs := [1]) (by kernel_rfl) (by simp) ?_
        refine AllReadyH.cons (o := { dst := some 5, op := Op.call { callee := Callee.value (Operand.func 40), args := #[Operand.tmp 4], argTypes := #[43] }, type := 29, pos := "seg.go:124", after := #[{ on := 0, ground := Ground.data }], guard := none }) rfl (fun K hK => ?_) ?_
        rotate_left
        · exact AllReadyH.nil
        go_simp
        go_at_call 40
        with_reducible refine (HID.out _).mono ?_
        rintro e w4 ⟨rfl, u4⟩
        have f0 := (Below.cell u4 (p := ⟨W.heap.size, 0, none⟩) q4).trans q0
        have f1 := (Below.cell u4 (p := ⟨W.heap.size, 1, none⟩) q4).trans q1
        have f2 := (Below.cell u4 (p := ⟨W.heap.size, 2, none⟩) q4).trans q2
        have f3 := (Below.cell u4 (p := ⟨W.heap.size, 3, none⟩) q4).trans q3
        have g0 := (Below.cell u4 (p := ⟨B, 0, none⟩) (Nat.lt_trans hB q4)).trans r0
        have g1 := (Below.cell u4 (p := ⟨B, 1, none⟩) (Nat.lt_trans hB q4)).trans r1
        have g2 := (Below.cell u4 (p := ⟨B, 2, none⟩) (Nat.lt_trans hB q4)).trans r2
        have g3 := (Below.cell u4 (p := ⟨B, 3, none⟩) (Nat.lt_trans hB q4)).trans r3
        refine hK.out _ _ ?_ (fun hHeld => ?_)
        · exact ⟨⟨f0, f1, f2, f3⟩, g0, g1, g2, g3⟩
        clear hK K
        try simp only [Act.put, List.setIfInBounds_toArray, List.set_cons_zero, List.set_cons_succ]
        (refine wpAnyH_take (i := 4) (oi := { dst := some 8, op := Op.binOp BinOp.eql 29 (Operand.tmp 5) (Operand.tmp 7) 29, type := 4, pos := "seg.go:124", after := #[{ on := 1, ground := Ground.data }, { on := 3, ground := Ground.data }], guard := none }) (v := ?_) rfl (by kernel_rfl) (by kernel_rfl) (by kernel_rfl) (fun _ _ _ h => h) (Or.inl ⟨by rfl, ?_⟩) (by assumption) ?_)
        rotate_left
        · (intro w hSw; (try dsimp only at hSw); go_simp; try with_reducible rfl)
        try simp only [Act.put, List.setIfInBounds_toArray, List.set_cons_zero, List.set_cons_succ]
        (refine wpAnyH_take (i := 5) (oi := { dst := some 9, op := Op.move (Operand.tmp 8), type := 4, pos := "seg.go:124", after := #[{ on := 4, ground := Ground.data }, { on := 1, ground := Ground.chain }], guard := none }) (v := ?_) rfl (by kernel_rfl) (by kernel_rfl) (by kernel_rfl) (fun _ _ _ h => h) (Or.inl ⟨by rfl, ?_⟩) (by assumption) ?_)
        rotate_left
        · (intro w hSw; (try dsimp only at hSw); go_simp; try with_reducible rfl)
        try simp only [Act.put, List.setIfInBounds_toArray, List.set_cons_zero, List.set_cons_succ]
        (refine wpAnyH_take (i := 6) (oi := { dst := some 10, op := Op.fieldAddr 43 (Operand.tmp 2) 2, type := 0, pos := "seg.go:124", after := #[{ on := 5, ground := Ground.guard }], guard := some (5, true) }) (v := undef) rfl (by kernel_rfl) (by kernel_rfl) (by kernel_rfl) (fun _ _ _ h => h) (Or.inr ⟨by rfl, rfl⟩) (by assumption) ?_)
        try simp only [Act.put, List.setIfInBounds_toArray, List.set_cons_zero, List.set_cons_succ]
        (refine wpAnyH_take (i := 7) (oi := { dst := some 11, op := Op.load 9 (Operand.tmp 10), type := 9, pos := "seg.go:124", after := #[{ on := 6, ground := Ground.data }, { on := 5, ground := Ground.guard }], guard := some (5, true) }) (v := undef) rfl (by kernel_rfl) (by kernel_rfl) (by kernel_rfl) (fun _ _ _ h => h) (Or.inr ⟨by rfl, rfl⟩) (by assumption) ?_)
        try simp only [Act.put, List.setIfInBounds_toArray, List.set_cons_zero, List.set_cons_succ]
        (refine wpAnyH_take (i := 8) (oi := { dst := some 12, op := Op.fieldAddr 36 (Operand.tmp 1) 1, type := 0, pos := "seg.go:124", after := #[{ on := 5, ground := Ground.guard }], guard := some (5, true) }) (v := undef) rfl (by kernel_rfl) (by kernel_rfl) (by kernel_rfl) (fun _ _ _ h => h) (Or.inr ⟨by rfl, rfl⟩) (by assumption) ?_)
        try simp only [Act.put, List.setIfInBounds_toArray, List.set_cons_zero, List.set_cons_succ]
        (refine wpAnyH_take (i := 9) (oi := { dst := some 13, op := Op.load 9 (Operand.tmp 12), type := 9, pos := "seg.go:124", after := #[{ on := 8, ground := Ground.data }, { on := 5, ground := Ground.guard }], guard := some (5, true) }) (v := undef) rfl (by kernel_rfl) (by kernel_rfl) (by kernel_rfl) (fun _ _ _ h => h) (Or.inr ⟨by rfl, rfl⟩) (by assumption) ?_)
        try simp only [Act.put, List.setIfInBounds_toArray, List.set_cons_zero, List.set_cons_succ]
        (refine wpAnyH_take (i := 10) (oi := { dst := some 14, op := Op.binOp BinOp.eql 9 (Operand.tmp 11) (Operand.tmp 13) 9, type := 4, pos := "seg.go:124", after := #[{ on := 7, ground := Ground.data }, { on := 9, ground := Ground.data }, { on := 5, ground := Ground.guard }], guard := some (5, true) }) (v := undef) rfl (by kernel_rfl) (by kernel_rfl) (by kernel_rfl) (fun _ _ _ h => h) (Or.inr ⟨by rfl, rfl⟩) (by assumption) ?_)
        try simp only [Act.put, List.setIfInBounds_toArray, List.set_cons_zero, List.set_cons_succ]
        (refine wpAnyH_take (i := 11) (oi := { dst := some 15, op := Op.pick (Operand.tmp 9) (Operand.tmp 14) (Operand.const (Value.bool false)), type := 4, pos := "seg.go:124", after := #[{ on := 5, ground := Ground.data }, { on := 10, ground := Ground.data }], guard := none }) (v := ?_) rfl (by kernel_rfl) (by kernel_rfl) (by kernel_rfl) (fun _ _ _ h => h) (Or.inl ⟨by rfl, ?_⟩) (by assumption) ?_)
        rotate_left
        · (intro w hSw; (try dsimp only at hSw); go_simp; try with_reducible rfl)
        try simp only [Act.put, List.setIfInBounds_toArray, List.set_cons_zero, List.set_cons_succ]
        (refine wpAnyH_take (i := 12) (oi := { dst := some 3, op := Op.assign (Operand.tmp 15), type := 4, pos := "seg.go:124", after := #[{ on := 11, ground := Ground.data }, { on := 5, ground := Ground.chain }, { on := 0, ground := Ground.phase }, { on := 1, ground := Ground.phase }, { on := 2, ground := Ground.phase }, { on := 3, ground := Ground.phase }, { on := 4, ground := Ground.phase }, { on := 5, ground := Ground.phase }, { on := 6, ground := Ground.phase }, { on := 7, ground := Ground.phase }, { on := 8, ground := Ground.phase }, { on := 9, ground := Ground.phase }, { on := 10, ground := Ground.phase }, { on := 11, ground := Ground.phase }], guard := none }) (v := ?_) rfl (by kernel_rfl) (by kernel_rfl) (by kernel_rfl) (fun _ _ _ h => h) (Or.inl ⟨by rfl, ?_⟩) (by assumption) ?_)
        rotate_left
        · (intro w hSw; (try dsimp only at hSw); go_simp; try with_reducible rfl)
        try simp only [Act.put, List.setIfInBounds_toArray, List.set_cons_zero, List.set_cons_succ]
        refine wpAnyH_done (by kernel_rfl) ?_ _
        have HU4 : Hid (Up W w4) := (Up.alloc _ _).trans ((Up.drew _).trans u4)
        clear f0 f1 f2 f3 g0 g1 g2 g3
        go_wp2_with fail
        go_ret
        exact ⟨by simp [e2], HU4.out⟩
    · have e1 : (xs == σ) = false := beq_eq_false_iff_ne.2 d1
      go_enter Try.func62, Try.ntmps62
      go_wp2_with fail
      refine wp_region_held_drew (S := (fun U => (U.cell? ⟨W.heap.size, 0, none⟩ = some (.int .i64 xs) ∧ U.cell? ⟨W.heap.size, 1, none⟩ = some (.int .i64 xn) ∧ U.cell? ⟨W.heap.size, 2, none⟩ = some (.string xt) ∧ U.cell? ⟨W.heap.size, 3, none⟩ = some (.int .i64 xr)) ∧ U.cell? ⟨B, 0, none⟩ = some (.bool true) ∧ U.cell? ⟨B, 1, none⟩ = some (.int .i64 σ) ∧ U.cell? ⟨B, 2, none⟩ = some (.int .i64 ν) ∧ U.cell? ⟨B, 3, none⟩ = some (.string tt))) (by kernel_rfl) ?_ (fun hHeld => ?_)
      case refine_1 => exact ⟨⟨q0, q1, q2, q3⟩, r0, r1, r2, r3⟩
      (refine wpAnyH_take (i := 0) (oi := { dst := some 4, op := Op.load 43 (Operand.tmp 2), type := 43, pos := "seg.go:124", after := #[], guard := none }) (v := ?_) rfl (by kernel_rfl) (by kernel_rfl) (by kernel_rfl) (fun _ _ _ h => h) (Or.inl ⟨by rfl, ?_⟩) (by assumption) ?_)
      rotate_left
      · (intro w hSw; (try dsimp only at hSw); go_simp; try with_reducible rfl)
      try simp only [Act.put, List.setIfInBounds_toArray, List.set_cons_zero, List.set_cons_succ]
      (refine wpAnyH_take (i := 2) (oi := { dst := some 6, op := Op.fieldAddr 36 (Operand.tmp 1) 0, type := 0, pos := "seg.go:124", after := #[], guard := none }) (v := ?_) rfl (by kernel_rfl) (by kernel_rfl) (by kernel_rfl) (fun _ _ _ h => h) (Or.inl ⟨by rfl, ?_⟩) (by assumption) ?_)
      rotate_left
      · (intro w hSw; (try dsimp only at hSw); go_simp; try with_reducible rfl)
      try simp only [Act.put, List.setIfInBounds_toArray, List.set_cons_zero, List.set_cons_succ]
      (refine wpAnyH_take (i := 3) (oi := { dst := some 7, op := Op.load 29 (Operand.tmp 6), type := 29, pos := "seg.go:124", after := #[{ on := 2, ground := Ground.data }], guard := none }) (v := ?_) rfl (by kernel_rfl) (by kernel_rfl) (by kernel_rfl) (fun _ _ _ h => h) (Or.inl ⟨by rfl, ?_⟩) (by assumption) ?_)
      rotate_left
      · (intro w hSw; (try dsimp only at hSw); go_simp; try with_reducible rfl)
      try simp only [Act.put, List.setIfInBounds_toArray, List.set_cons_zero, List.set_cons_succ]
      refine wpAnyH_ready (rs := [1]) (by kernel_rfl) (by simp) ?_
      refine AllReadyH.cons (o := { dst := some 5, op := Op.call { callee := Callee.value (Operand.func 40), args := #[Operand.tmp 4], argTypes := #[43] }, type := 29, pos := "seg.go:124", after := #[{ on := 0, ground := Ground.data }], guard := none }) rfl (fun K hK => ?_) ?_
      rotate_left
      · exact AllReadyH.nil
      go_simp
      go_at_call 40
      with_reducible refine (HID.out _).mono ?_
      rintro e w4 ⟨rfl, u4⟩
      have f0 := (Below.cell u4 (p := ⟨W.heap.size, 0, none⟩) q4).trans q0
      have f1 := (Below.cell u4 (p := ⟨W.heap.size, 1, none⟩) q4).trans q1
      have f2 := (Below.cell u4 (p := ⟨W.heap.size, 2, none⟩) q4).trans q2
      have f3 := (Below.cell u4 (p := ⟨W.heap.size, 3, none⟩) q4).trans q3
      have g0 := (Below.cell u4 (p := ⟨B, 0, none⟩) (Nat.lt_trans hB q4)).trans r0
      have g1 := (Below.cell u4 (p := ⟨B, 1, none⟩) (Nat.lt_trans hB q4)).trans r1
      have g2 := (Below.cell u4 (p := ⟨B, 2, none⟩) (Nat.lt_trans hB q4)).trans r2
      have g3 := (Below.cell u4 (p := ⟨B, 3, none⟩) (Nat.lt_trans hB q4)).trans r3
      refine hK.out _ _ ?_ (fun hHeld => ?_)
      · exact ⟨⟨f0, f1, f2, f3⟩, g0, g1, g2, g3⟩
      clear hK K
      try simp only [Act.put, List.setIfInBounds_toArray, List.set_cons_zero, List.set_cons_succ]
      (refine wpAnyH_take (i := 4) (oi := { dst := some 8, op := Op.binOp BinOp.eql 29 (Operand.tmp 5) (Operand.tmp 7) 29, type := 4, pos := "seg.go:124", after := #[{ on := 1, ground := Ground.data }, { on := 3, ground := Ground.data }], guard := none }) (v := ?_) rfl (by kernel_rfl) (by kernel_rfl) (by kernel_rfl) (fun _ _ _ h => h) (Or.inl ⟨by rfl, ?_⟩) (by assumption) ?_)
      rotate_left
      · (intro w hSw; (try dsimp only at hSw); go_simp; try with_reducible rfl)
      try simp only [Act.put, List.setIfInBounds_toArray, List.set_cons_zero, List.set_cons_succ]
      (refine wpAnyH_take (i := 5) (oi := { dst := some 9, op := Op.move (Operand.tmp 8), type := 4, pos := "seg.go:124", after := #[{ on := 4, ground := Ground.data }, { on := 1, ground := Ground.chain }], guard := none }) (v := ?_) rfl (by kernel_rfl) (by kernel_rfl) (by kernel_rfl) (fun _ _ _ h => h) (Or.inl ⟨by rfl, ?_⟩) (by assumption) ?_)
      rotate_left
      · (intro w hSw; (try dsimp only at hSw); go_simp; try with_reducible rfl)
      try simp only [Act.put, List.setIfInBounds_toArray, List.set_cons_zero, List.set_cons_succ]
      (refine wpAnyH_take (i := 6) (oi := { dst := some 10, op := Op.fieldAddr 43 (Operand.tmp 2) 2, type := 0, pos := "seg.go:124", after := #[{ on := 5, ground := Ground.guard }], guard := some (5, true) }) (v := undef) rfl (by kernel_rfl) (by kernel_rfl) (by kernel_rfl) (fun _ _ _ h => h) (Or.inr ⟨by rfl, rfl⟩) (by assumption) ?_)
      try simp only [Act.put, List.setIfInBounds_toArray, List.set_cons_zero, List.set_cons_succ]
      (refine wpAnyH_take (i := 7) (oi := { dst := some 11, op := Op.load 9 (Operand.tmp 10), type := 9, pos := "seg.go:124", after := #[{ on := 6, ground := Ground.data }, { on := 5, ground := Ground.guard }], guard := some (5, true) }) (v := undef) rfl (by kernel_rfl) (by kernel_rfl) (by kernel_rfl) (fun _ _ _ h => h) (Or.inr ⟨by rfl, rfl⟩) (by assumption) ?_)
      try simp only [Act.put, List.setIfInBounds_toArray, List.set_cons_zero, List.set_cons_succ]
      (refine wpAnyH_take (i := 8) (oi := { dst := some 12, op := Op.fieldAddr 36 (Operand.tmp 1) 1, type := 0, pos := "seg.go:124", after := #[{ on := 5, ground := Ground.guard }], guard := some (5, true) }) (v := undef) rfl (by kernel_rfl) (by kernel_rfl) (by kernel_rfl) (fun _ _ _ h => h) (Or.inr ⟨by rfl, rfl⟩) (by assumption) ?_)
      try simp only [Act.put, List.setIfInBounds_toArray, List.set_cons_zero, List.set_cons_succ]
      (refine wpAnyH_take (i := 9) (oi := { dst := some 13, op := Op.load 9 (Operand.tmp 12), type := 9, pos := "seg.go:124", after := #[{ on := 8, ground := Ground.data }, { on := 5, ground := Ground.guard }], guard := some (5, true) }) (v := undef) rfl (by kernel_rfl) (by kernel_rfl) (by kernel_rfl) (fun _ _ _ h => h) (Or.inr ⟨by rfl, rfl⟩) (by assumption) ?_)
      try simp only [Act.put, List.setIfInBounds_toArray, List.set_cons_zero, List.set_cons_succ]
      (refine wpAnyH_take (i := 10) (oi := { dst := some 14, op := Op.binOp BinOp.eql 9 (Operand.tmp 11) (Operand.tmp 13) 9, type := 4, pos := "seg.go:124", after := #[{ on := 7, ground := Ground.data }, { on := 9, ground := Ground.data }, { on := 5, ground := Ground.guard }], guard := some (5, true) }) (v := undef) rfl (by kernel_rfl) (by kernel_rfl) (by kernel_rfl) (fun _ _ _ h => h) (Or.inr ⟨by rfl, rfl⟩) (by assumption) ?_)
      try simp only [Act.put, List.setIfInBounds_toArray, List.set_cons_zero, List.set_cons_succ]
      (refine wpAnyH_take (i := 11) (oi := { dst := some 15, op := Op.pick (Operand.tmp 9) (Operand.tmp 14) (Operand.const (Value.bool false)), type := 4, pos := "seg.go:124", after := #[{ on := 5, ground := Ground.data }, { on := 10, ground := Ground.data }], guard := none }) (v := ?_) rfl (by kernel_rfl) (by kernel_rfl) (by kernel_rfl) (fun _ _ _ h => h) (Or.inl ⟨by rfl, ?_⟩) (by assumption) ?_)
      rotate_left
      · (intro w hSw; (try dsimp only at hSw); go_simp; try with_reducible rfl)
      try simp only [Act.put, List.setIfInBounds_toArray, List.set_cons_zero, List.set_cons_succ]
      (refine wpAnyH_take (i := 12) (oi := { dst := some 3, op := Op.assign (Operand.tmp 15), type := 4, pos := "seg.go:124", after := #[{ on := 11, ground := Ground.data }, { on := 5, ground := Ground.chain }, { on := 0, ground := Ground.phase }, { on := 1, ground := Ground.phase }, { on := 2, ground := Ground.phase }, { on := 3, ground := Ground.phase }, { on := 4, ground := Ground.phase }, { on := 5, ground := Ground.phase }, { on := 6, ground := Ground.phase }, { on := 7, ground := Ground.phase }, { on := 8, ground := Ground.phase }, { on := 9, ground := Ground.phase }, { on := 10, ground := Ground.phase }, { on := 11, ground := Ground.phase }], guard := none }) (v := ?_) rfl (by kernel_rfl) (by kernel_rfl) (by kernel_rfl) (fun _ _ _ h => h) (Or.inl ⟨by rfl, ?_⟩) (by assumption) ?_)
      rotate_left
      · (intro w hSw; (try dsimp only at hSw); go_simp; try with_reducible rfl)
      try simp only [Act.put, List.setIfInBounds_toArray, List.set_cons_zero, List.set_cons_succ]
      refine wpAnyH_done (by kernel_rfl) ?_ _
      have HU4 : Hid (Up W w4) := (Up.alloc _ _).trans ((Up.drew _).trans u4)
      clear f0 f1 f2 f3 g0 g1 g2 g3
      go_wp2_with fail
      go_ret
      exact ⟨by simp [e1], HU4.out⟩

/-- used: is the record's block in the bag? -/
theorem usedS_any (v : Value) (b : List Itm) (r : Rc) (w : World) (h : Items w v b) : Calls Try.prog 52 #[v, rcA r] w fun e w' => e = .returned (.bool (WoolSeg.used b r)) ∧ Up w w' := by
  have hh := hmf
  have HC : Hid (∀ W lb, Up w W → Pred W 62 lb (rcB r) → Calls Try.prog 43 #[v, .func (.func 62) #[] lb] W fun e w' => e = .returned (.bool (WoolSeg.used b r)) ∧ Up W w') := fun W lb hW hp => by
    rw [used_any]
    exact containsF v b W _ lb _ eg_used (h.up hW) hp
  have HP : Hid (∀ W : World, Up (w.alloc (.cells (rcC r).toArray 36)) W → Pred W 62 #[.pointer (some ⟨w.heap.size, 0, none⟩)] (rcB r)) := fun W hW U hU x => by
    have hr : RowC U w.heap.size 36 (rcC r) := RowC.up (RowC.up (heap_alloc_new w _) hW) hU
    exact used_in r w.heap.size x U hr
  obtain ⟨o, c, rfl, hc⟩ := h.slice
  unfold rcC at HP
  unfold rcA
  clear h
  go_enter Try.func52, Try.ntmps52
  go_wp2_with fail
  refine (HC.out _ _ (Up.alloc _ _) (HP.out _ (Up.refl _))).mono ?_
  rintro e w1 ⟨rfl, u1⟩
  have HU : Hid (Up w w1) := (Up.alloc _ _).trans u1
  clear u1
  go_wp2_with fail
  go_ret
  exact ⟨rfl, HU.out⟩

end Go.Proofs.Ytabhalajelbfoaa
