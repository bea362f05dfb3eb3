/-
  The texts Bag1, Bag2, one behind the other; each says below what it holds and on what conditions.
-/
import Derived.Test.YtnmdfdkagkpcaaaJVolOwn13
import Derived.Test.YtnmdfdkagkpcaaaJVolOwn14
import Derived.Deep.RegionHeld3
import Derived.BigRegion
import Derived.Shelf.Abstract

/-
  What the predicates of package bag return; slices.IndexFunc and ContainsFunc over items by them; fingerprint and identifier. Conditions: as each says.
-/
namespace Go.Proofs.Ytnmdfdkagkpcaaa
open Go.RowKit
open Go.Proofs
open WoolBag

/-- a function value that tells p of an item, in every world in which nothing that is in w has turned -/
def Pred (w : World) (g : Nat) (lb : Array Value) (p : Itm → Bool) : Prop :=
  ∀ W, Up w W → ∀ x, Calls Try.prog g (#[itV x] ++ lb) W fun e w' => e = .returned (.bool (p x)) ∧ Up W w'

def ixI (p : Itm → Bool) (l : List Itm) : Int := match idx p l with | some i => (i : Int) | none => -1

def IxRel (p : Itm → Bool) (l : List Itm) (w : World) (i : Value) (wr : World) : Prop :=
  ∃ k : Nat, k ≤ l.length ∧ i = .int .i64 k ∧ Up w wr ∧ ∀ j (h : j < l.length), j < k → p l[j] = false

set_option maxRecDepth 100000 in
set_option maxHeartbeats 400000 in
theorem indexF (v : Value) (l : List Itm) (w : World) (g : Nat) (lb : Array Value) (p : Itm → Bool) (eg : ∀ args w, (callFunc g args).run Try.prog w = .ok (.enter g args) w) (h : Items w v l) (hp : Pred w g lb p) :
    Calls Try.prog 69 #[v, .func (.func g) #[] lb] w fun e w' => e = .returned (.int .i64 (ixI p l)) ∧ Up w w' := by
  obtain ⟨o, c, rfl, h2, h3, h4⟩ := h
  unfold maxLen at h3
  have H4 := Lib.hid h4
  have HP := Lib.hid hp
  clear h4 hp
  obtain ⟨R, hR⟩ : ∃ R, ixI p l = R := ⟨_, rfl⟩
  rw [hR]
  have HR := Lib.hid hR
  clear hR
  go_enter Try.func69, Try.ntmps69
  go_wp2_with fail
  go_loopw [5, 8] (fun _ i wr => IxRel p l w i wr) (fun _ i _ => l.length - (intOf i).toNat)
  case atStart => exact ⟨0, Nat.zero_le _, rfl, Up.refl w, fun j _ hj => by omega⟩
  case round =>
    obtain ⟨k, hk, rfl, hu, hno⟩ := hrel
    by_cases hlt : k < l.length
    · rcases H4.out with h5 | ⟨b, off, rfl, h5⟩
      · rw [h5] at hlt; simp at hlt
      · obtain ⟨a1, a2, a3, a4⟩ := h5 k hlt
        rw [← hu.cell (World.block_lt_of_cell? w _ a1)] at a1
        rw [← hu.cell (World.block_lt_of_cell? w _ a2)] at a2
        rw [← hu.cell (World.block_lt_of_cell? w _ a3)] at a3
        rw [← hu.cell (World.block_lt_of_cell? w _ a4)] at a4
        have hcall := HP.out wr hu l[k]
        have HU := Lib.hid hu
        have HN := Lib.hid hno
        have d1 : decide (k < l.length) = true := decide_eq_true hlt
        obtain ⟨P, hP⟩ : ∃ P, p l[k] = P := ⟨_, rfl⟩
        rw [hP] at hcall
        have HPP := Lib.hid hP
        unfold itV at hcall
        generalize l[k].s = xs at a1 hcall
        generalize l[k].n = xn at a2 hcall
        generalize l[k].t = xt at a3 hcall
        generalize l[k].r = xr at a4 hcall
        clear h5 hu hno hP
        cases P with
        | true =>
          go_wp2_with (go_at_fn g; refine hcall.mono ?_; rintro e w1 ⟨rfl, u1⟩)
          go_ret
          refine ⟨?_, HU.out.trans u1⟩
          rw [← HR.out]
          unfold ixI
          rw [idx_of hlt HPP.out (fun j hj => HN.out j (by omega) hj)]
          rfl
        | false =>
          go_wp2_with (go_at_fn g; refine hcall.mono ?_; rintro e w1 ⟨rfl, u1⟩)
          go_roundw
          case rel =>
            refine ⟨k + 1, by omega, by go_num, HU.out.trans u1, fun j hj hjk => ?_⟩
            by_cases e : j = k
            · subst e; exact HPP.out
            · exact HN.out j hj (by omega)
          case measure => simp only [intOf]; omega
    · have d1 : decide (k < l.length) = false := decide_eq_false hlt
      have HN := Lib.hid hno
      clear hno
      go_wp2_with fail
      go_ret
      refine ⟨?_, hu⟩
      rw [← HR.out]
      unfold ixI
      rw [idx_none.2 (fun x hx => by obtain ⟨i, hi, rfl⟩ := List.getElem_of_mem hx; exact HN.out i hi (by omega))]
      rfl

theorem ixI_any (p : Itm → Bool) (l : List Itm) : decide (0 ≤ ixI p l) = l.any p := by
  unfold ixI
  cases h : idx p l with
  | none =>
    have : l.any p = false := by
      rw [Bool.eq_false_iff]
      intro h'
      exact any_iff.1 h' h
    rw [this]; rfl
  | some i =>
    have : l.any p = true := any_iff.2 (by rw [h]; simp)
    rw [this]; simp

set_option maxRecDepth 100000 in
theorem containsF (v : Value) (l : List Itm) (w : World) (g : Nat) (lb : Array Value) (p : Itm → Bool) (eg : ∀ args w, (callFunc g args).run Try.prog w = .ok (.enter g args) w) (h : Items w v l) (hp : Pred w g lb p) :
    Calls Try.prog 81 #[v, .func (.func g) #[] lb] w fun e w' => e = .returned (.bool (l.any p)) ∧ Up w w' := by
  obtain ⟨o, c, hv, hc⟩ := h.slice
  rw [← ixI_any]
  have hcall := indexF v l w g lb p eg h hp
  generalize ixI p l = R at hcall ⊢
  subst hv
  clear h hp eg
  go_enter Try.func81, Try.ntmps81
  go_wp2_with fail
  refine hcall.mono ?_
  rintro e w1 ⟨rfl, u1⟩
  go_wp2_with fail
  go_ret
  exact ⟨rfl, u1⟩

/-! ytnmdfdkagkpcaaa# the predicates -/

theorem txt_eq (a b : List UInt8) : ((bs a).toList == (bs b).toList) = (a == b) := by
  rw [ByteArray.toList_eq, ByteArray.toList_eq, bs_list, bs_list]

theorem hasText_in (t : List UInt8) (B : Nat) (x : Itm) (W : World) (hB : B < W.heap.size) (hc : W.cell? ⟨B, 0, none⟩ = some (.string (bs t))) :
    Calls Try.prog 85 #[itV x, .pointer (some ⟨B, 0, none⟩)] W fun e w' => e = .returned (.bool (txtB t x)) ∧ Up W w' := by
  unfold itV
  have hq := txt_eq x.t t
  have hb : txtB t x = (x.t == t) := rfl
  rw [hb]
  generalize (x.t == t) = q at hq ⊢
  have hne : B ≠ W.heap.size := by omega
  clear hb
  go_enter Try.func85, Try.ntmps85
  go_wp2_with fail
  all_goals
    go_ret
    exact ⟨by simp_all, Up.alloc _ _⟩

theorem isBehind_in (a x : Itm) (B : Nat) (W : World) (hB : B < W.heap.size) (h0 : W.cell? ⟨B, 0, none⟩ = some (.int .i64 a.s)) (h1 : W.cell? ⟨B, 1, none⟩ = some (.int .i64 a.n)) :
    Calls Try.prog 90 #[itV x, .pointer (some ⟨B, 0, none⟩)] W fun e w' => e = .returned (.bool (behB a x)) ∧ Up W w' := by
  unfold itV behB
  generalize a.s = sa at h0 ⊢
  generalize a.n = an at h1 ⊢
  generalize x.s = xs
  generalize x.n = xn
  have hne : B ≠ W.heap.size := by omega
  by_cases c1 : sa < xs
  · have d1 : decide (sa < xs) = true := decide_eq_true c1
    go_enter Try.func90, Try.ntmps90
    go_wp2_with fail
    go_ret
    exact ⟨by simp [d1], Up.alloc _ _⟩
  · have d1 : decide (sa < xs) = false := decide_eq_false c1
    by_cases c2 : xs = sa
    · subst c2
      by_cases c3 : an < xn
      · have d3 : decide (an < xn) = true := decide_eq_true c3
        go_enter Try.func90, Try.ntmps90
        go_wp2_with fail
        go_ret
        exact ⟨by simp, Up.alloc _ _⟩
      · have d3 : decide (an < xn) = false := decide_eq_false c3
        go_enter Try.func90, Try.ntmps90
        go_wp2_with fail
        go_ret
        exact ⟨by simp, Up.alloc _ _⟩
    · have d2 : (xs == sa) = false := by simpa using c2
      go_enter Try.func90, Try.ntmps90
      go_wp2_with fail
      go_ret
      exact ⟨by simp, Up.alloc _ _⟩

/-- a block of three cells -/
def BoxI (W : World) (B : Nat) (t : TypeId) (x y z : Value) : Prop := W.heap[B]? = some (.cells #[x, y, z] t (0, 0))

theorem BoxI.cells {W : World} {B : Nat} {t : TypeId} {x y z : Value} (h : BoxI W B t x y z) : W.cell? ⟨B, 0, none⟩ = some x ∧ W.cell? ⟨B, 1, none⟩ = some y ∧ W.cell? ⟨B, 2, none⟩ = some z :=
  ⟨cell_of_row _ _ 0 _ _ _ h, cell_of_row _ _ 1 _ _ _ h, cell_of_row _ _ 2 _ _ _ h⟩
theorem BoxI.new (W : World) (t : TypeId) (x y z : Value) : BoxI (W.alloc (.cells #[x, y, z] t)) W.heap.size t x y z := heap_alloc_new W _
theorem BoxI.below {W W' : World} {n B : Nat} {t : TypeId} {x y z : Value} (h : BoxI W B t x y z) (hb : Below n W W') (hB : B < n) : BoxI W' B t x y z := (hb.block B hB).trans h
theorem BoxI.lt {W : World} {B : Nat} {t : TypeId} {x y z : Value} (h : BoxI W B t x y z) : B < W.heap.size := (Array.getElem?_eq_some_iff.1 h).1
theorem BoxI.up {W W' : World} {B : Nat} {t : TypeId} {x y z : Value} (h : BoxI W B t x y z) (hb : Up W W') : BoxI W' B t x y z := h.below hb h.lt
theorem BoxI.frozen {W : World} {B : Nat} {t : TypeId} {x y z : Value} (h : BoxI W B t x y z) (k : Nat) : W.frozen? ⟨B, k, none⟩ = false := by
  unfold BoxI at h; simp [World.frozen?, h]
theorem BoxI.set {W : World} {B : Nat} {t : TypeId} {x y z : Value} (h : BoxI W B t x y z) (x' y' z' : Value) : BoxI (((W.setCell ⟨B, 0, none⟩ x').setCell ⟨B, 1, none⟩ y').setCell ⟨B, 2, none⟩ z') B t x' y' z' := by
  unfold BoxI at h ⊢
  simp [World.setCell, Array.getElem?_modify, h]

/-- the cells of a struct result of three cells, set -/
theorem set_boxI (w w1 : World) (t : TypeId) (x y z x' y' z' : Value) (u : Up (w.alloc (.cells #[x, y, z] t)) w1) :
    (∃ w2, ((w1.setCell ⟨w.heap.size, 0, none⟩ x').setCell ⟨w.heap.size, 1, none⟩ y').setCell ⟨w.heap.size, 2, none⟩ z' = w2 ∧ BoxI w2 w.heap.size t x' y' z' ∧ Up w w2 ∧ Below w.heap.size w1 w2 ∧ (∀ b, b ≠ w.heap.size → w2.heap[b]? = w1.heap[b]?)) ∧
    BoxI w1 w.heap.size t x y z := by
  have hbx : BoxI w1 w.heap.size t x y z := BoxI.below (BoxI.new w _ _ _ _) u (by simp)
  have U1 := Up.after _ _ _ u
  have hb2 := hbx.set x' y' z'
  have hu1 : ∀ w0, Below w.heap.size w0 w1 → Below w.heap.size w0 (((w1.setCell ⟨w.heap.size, 0, none⟩ x').setCell ⟨w.heap.size, 1, none⟩ y').setCell ⟨w.heap.size, 2, none⟩ z') := fun w0 h0 => ((Below.setCell h0 (p := ⟨w.heap.size, 0, none⟩) (Nat.le_refl _) _).setCell (p := ⟨w.heap.size, 1, none⟩) (Nat.le_refl _) _).setCell (p := ⟨w.heap.size, 2, none⟩) (Nat.le_refl _) _
  refine ⟨⟨_, rfl, hb2, hu1 w U1, hu1 w1 (Below.refl _ _), fun b hb => ?_⟩, hbx⟩
  simp [World.setCell, Array.getElem?_modify, Ne.symm hb]

theorem identifier_any (x : Itm) (W : World) : Calls Try.prog 62 #[itV x] W fun e w' => e = .returned (idV (idOf x)) ∧ Up W w' := by
  have hv : idV (idOf x) = .agg #[.bool true, .int .i64 x.s, .int .i64 x.n] := rfl
  rw [hv]
  clear hv
  unfold itV
  generalize x.s = xs
  generalize x.n = xn
  generalize bs x.t = xt
  generalize x.r = xr
  go_enter Try.func62, Try.ntmps62
  go_wp2_with fail
  exact bodyPost_ret (v := .agg #[.bool true, .int .i64 xs, .int .i64 xn]) (by simp [results, Try.results62, go_sem]) rfl ⟨rfl, (Up.alloc _ _).trans (Up.alloc _ _)⟩

end Go.Proofs.Ytnmdfdkagkpcaaa

/-
  What hasId, hasText, isBehind (makers of predicates), fingerprint, checkItem and Check of package bag return. Conditions: as each says.
-/
namespace Go.Proofs.Ytnmdfdkagkpcaaa
open Go.RowKit
open Go.Proofs
open WoolBag

theorem hmf : ∀ (fn : Fn) (first cap : Array Value) (w : World), (Instr.makeFunc fn first cap).run Try.prog w = .ok (.func fn first cap) w := fun _ _ _ _ => rfl

set_option maxRecDepth 100000 in
theorem hasId_in (i : Bool × Int × Int) (B : Nat) (x : Itm) (W : World) (hB : B < W.heap.size) (h0 : W.cell? ⟨B, 0, none⟩ = some (.bool i.1)) (h1 : W.cell? ⟨B, 1, none⟩ = some (.int .i64 i.2.1)) (h2 : W.cell? ⟨B, 2, none⟩ = some (.int .i64 i.2.2)) :
    Calls Try.prog 92 #[itV x, .pointer (some ⟨B, 0, none⟩)] W fun e w' => e = .returned (.bool (idB i x)) ∧ Up W w' := by
  obtain ⟨b, σ, ν⟩ := i
  simp only at h0 h1 h2
  have hid := identifier_any x
  have hv : idV (idOf x) = .agg #[.bool true, .int .i64 x.s, .int .i64 x.n] := rfl
  have hq : idB (b, σ, ν) x = (b && (x.s == σ) && (x.n == ν)) := rfl
  rw [hq]
  unfold itV at hid ⊢
  simp only [hv] at hid
  generalize x.s = xs at *
  generalize x.n = xn at *
  generalize bs x.t = xt at *
  generalize x.r = xr at *
  have hne : B ≠ W.heap.size := by omega
  clear hv hq
  have q0 := World.cell?_alloc_new W #[.int .i64 xs, .int .i64 xn, .string xt, .int .i64 xr] 60 0
  have q1 := World.cell?_alloc_new W #[.int .i64 xs, .int .i64 xn, .string xt, .int .i64 xr] 60 1
  have q2 := World.cell?_alloc_new W #[.int .i64 xs, .int .i64 xn, .string xt, .int .i64 xr] 60 2
  have q3 := World.cell?_alloc_new W #[.int .i64 xs, .int .i64 xn, .string xt, .int .i64 xr] 60 3
  have q4 : W.heap.size < (W.alloc (.cells #[.int .i64 xs, .int .i64 xn, .string xt, .int .i64 xr] 60)).heap.size := by simp
  have r0 := (Below.cell (Up.alloc W (.cells #[.int .i64 xs, .int .i64 xn, .string xt, .int .i64 xr] 60)) (p := ⟨B, 0, none⟩) hB).trans h0
  have r1 := (Below.cell (Up.alloc W (.cells #[.int .i64 xs, .int .i64 xn, .string xt, .int .i64 xr] 60)) (p := ⟨B, 1, none⟩) hB).trans h1
  have r2 := (Below.cell (Up.alloc W (.cells #[.int .i64 xs, .int .i64 xn, .string xt, .int .i64 xr] 60)) (p := ⟨B, 2, none⟩) hB).trans h2
  clear h0 h1 h2
  have HID := Lib.hid hid
  clear hid
  cases b with
  | false =>
    go_enter Try.func92, Try.ntmps92
    go_wp2_with fail
    go_region_held3 (fun U => (U.cell? ⟨W.heap.size, 0, none⟩ = some (.int .i64 xs) ∧ U.cell? ⟨W.heap.size, 1, none⟩ = some (.int .i64 xn) ∧ U.cell? ⟨W.heap.size, 2, none⟩ = some (.string xt) ∧ U.cell? ⟨W.heap.size, 3, none⟩ = some (.int .i64 xr)) ∧ U.cell? ⟨B, 0, none⟩ = some (.bool false) ∧ U.cell? ⟨B, 1, none⟩ = some (.int .i64 σ) ∧ U.cell? ⟨B, 2, none⟩ = some (.int .i64 ν)) (go_keep)
      ((go_at_call 62; ((with_reducible refine (HID.out _).mono ?_); rintro e w4 ⟨rfl, u4⟩; have f0 := (Below.cell u4 (p := ⟨W.heap.size, 0, none⟩) q4).trans q0; have f1 := (Below.cell u4 (p := ⟨W.heap.size, 1, none⟩) q4).trans q1; have f2 := (Below.cell u4 (p := ⟨W.heap.size, 2, none⟩) q4).trans q2; have f3 := (Below.cell u4 (p := ⟨W.heap.size, 3, none⟩) q4).trans q3; have g0 := (Below.cell u4 (p := ⟨B, 0, none⟩) (Nat.lt_trans hB q4)).trans r0; have g1 := (Below.cell u4 (p := ⟨B, 1, none⟩) (Nat.lt_trans hB q4)).trans r1; have g2 := (Below.cell u4 (p := ⟨B, 2, none⟩) (Nat.lt_trans hB q4)).trans r2)))
    all_goals
      go_wp2_with fail
      go_ret
      exact ⟨by simp, (Up.alloc _ _).trans ((Up.drew _).trans u4)⟩
  | true =>
    cases d1 : (xs == σ) with
    | false =>
      go_enter Try.func92, Try.ntmps92
      go_wp2_with fail
      go_region_held3 (fun U => (U.cell? ⟨W.heap.size, 0, none⟩ = some (.int .i64 xs) ∧ U.cell? ⟨W.heap.size, 1, none⟩ = some (.int .i64 xn) ∧ U.cell? ⟨W.heap.size, 2, none⟩ = some (.string xt) ∧ U.cell? ⟨W.heap.size, 3, none⟩ = some (.int .i64 xr)) ∧ U.cell? ⟨B, 0, none⟩ = some (.bool true) ∧ U.cell? ⟨B, 1, none⟩ = some (.int .i64 σ) ∧ U.cell? ⟨B, 2, none⟩ = some (.int .i64 ν)) (go_keep)
        ((go_at_call 62; ((with_reducible refine (HID.out _).mono ?_); rintro e w4 ⟨rfl, u4⟩; have f0 := (Below.cell u4 (p := ⟨W.heap.size, 0, none⟩) q4).trans q0; have f1 := (Below.cell u4 (p := ⟨W.heap.size, 1, none⟩) q4).trans q1; have f2 := (Below.cell u4 (p := ⟨W.heap.size, 2, none⟩) q4).trans q2; have f3 := (Below.cell u4 (p := ⟨W.heap.size, 3, none⟩) q4).trans q3; have g0 := (Below.cell u4 (p := ⟨B, 0, none⟩) (Nat.lt_trans hB q4)).trans r0; have g1 := (Below.cell u4 (p := ⟨B, 1, none⟩) (Nat.lt_trans hB q4)).trans r1; have g2 := (Below.cell u4 (p := ⟨B, 2, none⟩) (Nat.lt_trans hB q4)).trans r2)))
      all_goals
        go_wp2_with fail
        go_ret
        exact ⟨by simp, (Up.alloc _ _).trans ((Up.drew _).trans u4)⟩
    | true =>
      cases d2 : (xn == ν) with
      | false =>
        go_enter Try.func92, Try.ntmps92
        go_wp2_with fail
        go_region_held3 (fun U => (U.cell? ⟨W.heap.size, 0, none⟩ = some (.int .i64 xs) ∧ U.cell? ⟨W.heap.size, 1, none⟩ = some (.int .i64 xn) ∧ U.cell? ⟨W.heap.size, 2, none⟩ = some (.string xt) ∧ U.cell? ⟨W.heap.size, 3, none⟩ = some (.int .i64 xr)) ∧ U.cell? ⟨B, 0, none⟩ = some (.bool true) ∧ U.cell? ⟨B, 1, none⟩ = some (.int .i64 σ) ∧ U.cell? ⟨B, 2, none⟩ = some (.int .i64 ν)) (go_keep)
          ((go_at_call 62; ((with_reducible refine (HID.out _).mono ?_); rintro e w4 ⟨rfl, u4⟩; have f0 := (Below.cell u4 (p := ⟨W.heap.size, 0, none⟩) q4).trans q0; have f1 := (Below.cell u4 (p := ⟨W.heap.size, 1, none⟩) q4).trans q1; have f2 := (Below.cell u4 (p := ⟨W.heap.size, 2, none⟩) q4).trans q2; have f3 := (Below.cell u4 (p := ⟨W.heap.size, 3, none⟩) q4).trans q3; have g0 := (Below.cell u4 (p := ⟨B, 0, none⟩) (Nat.lt_trans hB q4)).trans r0; have g1 := (Below.cell u4 (p := ⟨B, 1, none⟩) (Nat.lt_trans hB q4)).trans r1; have g2 := (Below.cell u4 (p := ⟨B, 2, none⟩) (Nat.lt_trans hB q4)).trans r2)))
        all_goals
          go_wp2_with fail
          go_ret
          exact ⟨by simp, (Up.alloc _ _).trans ((Up.drew _).trans u4)⟩
      | true =>
        go_enter Try.func92, Try.ntmps92
        go_wp2_with fail
        go_region_held3 (fun U => (U.cell? ⟨W.heap.size, 0, none⟩ = some (.int .i64 xs) ∧ U.cell? ⟨W.heap.size, 1, none⟩ = some (.int .i64 xn) ∧ U.cell? ⟨W.heap.size, 2, none⟩ = some (.string xt) ∧ U.cell? ⟨W.heap.size, 3, none⟩ = some (.int .i64 xr)) ∧ U.cell? ⟨B, 0, none⟩ = some (.bool true) ∧ U.cell? ⟨B, 1, none⟩ = some (.int .i64 σ) ∧ U.cell? ⟨B, 2, none⟩ = some (.int .i64 ν)) (go_keep)
          ((go_at_call 62; ((with_reducible refine (HID.out _).mono ?_); rintro e w4 ⟨rfl, u4⟩; have f0 := (Below.cell u4 (p := ⟨W.heap.size, 0, none⟩) q4).trans q0; have f1 := (Below.cell u4 (p := ⟨W.heap.size, 1, none⟩) q4).trans q1; have f2 := (Below.cell u4 (p := ⟨W.heap.size, 2, none⟩) q4).trans q2; have f3 := (Below.cell u4 (p := ⟨W.heap.size, 3, none⟩) q4).trans q3; have g0 := (Below.cell u4 (p := ⟨B, 0, none⟩) (Nat.lt_trans hB q4)).trans r0; have g1 := (Below.cell u4 (p := ⟨B, 1, none⟩) (Nat.lt_trans hB q4)).trans r1; have g2 := (Below.cell u4 (p := ⟨B, 2, none⟩) (Nat.lt_trans hB q4)).trans r2)))
        all_goals
          go_wp2_with fail
          go_ret
          exact ⟨by simp, (Up.alloc _ _).trans ((Up.drew _).trans u4)⟩

/-- what a maker of predicates leaves -/
def MakePost (w : World) (g : Nat) (p : Itm → Bool) (e : Ending) (w' : World) : Prop := ∃ lb, e = .returned (.func (.func g) #[] lb) ∧ Up w w' ∧ Pred w' g lb p

theorem hasText_make (t : List UInt8) (w : World) : Calls Try.prog 70 #[.string (bs t)] w (MakePost w 85 (txtB t)) := by
  have h := hmf
  go_enter Try.func70, Try.ntmps70
  go_wp2_with fail
  go_ret
  refine ⟨_, rfl, Up.alloc _ _, fun W hu x => ?_⟩
  have q0 := World.cell?_alloc_new w #[.string (bs t)] 9 0
  have hB : w.heap.size < (w.alloc (.cells #[.string (bs t)] 9)).heap.size := by simp
  exact hasText_in t w.heap.size x W (Nat.lt_of_lt_of_le hB hu.size) ((hu.cell (p := ⟨w.heap.size, 0, none⟩) hB).trans q0)

theorem isBehind_make (a : Itm) (w : World) : Calls Try.prog 80 #[itV a] w (MakePost w 90 (behB a)) := by
  have h := hmf
  unfold itV
  go_enter Try.func80, Try.ntmps80
  go_wp2_with fail
  go_ret
  refine ⟨_, rfl, Up.alloc _ _, fun W hu x => ?_⟩
  have q0 := World.cell?_alloc_new w #[.int .i64 a.s, .int .i64 a.n, .string (bs a.t), .int .i64 a.r] 60 0
  have q1 := World.cell?_alloc_new w #[.int .i64 a.s, .int .i64 a.n, .string (bs a.t), .int .i64 a.r] 60 1
  have hB : w.heap.size < (w.alloc (.cells #[.int .i64 a.s, .int .i64 a.n, .string (bs a.t), .int .i64 a.r] 60)).heap.size := by simp
  exact isBehind_in a x w.heap.size W (Nat.lt_of_lt_of_le hB hu.size) ((hu.cell (p := ⟨w.heap.size, 0, none⟩) hB).trans q0) ((hu.cell (p := ⟨w.heap.size, 1, none⟩) hB).trans q1)

theorem hasId_make (i : Bool × Int × Int) (w : World) : Calls Try.prog 86 #[idV i] w (MakePost w 92 (idB i)) := by
  have h := hmf
  unfold idV
  go_enter Try.func86, Try.ntmps86
  go_wp2_with fail
  go_ret
  refine ⟨_, rfl, Up.alloc _ _, fun W hu x => ?_⟩
  have q0 := World.cell?_alloc_new w #[.bool i.1, .int .i64 i.2.1, .int .i64 i.2.2] 51 0
  have q1 := World.cell?_alloc_new w #[.bool i.1, .int .i64 i.2.1, .int .i64 i.2.2] 51 1
  have q2 := World.cell?_alloc_new w #[.bool i.1, .int .i64 i.2.1, .int .i64 i.2.2] 51 2
  have hB : w.heap.size < (w.alloc (.cells #[.bool i.1, .int .i64 i.2.1, .int .i64 i.2.2] 51)).heap.size := by simp
  exact hasId_in i w.heap.size x W (Nat.lt_of_lt_of_le hB hu.size) ((hu.cell (p := ⟨w.heap.size, 0, none⟩) hB).trans q0) ((hu.cell (p := ⟨w.heap.size, 1, none⟩) hB).trans q1) ((hu.cell (p := ⟨w.heap.size, 2, none⟩) hB).trans q2)

theorem eg_text : ∀ args w, (callFunc 85 args).run Try.prog w = .ok (.enter 85 args) w := enters_of Try.func85 (by kernel_rfl) rfl
theorem eg_beh : ∀ args w, (callFunc 90 args).run Try.prog w = .ok (.enter 90 args) w := enters_of Try.func90 (by kernel_rfl) rfl
theorem eg_id : ∀ args w, (callFunc 92 args).run Try.prog w = .ok (.enter 92 args) w := enters_of Try.func92 (by kernel_rfl) rfl

/-- the fingerprint of a block -/
def FP (t : List UInt8) : Int := ((fp 65581 t : Nat) : Int)

theorem fingerprint_any (t : List UInt8) (w : World) (hl : t.length ≤ 64) :
    Calls Try.prog 79 #[.string (bs t)] w fun e w' => e = .returned (.int .i64 (FP t)) ∧ Up w w' := by
  have h := of_ok 65581 (bs t) w (by omega) (by omega) (by rw [bs_size]; omega)
  rw [bs_list] at h
  unfold FP
  generalize fp 65581 t = N at h ⊢
  go_enter Try.func79, Try.ntmps79
  go_wp2_with fail
  refine h.mono ?_
  rintro e w1 ⟨rfl, u1⟩
  go_wp2_with fail
  go_ret
  exact ⟨rfl, u1⟩

end Go.Proofs.Ytnmdfdkagkpcaaa
