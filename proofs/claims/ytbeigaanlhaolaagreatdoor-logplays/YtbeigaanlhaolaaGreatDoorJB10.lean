/-
  The texts Bag1, Bag2, VolA, one behind the other; each says below what it holds and on what conditions.
-/
import Derived.Test.YtbeigaanlhaolaaGreatDoorJB08
import Derived.Test.YtbeigaanlhaolaaGreatDoorJB09
import Derived.Deep.RegionHeld3
import Derived.BigRegion
import Derived.Shelf.Abstract
import Derived.Test.YtbeigaanlhaolaaGreatDoorJB06

/-
  What the predicates of package bag return; slices.IndexFunc and ContainsFunc over items by them; fingerprint and identifier. Conditions: as each says.
-/
namespace Go.Proofs.YtbeigaanlhaolaaGreatDoor
open Go.RowKit
open Go.Proofs
open WoolBag

/-- a function value that tells p of an item, in every world in which nothing that is in w has turned -/
def Pred (w : World) (g : Nat) (lb : Array Value) (p : Itm → Bool) : Prop :=
  ∀ W, Up w W → ∀ x, Calls Tryz.prog g (#[itV x] ++ lb) W fun e w' => e = .returned (.bool (p x)) ∧ Up W w'

def ixI (p : Itm → Bool) (l : List Itm) : Int := match idx p l with | some i => (i : Int) | none => -1

def IxRel (p : Itm → Bool) (l : List Itm) (w : World) (i : Value) (wr : World) : Prop :=
  ∃ k : Nat, k ≤ l.length ∧ i = .int .i64 k ∧ Up w wr ∧ ∀ j (h : j < l.length), j < k → p l[j] = false

set_option maxRecDepth 100000 in
set_option maxHeartbeats 400000 in
theorem indexF (v : Value) (l : List Itm) (w : World) (g : Nat) (lb : Array Value) (p : Itm → Bool) (eg : ∀ args w, (callFunc g args).run Tryz.prog w = .ok (.enter g args) w) (h : Items w v l) (hp : Pred w g lb p) :
    Calls Tryz.prog 128 #[v, .func (.func g) #[] lb] w fun e w' => e = .returned (.int .i64 (ixI p l)) ∧ Up w w' := by
  obtain ⟨o, c, rfl, h2, h3, h4⟩ := h
  unfold maxLen at h3
  have H4 := Lib.hid h4
  have HP := Lib.hid hp
  clear h4 hp
  obtain ⟨R, hR⟩ : ∃ R, ixI p l = R := ⟨_, rfl⟩
  rw [hR]
  have HR := Lib.hid hR
  clear hR
  go_enter Tryz.func128, Tryz.ntmps128
  go_wp2_with fail
  go_loopw [5, 8] (fun _ i wr => IxRel p l w i wr) (fun _ i _ => l.length - (intOf i).toNat)
  case atStart => exact ⟨0, Nat.zero_le _, rfl, Up.refl w, fun j _ hj => by omega⟩
  case round =>
    obtain ⟨k, hk, rfl, hu, hno⟩ := hrel
    by_cases hlt : k < l.length
    · rcases H4.out with h5 | ⟨b, off, rfl, h5⟩
      · rw [h5] at hlt; simp at hlt
      · obtain ⟨a1, a2, a3, a4⟩ := h5 k hlt
        rw [← hu.cell (World.block_lt_of_cell? w _ a1)] at a1
        rw [← hu.cell (World.block_lt_of_cell? w _ a2)] at a2
        rw [← hu.cell (World.block_lt_of_cell? w _ a3)] at a3
        rw [← hu.cell (World.block_lt_of_cell? w _ a4)] at a4
        have hcall := HP.out wr hu l[k]
        have HU := Lib.hid hu
        have HN := Lib.hid hno
        have d1 : decide (k < l.length) = true := decide_eq_true hlt
        obtain ⟨P, hP⟩ : ∃ P, p l[k] = P := ⟨_, rfl⟩
        rw [hP] at hcall
        have HPP := Lib.hid hP
        unfold itV at hcall
        generalize l[k].s = xs at a1 hcall
        generalize l[k].n = xn at a2 hcall
        generalize l[k].t = xt at a3 hcall
        generalize l[k].r = xr at a4 hcall
        clear h5 hu hno hP
        cases P with
        | true =>
          go_wp2_with (go_at_fn g; refine hcall.mono ?_; rintro e w1 ⟨rfl, u1⟩)
          go_ret
          refine ⟨?_, HU.out.trans u1⟩
          rw [← HR.out]
          unfold ixI
          rw [idx_of hlt HPP.out (fun j hj => HN.out j (by omega) hj)]
          rfl
        | false =>
          go_wp2_with (go_at_fn g; refine hcall.mono ?_; rintro e w1 ⟨rfl, u1⟩)
          go_roundw
          case rel =>
            refine ⟨k + 1, by omega, by go_num, HU.out.trans u1, fun j hj hjk => ?_⟩
            by_cases e : j = k
            · subst e; exact HPP.out
            · exact HN.out j hj (by omega)
          case measure => simp only [intOf]; omega
    · have d1 : decide (k < l.length) = false := decide_eq_false hlt
      have HN := Lib.hid hno
      clear hno
      go_wp2_with fail
      go_ret
      refine ⟨?_, hu⟩
      rw [← HR.out]
      unfold ixI
      rw [idx_none.2 (fun x hx => by obtain ⟨i, hi, rfl⟩ := List.getElem_of_mem hx; exact HN.out i hi (by omega))]
      rfl

theorem ixI_any (p : Itm → Bool) (l : List Itm) : decide (0 ≤ ixI p l) = l.any p := by
  unfold ixI
  cases h : idx p l with
  | none =>
    have : l.any p = false := by
      rw [Bool.eq_false_iff]
      intro h'
      exact any_iff.1 h' h
    rw [this]; rfl
  | some i =>
    have : l.any p = true := any_iff.2 (by rw [h]; simp)
    rw [this]; simp

set_option maxRecDepth 100000 in
theorem containsF (v : Value) (l : List Itm) (w : World) (g : Nat) (lb : Array Value) (p : Itm → Bool) (eg : ∀ args w, (callFunc g args).run Tryz.prog w = .ok (.enter g args) w) (h : Items w v l) (hp : Pred w g lb p) :
    Calls Tryz.prog 173 #[v, .func (.func g) #[] lb] w fun e w' => e = .returned (.bool (l.any p)) ∧ Up w w' := by
  obtain ⟨o, c, hv, hc⟩ := h.slice
  rw [← ixI_any]
  have hcall := indexF v l w g lb p eg h hp
  generalize ixI p l = R at hcall ⊢
  subst hv
  clear h hp eg
  go_enter Tryz.func173, Tryz.ntmps173
  go_wp2_with fail
  refine hcall.mono ?_
  rintro e w1 ⟨rfl, u1⟩
  go_wp2_with fail
  go_ret
  exact ⟨rfl, u1⟩

/-! ytbeigaanlhaolaagreatdoor# the predicates -/

theorem txt_eq (a b : List UInt8) : ((bs a).toList == (bs b).toList) = (a == b) := by
  rw [ByteArray.toList_eq, ByteArray.toList_eq, bs_list, bs_list]

theorem hasText_in (t : List UInt8) (B : Nat) (x : Itm) (W : World) (hB : B < W.heap.size) (hc : W.cell? ⟨B, 0, none⟩ = some (.string (bs t))) :
    Calls Tryz.prog 171 #[itV x, .pointer (some ⟨B, 0, none⟩)] W fun e w' => e = .returned (.bool (txtB t x)) ∧ Up W w' := by
  unfold itV
  have hq := txt_eq x.t t
  have hb : txtB t x = (x.t == t) := rfl
  rw [hb]
  generalize (x.t == t) = q at hq ⊢
  have hne : B ≠ W.heap.size := by omega
  clear hb
  go_enter Tryz.func171, Tryz.ntmps171
  go_wp2_with fail
  all_goals
    go_ret
    exact ⟨by simp_all, Up.alloc _ _⟩

theorem isBehind_in (a x : Itm) (B : Nat) (W : World) (hB : B < W.heap.size) (h0 : W.cell? ⟨B, 0, none⟩ = some (.int .i64 a.s)) (h1 : W.cell? ⟨B, 1, none⟩ = some (.int .i64 a.n)) :
    Calls Tryz.prog 185 #[itV x, .pointer (some ⟨B, 0, none⟩)] W fun e w' => e = .returned (.bool (behB a x)) ∧ Up W w' := by
  unfold itV behB
  generalize a.s = sa at h0 ⊢
  generalize a.n = an at h1 ⊢
  generalize x.s = xs
  generalize x.n = xn
  have hne : B ≠ W.heap.size := by omega
  by_cases c1 : sa < xs
  · have d1 : decide (sa < xs) = true := decide_eq_true c1
    go_enter Tryz.func185, Tryz.ntmps185
    go_wp2_with fail
    go_ret
    exact ⟨by simp [d1], Up.alloc _ _⟩
  · have d1 : decide (sa < xs) = false := decide_eq_false c1
    by_cases c2 : xs = sa
    · subst c2
      by_cases c3 : an < xn
      · have d3 : decide (an < xn) = true := decide_eq_true c3
        go_enter Tryz.func185, Tryz.ntmps185
        go_wp2_with fail
        go_ret
        exact ⟨by simp, Up.alloc _ _⟩
      · have d3 : decide (an < xn) = false := decide_eq_false c3
        go_enter Tryz.func185, Tryz.ntmps185
        go_wp2_with fail
        go_ret
        exact ⟨by simp, Up.alloc _ _⟩
    · have d2 : (xs == sa) = false := by simpa using c2
      go_enter Tryz.func185, Tryz.ntmps185
      go_wp2_with fail
      go_ret
      exact ⟨by simp, Up.alloc _ _⟩

/-- a block of three cells -/
def BoxI (W : World) (B : Nat) (t : TypeId) (x y z : Value) : Prop := W.heap[B]? = some (.cells #[x, y, z] t (0, 0))

theorem BoxI.cells {W : World} {B : Nat} {t : TypeId} {x y z : Value} (h : BoxI W B t x y z) : W.cell? ⟨B, 0, none⟩ = some x ∧ W.cell? ⟨B, 1, none⟩ = some y ∧ W.cell? ⟨B, 2, none⟩ = some z :=
  ⟨cell_of_row _ _ 0 _ _ _ h, cell_of_row _ _ 1 _ _ _ h, cell_of_row _ _ 2 _ _ _ h⟩
theorem BoxI.new (W : World) (t : TypeId) (x y z : Value) : BoxI (W.alloc (.cells #[x, y, z] t)) W.heap.size t x y z := heap_alloc_new W _
theorem BoxI.below {W W' : World} {n B : Nat} {t : TypeId} {x y z : Value} (h : BoxI W B t x y z) (hb : Below n W W') (hB : B < n) : BoxI W' B t x y z := (hb.block B hB).trans h
theorem BoxI.lt {W : World} {B : Nat} {t : TypeId} {x y z : Value} (h : BoxI W B t x y z) : B < W.heap.size := (Array.getElem?_eq_some_iff.1 h).1
theorem BoxI.up {W W' : World} {B : Nat} {t : TypeId} {x y z : Value} (h : BoxI W B t x y z) (hb : Up W W') : BoxI W' B t x y z := h.below hb h.lt
theorem BoxI.frozen {W : World} {B : Nat} {t : TypeId} {x y z : Value} (h : BoxI W B t x y z) (k : Nat) : W.frozen? ⟨B, k, none⟩ = false := by
  unfold BoxI at h; simp [World.frozen?, h]
theorem BoxI.set {W : World} {B : Nat} {t : TypeId} {x y z : Value} (h : BoxI W B t x y z) (x' y' z' : Value) : BoxI (((W.setCell ⟨B, 0, none⟩ x').setCell ⟨B, 1, none⟩ y').setCell ⟨B, 2, none⟩ z') B t x' y' z' := by
  unfold BoxI at h ⊢
  simp [World.setCell, Array.getElem?_modify, h]

theorem identifier_any (x : Itm) (W : World) : Calls Tryz.prog 134 #[itV x] W fun e w' => e = .returned (idV (idOf x)) ∧ Up W w' := by
  have hv : idV (idOf x) = .agg #[.bool true, .int .i64 x.s, .int .i64 x.n] := rfl
  rw [hv]
  clear hv
  unfold itV
  generalize x.s = xs
  generalize x.n = xn
  generalize bs x.t = xt
  generalize x.r = xr
  go_enter Tryz.func134, Tryz.ntmps134
  go_wp2_with fail
  exact bodyPost_ret (v := .agg #[.bool true, .int .i64 xs, .int .i64 xn]) (by simp [results, Tryz.results134, go_sem]) rfl ⟨rfl, (Up.alloc _ _).trans (Up.alloc _ _)⟩

end Go.Proofs.YtbeigaanlhaolaaGreatDoor

/-
  What hasId, hasText, isBehind (makers of predicates), fingerprint, checkItem and Check of package bag return. Conditions: as each says.
-/
namespace Go.Proofs.YtbeigaanlhaolaaGreatDoor
open Go.RowKit
open Go.Proofs
open WoolBag

theorem hmf : ∀ (fn : Fn) (first cap : Array Value) (w : World), (Instr.makeFunc fn first cap).run Tryz.prog w = .ok (.func fn first cap) w := fun _ _ _ _ => rfl

set_option maxRecDepth 100000 in
theorem hasId_in (i : Bool × Int × Int) (B : Nat) (x : Itm) (W : World) (hB : B < W.heap.size) (h0 : W.cell? ⟨B, 0, none⟩ = some (.bool i.1)) (h1 : W.cell? ⟨B, 1, none⟩ = some (.int .i64 i.2.1)) (h2 : W.cell? ⟨B, 2, none⟩ = some (.int .i64 i.2.2)) :
    Calls Tryz.prog 184 #[itV x, .pointer (some ⟨B, 0, none⟩)] W fun e w' => e = .returned (.bool (idB i x)) ∧ Up W w' := by
  obtain ⟨b, σ, ν⟩ := i
  simp only at h0 h1 h2
  have hid := identifier_any x
  have hv : idV (idOf x) = .agg #[.bool true, .int .i64 x.s, .int .i64 x.n] := rfl
  have hq : idB (b, σ, ν) x = (b && (x.s == σ) && (x.n == ν)) := rfl
  rw [hq]
  unfold itV at hid ⊢
  simp only [hv] at hid
  generalize x.s = xs at *
  generalize x.n = xn at *
  generalize bs x.t = xt at *
  generalize x.r = xr at *
  have hne : B ≠ W.heap.size := by omega
  clear hv hq
  have q0 := World.cell?_alloc_new W #[.int .i64 xs, .int .i64 xn, .string xt, .int .i64 xr] 89 0
  have q1 := World.cell?_alloc_new W #[.int .i64 xs, .int .i64 xn, .string xt, .int .i64 xr] 89 1
  have q2 := World.cell?_alloc_new W #[.int .i64 xs, .int .i64 xn, .string xt, .int .i64 xr] 89 2
  have q3 := World.cell?_alloc_new W #[.int .i64 xs, .int .i64 xn, .string xt, .int .i64 xr] 89 3
  have q4 : W.heap.size < (W.alloc (.cells #[.int .i64 xs, .int .i64 xn, .string xt, .int .i64 xr] 89)).heap.size := by simp
  have r0 := (Below.cell (Up.alloc W (.cells #[.int .i64 xs, .int .i64 xn, .string xt, .int .i64 xr] 89)) (p := ⟨B, 0, none⟩) hB).trans h0
  have r1 := (Below.cell (Up.alloc W (.cells #[.int .i64 xs, .int .i64 xn, .string xt, .int .i64 xr] 89)) (p := ⟨B, 1, none⟩) hB).trans h1
  have r2 := (Below.cell (Up.alloc W (.cells #[.int .i64 xs, .int .i64 xn, .string xt, .int .i64 xr] 89)) (p := ⟨B, 2, none⟩) hB).trans h2
  clear h0 h1 h2
  have HID := Lib.hid hid
  clear hid
  cases b with
  | false =>
    go_enter Tryz.func184, Tryz.ntmps184
    go_wp2_with fail
    go_region_held3 (fun U => (U.cell? ⟨W.heap.size, 0, none⟩ = some (.int .i64 xs) ∧ U.cell? ⟨W.heap.size, 1, none⟩ = some (.int .i64 xn) ∧ U.cell? ⟨W.heap.size, 2, none⟩ = some (.string xt) ∧ U.cell? ⟨W.heap.size, 3, none⟩ = some (.int .i64 xr)) ∧ U.cell? ⟨B, 0, none⟩ = some (.bool false) ∧ U.cell? ⟨B, 1, none⟩ = some (.int .i64 σ) ∧ U.cell? ⟨B, 2, none⟩ = some (.int .i64 ν)) (go_keep)
      ((go_at_call 134; ((with_reducible refine (HID.out _).mono ?_); rintro e w4 ⟨rfl, u4⟩; have f0 := (Below.cell u4 (p := ⟨W.heap.size, 0, none⟩) q4).trans q0; have f1 := (Below.cell u4 (p := ⟨W.heap.size, 1, none⟩) q4).trans q1; have f2 := (Below.cell u4 (p := ⟨W.heap.size, 2, none⟩) q4).trans q2; have f3 := (Below.cell u4 (p := ⟨W.heap.size, 3, none⟩) q4).trans q3; have g0 := (Below.cell u4 (p := ⟨B, 0, none⟩) (Nat.lt_trans hB q4)).trans r0; have g1 := (Below.cell u4 (p := ⟨B, 1, none⟩) (Nat.lt_trans hB q4)).trans r1; have g2 := (Below.cell u4 (p := ⟨B, 2, none⟩) (Nat.lt_trans hB q4)).trans r2)))
    all_goals
      go_wp2_with fail
      go_ret
      exact ⟨by simp, (Up.alloc _ _).trans ((Up.drew _).trans u4)⟩
  | true =>
    cases d1 : (xs == σ) with
    | false =>
      go_enter Tryz.func184, Tryz.ntmps184
      go_wp2_with fail
      go_region_held3 (fun U => (U.cell? ⟨W.heap.size, 0, none⟩ = some (.int .i64 xs) ∧ U.cell? ⟨W.heap.size, 1, none⟩ = some (.int .i64 xn) ∧ U.cell? ⟨W.heap.size, 2, none⟩ = some (.string xt) ∧ U.cell? ⟨W.heap.size, 3, none⟩ = some (.int .i64 xr)) ∧ U.cell? ⟨B, 0, none⟩ = some (.bool true) ∧ U.cell? ⟨B, 1, none⟩ = some (.int .i64 σ) ∧ U.cell? ⟨B, 2, none⟩ = some (.int .i64 ν)) (go_keep)
        ((go_at_call 134; ((with_reducible refine (HID.out _).mono ?_); rintro e w4 ⟨rfl, u4⟩; have f0 := (Below.cell u4 (p := ⟨W.heap.size, 0, none⟩) q4).trans q0; have f1 := (Below.cell u4 (p := ⟨W.heap.size, 1, none⟩) q4).trans q1; have f2 := (Below.cell u4 (p := ⟨W.heap.size, 2, none⟩) q4).trans q2; have f3 := (Below.cell u4 (p := ⟨W.heap.size, 3, none⟩) q4).trans q3; have g0 := (Below.cell u4 (p := ⟨B, 0, none⟩) (Nat.lt_trans hB q4)).trans r0; have g1 := (Below.cell u4 (p := ⟨B, 1, none⟩) (Nat.lt_trans hB q4)).trans r1; have g2 := (Below.cell u4 (p := ⟨B, 2, none⟩) (Nat.lt_trans hB q4)).trans r2)))
      all_goals
        go_wp2_with fail
        go_ret
        exact ⟨by simp, (Up.alloc _ _).trans ((Up.drew _).trans u4)⟩
    | true =>
      cases d2 : (xn == ν) with
      | false =>
        go_enter Tryz.func184, Tryz.ntmps184
        go_wp2_with fail
        go_region_held3 (fun U => (U.cell? ⟨W.heap.size, 0, none⟩ = some (.int .i64 xs) ∧ U.cell? ⟨W.heap.size, 1, none⟩ = some (.int .i64 xn) ∧ U.cell? ⟨W.heap.size, 2, none⟩ = some (.string xt) ∧ U.cell? ⟨W.heap.size, 3, none⟩ = some (.int .i64 xr)) ∧ U.cell? ⟨B, 0, none⟩ = some (.bool true) ∧ U.cell? ⟨B, 1, none⟩ = some (.int .i64 σ) ∧ U.cell? ⟨B, 2, none⟩ = some (.int .i64 ν)) (go_keep)
          ((go_at_call 134; ((with_reducible refine (HID.out _).mono ?_); rintro e w4 ⟨rfl, u4⟩; have f0 := (Below.cell u4 (p := ⟨W.heap.size, 0, none⟩) q4).trans q0; have f1 := (Below.cell u4 (p := ⟨W.heap.size, 1, none⟩) q4).trans q1; have f2 := (Below.cell u4 (p := ⟨W.heap.size, 2, none⟩) q4).trans q2; have f3 := (Below.cell u4 (p := ⟨W.heap.size, 3, none⟩) q4).trans q3; have g0 := (Below.cell u4 (p := ⟨B, 0, none⟩) (Nat.lt_trans hB q4)).trans r0; have g1 := (Below.cell u4 (p := ⟨B, 1, none⟩) (Nat.lt_trans hB q4)).trans r1; have g2 := (Below.cell u4 (p := ⟨B, 2, none⟩) (Nat.lt_trans hB q4)).trans r2)))
        all_goals
          go_wp2_with fail
          go_ret
          exact ⟨by simp, (Up.alloc _ _).trans ((Up.drew _).trans u4)⟩
      | true =>
        go_enter Tryz.func184, Tryz.ntmps184
        go_wp2_with fail
        go_region_held3 (fun U => (U.cell? ⟨W.heap.size, 0, none⟩ = some (.int .i64 xs) ∧ U.cell? ⟨W.heap.size, 1, none⟩ = some (.int .i64 xn) ∧ U.cell? ⟨W.heap.size, 2, none⟩ = some (.string xt) ∧ U.cell? ⟨W.heap.size, 3, none⟩ = some (.int .i64 xr)) ∧ U.cell? ⟨B, 0, none⟩ = some (.bool true) ∧ U.cell? ⟨B, 1, none⟩ = some (.int .i64 σ) ∧ U.cell? ⟨B, 2, none⟩ = some (.int .i64 ν)) (go_keep)
          ((go_at_call 134; ((with_reducible refine (HID.out _).mono ?_); rintro e w4 ⟨rfl, u4⟩; have f0 := (Below.cell u4 (p := ⟨W.heap.size, 0, none⟩) q4).trans q0; have f1 := (Below.cell u4 (p := ⟨W.heap.size, 1, none⟩) q4).trans q1; have f2 := (Below.cell u4 (p := ⟨W.heap.size, 2, none⟩) q4).trans q2; have f3 := (Below.cell u4 (p := ⟨W.heap.size, 3, none⟩) q4).trans q3; have g0 := (Below.cell u4 (p := ⟨B, 0, none⟩) (Nat.lt_trans hB q4)).trans r0; have g1 := (Below.cell u4 (p := ⟨B, 1, none⟩) (Nat.lt_trans hB q4)).trans r1; have g2 := (Below.cell u4 (p := ⟨B, 2, none⟩) (Nat.lt_trans hB q4)).trans r2)))
        all_goals
          go_wp2_with fail
          go_ret
          exact ⟨by simp, (Up.alloc _ _).trans ((Up.drew _).trans u4)⟩

/-- what a maker of predicates leaves -/
def MakePost (w : World) (g : Nat) (p : Itm → Bool) (e : Ending) (w' : World) : Prop := ∃ lb, e = .returned (.func (.func g) #[] lb) ∧ Up w w' ∧ Pred w' g lb p

theorem hasText_make (t : List UInt8) (w : World) : Calls Tryz.prog 129 #[.string (bs t)] w (MakePost w 171 (txtB t)) := by
  have h := hmf
  go_enter Tryz.func129, Tryz.ntmps129
  go_wp2_with fail
  go_ret
  refine ⟨_, rfl, Up.alloc _ _, fun W hu x => ?_⟩
  have q0 := World.cell?_alloc_new w #[.string (bs t)] 9 0
  have hB : w.heap.size < (w.alloc (.cells #[.string (bs t)] 9)).heap.size := by simp
  exact hasText_in t w.heap.size x W (Nat.lt_of_lt_of_le hB hu.size) ((hu.cell (p := ⟨w.heap.size, 0, none⟩) hB).trans q0)

theorem isBehind_make (a : Itm) (w : World) : Calls Tryz.prog 175 #[itV a] w (MakePost w 185 (behB a)) := by
  have h := hmf
  unfold itV
  go_enter Tryz.func175, Tryz.ntmps175
  go_wp2_with fail
  go_ret
  refine ⟨_, rfl, Up.alloc _ _, fun W hu x => ?_⟩
  have q0 := World.cell?_alloc_new w #[.int .i64 a.s, .int .i64 a.n, .string (bs a.t), .int .i64 a.r] 89 0
  have q1 := World.cell?_alloc_new w #[.int .i64 a.s, .int .i64 a.n, .string (bs a.t), .int .i64 a.r] 89 1
  have hB : w.heap.size < (w.alloc (.cells #[.int .i64 a.s, .int .i64 a.n, .string (bs a.t), .int .i64 a.r] 89)).heap.size := by simp
  exact isBehind_in a x w.heap.size W (Nat.lt_of_lt_of_le hB hu.size) ((hu.cell (p := ⟨w.heap.size, 0, none⟩) hB).trans q0) ((hu.cell (p := ⟨w.heap.size, 1, none⟩) hB).trans q1)

theorem hasId_make (i : Bool × Int × Int) (w : World) : Calls Tryz.prog 174 #[idV i] w (MakePost w 184 (idB i)) := by
  have h := hmf
  unfold idV
  go_enter Tryz.func174, Tryz.ntmps174
  go_wp2_with fail
  go_ret
  refine ⟨_, rfl, Up.alloc _ _, fun W hu x => ?_⟩
  have q0 := World.cell?_alloc_new w #[.bool i.1, .int .i64 i.2.1, .int .i64 i.2.2] 86 0
  have q1 := World.cell?_alloc_new w #[.bool i.1, .int .i64 i.2.1, .int .i64 i.2.2] 86 1
  have q2 := World.cell?_alloc_new w #[.bool i.1, .int .i64 i.2.1, .int .i64 i.2.2] 86 2
  have hB : w.heap.size < (w.alloc (.cells #[.bool i.1, .int .i64 i.2.1, .int .i64 i.2.2] 86)).heap.size := by simp
  exact hasId_in i w.heap.size x W (Nat.lt_of_lt_of_le hB hu.size) ((hu.cell (p := ⟨w.heap.size, 0, none⟩) hB).trans q0) ((hu.cell (p := ⟨w.heap.size, 1, none⟩) hB).trans q1) ((hu.cell (p := ⟨w.heap.size, 2, none⟩) hB).trans q2)

theorem eg_text : ∀ args w, (callFunc 171 args).run Tryz.prog w = .ok (.enter 171 args) w := enters_of Tryz.func171 (by kernel_rfl) rfl
theorem eg_beh : ∀ args w, (callFunc 185 args).run Tryz.prog w = .ok (.enter 185 args) w := enters_of Tryz.func185 (by kernel_rfl) rfl
theorem eg_id : ∀ args w, (callFunc 184 args).run Tryz.prog w = .ok (.enter 184 args) w := enters_of Tryz.func184 (by kernel_rfl) rfl

/-- the fingerprint of a block -/
def FP (t : List UInt8) : Int := ((fp 65581 t : Nat) : Int)

theorem fingerprint_any (t : List UInt8) (w : World) (hl : t.length ≤ 64) :
    Calls Tryz.prog 172 #[.string (bs t)] w fun e w' => e = .returned (.int .i64 (FP t)) ∧ Up w w' := by
  have h := of_ok 65581 (bs t) w (by omega) (by omega) (by rw [bs_size]; omega)
  rw [bs_list] at h
  unfold FP
  generalize fp 65581 t = N at h ⊢
  go_enter Tryz.func172, Tryz.ntmps172
  go_wp2_with fail
  refine h.mono ?_
  rintro e w1 ⟨rfl, u1⟩
  go_wp2_with fail
  go_ret
  exact ⟨rfl, u1⟩

end Go.Proofs.YtbeigaanlhaolaaGreatDoor

/-
  What vol's unused, count and checkBlock return. Conditions: as each says.
-/
namespace Go.Proofs.YtbeigaanlhaolaaGreatDoor
open Go.RowKit
open Go.Proofs
open Go.Maps
open WoolBag
open WoolVol

theorem grown_up {w w' : World} (h : Up w w') (r : Option Nat) : w.grownBy w' r := ⟨h.os, h.tape, h.output, h.size, fun k hk _ => h.block k hk⟩

theorem wf_small (z : Int) (h : -9223372036854775808 ≤ z ∧ z ≤ 9223372036854775807) : (Lit.int .i64 z).wf = true := WalkArith.wf_i64 h

theorem FP_le (t : List UInt8) : 0 ≤ FP t ∧ FP t < 1073741824 := by
  have := fp_le 65581 (by omega) (by omega) t
  unfold FP
  omega

/-- the identifiers of items fit -/
theorem wf_id {l : List Itm} (hb : Bag FP l) (k : Nat) (hk : k < l.length) : WfI (idOf l[k]) := by
  obtain ⟨_, h1, h2, h3, _⟩ := hb.ok _ (List.getElem_mem hk)
  have h4 := FP_le l[k].t
  refine ⟨wf_small _ ?_, wf_small _ ?_⟩
  · show _ ≤ l[k].s ∧ l[k].s ≤ _
    rw [h1]; omega
  · show _ ≤ l[k].n ∧ l[k].n ≤ _
    omega

def UnRel (l : List Itm) (w : World) (B : Nat) (i : Value) (wr : World) : Prop := ∃ k : Nat, k ≤ l.length ∧ i = .int .i64 k ∧ Uses wr B k (l.take k) [] ∧ Below B w wr

def UnPost (w : World) (l : List Itm) (e : Ending) (w' : World) : Prop := ∃ B, e = .returned (.map (some B)) ∧ w.heap.size ≤ B ∧ Uses w' B l.length l [] ∧ Up w w'

set_option maxRecDepth 100000 in
set_option maxHeartbeats 1000000 in
theorem unused_any (v : Value) (l : List Itm) (w : World) (h : Items w v l) (hb : Bag FP l) : Calls Tryz.prog 120 #[v] w (UnPost w l) := by
  obtain ⟨o, c, rfl, h2, h3, h4⟩ := h
  unfold maxLen at h3
  have H4 := Lib.hid h4
  have HB := Lib.hid hb
  have hl := hb.len
  clear h4 hb
  have hmm := @run_makeMap Tryz.prog
  go_enter Tryz.func120, Tryz.ntmps120
  go_wp2_with fail
  clear hmm
  go_loopw [9] (fun i wr => UnRel l w w.heap.size i wr) (fun i _ => l.length - (intOf i).toNat)
  case atStart => exact ⟨0, Nat.zero_le _, rfl, (MapF.made w).congr (fun _ => rfl) (fun _ => rfl), Up.alloc _ _⟩
  case round =>
    obtain ⟨k, hk, rfl, hus, hu⟩ := hrel
    by_cases hlt : k < l.length
    · rcases H4.out with h5 | ⟨b, off, rfl, h5⟩
      · rw [h5] at hlt; simp at hlt
      · obtain ⟨a1, a2, a3, a4⟩ := h5 k hlt
        rw [← hu.cell (World.block_lt_of_cell? w _ a1)] at a1
        rw [← hu.cell (World.block_lt_of_cell? w _ a2)] at a2
        rw [← hu.cell (World.block_lt_of_cell? w _ a3)] at a3
        rw [← hu.cell (World.block_lt_of_cell? w _ a4)] at a4
        have HWF := Lib.hid (wf_id HB.out k hlt)
        have HT : Hid (l.take (k + 1) = l.take k ++ [l[k]]) := List.take_succ_eq_append_getElem hlt
        have HID : Hid (∀ W, Calls Tryz.prog 134 #[.agg #[.int .i64 l[k].s, .int .i64 l[k].n, .string (bs l[k].t), .int .i64 l[k].r]] W fun e w' => e = .returned (idV (idOf l[k])) ∧ Up W w') := fun W => identifier_any l[k] W
        generalize l[k] = x at *
        have HU := Lib.hid hu
        have HUS := Lib.hid hus
        have d1 : decide (k < l.length) = true := decide_eq_true hlt
        obtain ⟨xs, xn, xt, xr⟩ := x
        simp only at a1 a2 a3 a4 HID
        clear h5 hu hus
        go_wp2_with fail
        refine (HID.out _).mono ?_
        rintro e w1 ⟨rfl, u1⟩
        have HUS1 : Hid (Uses w1 w.heap.size k (l.take k) []) := (HUS.out.up (Up.alloc _ _)).up u1
        have HU1 : Hid (Up w w1) := (show Up w wr from HU.out).trans ((Up.alloc _ _).trans u1)
        clear u1
        go_wp2_with (at_mapUpdate; refine wp_store rfl _ _ _ rfl w.heap.size k _ _ rfl HUS1.out (by unfold maxLen; omega) (idOf ⟨xs, xn, xt, xr⟩) HWF.out 0 (by decide) rfl rfl ?_; intro w2 hm2 hg2)
        go_roundw
        case rel => exact ⟨k + 1, by omega, by go_num, by rw [HT.out]; exact Uses.start hm2, Below.grown HU1.out hg2 HU1.out.size (fun j hj => by cases hj; exact Nat.le_refl _)⟩
        case measure => simp only [intOf]; omega
    · have d1 : decide (k < l.length) = false := decide_eq_false hlt
      have hke : k = l.length := by omega
      subst hke
      rw [List.take_length] at hus
      have HUS := Lib.hid hus
      have HU := Lib.hid hu
      clear hus hu
      go_wp2_with fail
      go_ret
      exact ⟨w.heap.size, rfl, Nat.le_refl _, HUS.out, HU.out⟩

set_option maxRecDepth 100000 in
set_option maxHeartbeats 1000000 in
theorem count_any (i : Idn) (B n : Nat) (l : List Itm) (all : List Idn) (w : World) (hU : Uses w B n l all) (hn : n < maxLen) (hi : WfI i) (hin : i.1 = true → l.any (idB i) = true) (hall : all.length ≤ 100000) :
    Calls Tryz.prog 133 #[idV i, .map (some B)] w fun e w' => e = .returned (.tuple #[]) ∧ Uses w' B (n + 1) l (all ++ [i]) ∧ w.grownBy w' (some B) := by
  obtain ⟨b, s, m⟩ := i
  cases b with
  | false =>
    unfold idV
    simp only
    go_enter Tryz.func133, Tryz.ntmps133
    go_wp2_with fail
    go_end0
    exact ⟨rfl, (Uses.hole rfl (MapF.mono (hU.up (Up.alloc _ _)) (Nat.le_succ _))), (World.grownBy_alloc w _ _)⟩
  | true =>
    have hany := hin rfl
    have hA := (hU.up (Up.alloc w (.cells #[.bool true, .int .i64 s, .int .i64 m] 86))).up (Up.drew _)
    obtain ⟨st, h1, h2, h3, h4⟩ := MapF.inc hA hn (true, s, m) hi (by unfold hasU; exact hany)
    have hc : useU l all (true, s, m) = cnt all (true, s, m) := by unfold useU; rw [if_pos hany]
    rw [hc] at h1 h2 h3
    have hc1 := cnt_nonneg all (true, s, m)
    have hc2 := cnt_le all (true, s, m)
    obtain ⟨z, hz⟩ : ∃ z, cnt all (true, s, m) = z := ⟨_, rfl⟩
    have hw : IntKind.i64.wrap (cnt all (true, s, m) + 1) = cnt all (true, s, m) + 1 := IntWalk.i64_in _ (by omega)
    obtain ⟨w', h5, h6, h7⟩ := h4 (cnt all (true, s, m) + 1) (wf_small _ (by omega))
    have HM : Hid (Uses w' B (n + 1) l (all ++ [(true, s, m)])) := Uses.more hany h6
    have HG : Hid (w.grownBy w' (some B)) := (grown_up ((Up.alloc w _).trans (Up.drew _)) _).trans h7
    rw [hz] at h1 h2 hw h5
    unfold idV at h1 h2 ⊢
    unfold goInt at h1 h5
    simp only at h1 h2 ⊢
    clear h3 h4 h6 h7 hc hz hc1 hc2 hA hU hin hany
    go_enter Tryz.func133, Tryz.ntmps133
    go_wp2_with fail
    go_region
    all_goals
      go_end0
      exact ⟨rfl, HM.out, HG.out⟩

set_option maxRecDepth 100000 in
set_option maxHeartbeats 1000000 in
theorem checkBlock_any (i : Idn) (B n : Nat) (l : List Itm) (all : List Idn) (w : World) (hU : Uses w B n l all) (hi : WfI i) :
    Calls Tryz.prog 166 #[idV i, .map (some B)] w fun e w' => e = .returned (.int .i64 (errB l i)) ∧ Up w w' := by
  obtain ⟨b, s, m⟩ := i
  have HUS := Lib.hid hU
  have HWF := Lib.hid hi
  have he : errB l (b, s, m) = if !b && !(((b, s, m) : Idn) == noId) then 3 else if b && !(hasU l (b, s, m)) then 4 else 0 := rfl
  cases b with
  | false =>
    have e2 : (((false, s, m) : Idn) == noId) = ((s == 0) && (m == 0)) := by
      unfold noId
      rw [Bool.eq_iff_iff]
      simp
    rw [e2] at he
    obtain ⟨E, hE⟩ : ∃ E, errB l (false, s, m) = E := ⟨_, rfl⟩
    rw [hE] at he ⊢
    have hno : hasU l (false, s, m) = false := by
      unfold hasU
      rw [List.any_eq_false]
      intro x _
      unfold idB
      simp
    by_cases hz : s = 0 ∧ m = 0
    · obtain ⟨rfl, rfl⟩ := hz
      have HE := Lib.hid he
      have HH := Lib.hid hno
      clear he hE e2 hU hi hno
      unfold idV
      simp only
      go_enter Tryz.func166, Tryz.ntmps166
      go_wp2_with (at_lookup; refine wp_look_ok rfl _ _ rfl B n _ _ rfl (HUS.out.up (by first | exact Up.alloc _ _ | exact (Up.alloc _ _).trans (Up.alloc _ _))) (false, 0, 0) HWF.out rfl ?_; rw [HH.out])
      go_ret
      exact ⟨by rw [HE.out]; rfl, by first | exact Up.alloc _ _ | exact (Up.alloc _ _).trans (Up.alloc _ _)⟩
    · have hz2 : ((s == 0) && (m == 0)) = false := by
        rw [Bool.and_eq_false_iff]
        by_cases h0 : s = 0
        · right; simp; intro h1; exact hz ⟨h0, h1⟩
        · left; simpa using h0
      rw [hz2] at he
      have HE := Lib.hid he
      clear he hE e2 hU hi hno HUS HWF
      unfold idV
      simp only
      go_enter Tryz.func166, Tryz.ntmps166
      go_wp2_with fail
      all_goals
        first
        | (exfalso; omega)
        | (go_ret; exact ⟨by rw [HE.out]; rfl, Up.alloc _ _⟩)
  | true =>
    obtain ⟨E, hE⟩ : ∃ E, errB l (true, s, m) = E := ⟨_, rfl⟩
    rw [hE] at he ⊢
    cases hh : hasU l (true, s, m) with
    | false =>
      rw [hh] at he
      have HE := Lib.hid he
      have HH := Lib.hid hh
      clear he hE hU hi hh
      unfold idV
      simp only
      go_enter Tryz.func166, Tryz.ntmps166
      go_wp2_with (at_lookup; refine wp_look_ok rfl _ _ rfl B n _ _ rfl (HUS.out.up (Up.alloc _ _)) (true, s, m) HWF.out rfl ?_; rw [HH.out])
      go_ret
      exact ⟨by rw [HE.out]; rfl, Up.alloc _ _⟩
    | true =>
      rw [hh] at he
      have HE := Lib.hid he
      have HH := Lib.hid hh
      clear he hE hU hi hh
      unfold idV
      simp only
      go_enter Tryz.func166, Tryz.ntmps166
      go_wp2_with (at_lookup; refine wp_look_ok rfl _ _ rfl B n _ _ rfl (HUS.out.up (Up.alloc _ _)) (true, s, m) HWF.out rfl ?_; rw [HH.out])
      go_ret
      exact ⟨by rw [HE.out]; rfl, Up.alloc _ _⟩

end Go.Proofs.YtbeigaanlhaolaaGreatDoor
