/-
  What the predicates of package bag return; slices.IndexFunc and ContainsFunc over items by them; fingerprint and identifier. Conditions: as each says.
-/
import Derived.Test.YtabhalajelbfoaaItems
import Derived.Test.YtabhalajelbfoaaPrint
import Derived.Deep.RegionHeld3
import Derived.BigRegion
import Derived.Shelf.Abstract
namespace Go.Proofs.Ytabhalajelbfoaa
open Go.RowKit
open Go.Proofs
open WoolBag

/-- a function value that tells p of an item, in every world in which nothing that is in w has turned -/
def Pred (w : World) (g : Nat) (lb : Array Value) (p : Itm → Bool) : Prop :=
  ∀ W, Up w W → ∀ x, Calls Try.prog g (#[itV x] ++ lb) W fun e w' => e = .returned (.bool (p x)) ∧ Up W w'

def ixI (p : Itm → Bool) (l : List Itm) : Int := match idx p l with | some i => (i : Int) | none => -1

def IxRel (p : Itm → Bool) (l : List Itm) (w : World) (i : Value) (wr : World) : Prop :=
  ∃ k : Nat, k ≤ l.length ∧ i = .int .i64 k ∧ Up w wr ∧ ∀ j (h : j < l.length), j < k → p l[j] = false

set_option maxRecDepth 100000 in
set_option maxHeartbeats 400000 in
theorem indexF (v : Value) (l : List Itm) (w : World) (g : Nat) (lb : Array Value) (p : Itm → Bool) (eg : ∀ args w, (callFunc g args).run Try.prog w = .ok (.enter g args) w) (h : Items w v l) (hp : Pred w g lb p) :
    Calls Try.prog 17 #[v, .func (.func g) #[] lb] w fun e w' => e = .returned (.int .i64 (ixI p l)) ∧ Up w w' := by
  obtain ⟨o, c, rfl, h2, h3, h4⟩ := h
  unfold maxLen at h3
  have H4 := Lib.hid h4
  have HP := Lib.hid hp
  clear h4 hp
  obtain ⟨R, hR⟩ : ∃ R, ixI p l = R := ⟨_, rfl⟩
  rw [hR]
  have HR := Lib.hid hR
  clear hR
  go_enter Try.func17, Try.ntmps17
  go_wp2_with fail
  go_loopw [5, 8] (fun _ i wr => IxRel p l w i wr) (fun _ i _ => l.length - (intOf i).toNat)
  case atStart => exact ⟨0, Nat.zero_le _, rfl, Up.refl w, fun j _ hj => by omega⟩
  case round =>
    obtain ⟨k, hk, rfl, hu, hno⟩ := hrel
    by_cases hlt : k < l.length
    · rcases H4.out with h5 | ⟨b, off, rfl, h5⟩
      · rw [h5] at hlt; simp at hlt
      · obtain ⟨a1, a2, a3, a4⟩ := h5 k hlt
        rw [← hu.cell (World.block_lt_of_cell? w _ a1)] at a1
        rw [← hu.cell (World.block_lt_of_cell? w _ a2)] at a2
        rw [← hu.cell (World.block_lt_of_cell? w _ a3)] at a3
        rw [← hu.cell (World.block_lt_of_cell? w _ a4)] at a4
        have hcall := HP.out wr hu l[k]
        have HU := Lib.hid hu
        have HN := Lib.hid hno
        have d1 : decide (k < l.length) = true := decide_eq_true hlt
        obtain ⟨P, hP⟩ : ∃ P, p l[k] = P := ⟨_, rfl⟩
        rw [hP] at hcall
        have HPP := Lib.hid hP
        unfold itV at hcall
        generalize l[k].s = xs at a1 hcall
        generalize l[k].n = xn at a2 hcall
        generalize l[k].t = xt at a3 hcall
        generalize l[k].r = xr at a4 hcall
        clear h5 hu hno hP
        cases P with
        | true =>
          go_wp2_with (go_at_fn g; refine hcall.mono ?_; rintro e w1 ⟨rfl, u1⟩)
          go_ret
          refine ⟨?_, HU.out.trans u1⟩
          rw [← HR.out]
          unfold ixI
          rw [idx_of hlt HPP.out (fun j hj => HN.out j (by omega) hj)]
          rfl
        | false =>
          go_wp2_with (go_at_fn g; refine hcall.mono ?_; rintro e w1 ⟨rfl, u1⟩)
          go_roundw
          case rel =>
            refine ⟨k + 1, by omega, by go_num, HU.out.trans u1, fun j hj hjk => ?_⟩
            by_cases e : j = k
            · subst e; exact HPP.out
            · exact HN.out j hj (by omega)
          case measure => simp only [intOf]; omega
    · have d1 : decide (k < l.length) = false := decide_eq_false hlt
      have HN := Lib.hid hno
      clear hno
      go_wp2_with fail
      go_ret
      refine ⟨?_, hu⟩
      rw [← HR.out]
      unfold ixI
      rw [idx_none.2 (fun x hx => by obtain ⟨i, hi, rfl⟩ := List.getElem_of_mem hx; exact HN.out i hi (by omega))]
      rfl

theorem ixI_any (p : Itm → Bool) (l : List Itm) : decide (0 ≤ ixI p l) = l.any p := by
  unfold ixI
  cases h : idx p l with
  | none =>
    have : l.any p = false := by
      rw [Bool.eq_false_iff]
      intro h'
      exact any_iff.1 h' h
    rw [this]; rfl
  | some i =>
    have : l.any p = true := any_iff.2 (by rw [h]; simp)
    rw [this]; simp

set_option maxRecDepth 100000 in
theorem containsF (v : Value) (l : List Itm) (w : World) (g : Nat) (lb : Array Value) (p : Itm → Bool) (eg : ∀ args w, (callFunc g args).run Try.prog w = .ok (.enter g args) w) (h : Items w v l) (hp : Pred w g lb p) :
    Calls Try.prog 43 #[v, .func (.func g) #[] lb] w fun e w' => e = .returned (.bool (l.any p)) ∧ Up w w' := by
  obtain ⟨o, c, hv, hc⟩ := h.slice
  rw [← ixI_any]
  have hcall := indexF v l w g lb p eg h hp
  generalize ixI p l = R at hcall ⊢
  subst hv
  clear h hp eg
  go_enter Try.func43, Try.ntmps43
  go_wp2_with fail
  refine hcall.mono ?_
  rintro e w1 ⟨rfl, u1⟩
  go_wp2_with fail
  go_ret
  exact ⟨rfl, u1⟩

/-! ytabhalajelbfoaa# the predicates -/

theorem txt_eq (a b : List UInt8) : ((bs a).toList == (bs b).toList) = (a == b) := by
  rw [ByteArray.toList_eq, ByteArray.toList_eq, bs_list, bs_list]

theorem hasText_in (t : List UInt8) (B : Nat) (x : Itm) (W : World) (hB : B < W.heap.size) (hc : W.cell? ⟨B, 0, none⟩ = some (.string (bs t))) :
    Calls Try.prog 39 #[itV x, .pointer (some ⟨B, 0, none⟩)] W fun e w' => e = .returned (.bool (txtB t x)) ∧ Up W w' := by
  unfold itV
  have hq := txt_eq x.t t
  have hb : txtB t x = (x.t == t) := rfl
  rw [hb]
  generalize (x.t == t) = q at hq ⊢
  have hne : B ≠ W.heap.size := by omega
  clear hb
  go_enter Try.func39, Try.ntmps39
  go_wp2_with fail
  all_goals
    go_ret
    exact ⟨by simp_all, Up.alloc _ _⟩

theorem isBehind_in (a x : Itm) (B : Nat) (W : World) (hB : B < W.heap.size) (h0 : W.cell? ⟨B, 0, none⟩ = some (.int .i64 a.s)) (h1 : W.cell? ⟨B, 1, none⟩ = some (.int .i64 a.n)) :
    Calls Try.prog 58 #[itV x, .pointer (some ⟨B, 0, none⟩)] W fun e w' => e = .returned (.bool (behB a x)) ∧ Up W w' := by
  unfold itV behB
  generalize a.s = sa at h0 ⊢
  generalize a.n = an at h1 ⊢
  generalize x.s = xs
  generalize x.n = xn
  have hne : B ≠ W.heap.size := by omega
  by_cases c1 : sa < xs
  · have d1 : decide (sa < xs) = true := decide_eq_true c1
    go_enter Try.func58, Try.ntmps58
    go_wp2_with fail
    go_ret
    exact ⟨by simp [d1], Up.alloc _ _⟩
  · have d1 : decide (sa < xs) = false := decide_eq_false c1
    by_cases c2 : xs = sa
    · subst c2
      by_cases c3 : an < xn
      · have d3 : decide (an < xn) = true := decide_eq_true c3
        go_enter Try.func58, Try.ntmps58
        go_wp2_with fail
        go_ret
        exact ⟨by simp, Up.alloc _ _⟩
      · have d3 : decide (an < xn) = false := decide_eq_false c3
        go_enter Try.func58, Try.ntmps58
        go_wp2_with fail
        go_ret
        exact ⟨by simp, Up.alloc _ _⟩
    · have d2 : (xs == sa) = false := by simpa using c2
      go_enter Try.func58, Try.ntmps58
      go_wp2_with fail
      go_ret
      exact ⟨by simp, Up.alloc _ _⟩

/-- a block of three cells -/
def BoxI (W : World) (B : Nat) (t : TypeId) (x y z : Value) : Prop := W.heap[B]? = some (.cells #[x, y, z] t (0, 0))

theorem BoxI.cells {W : World} {B : Nat} {t : TypeId} {x y z : Value} (h : BoxI W B t x y z) : W.cell? ⟨B, 0, none⟩ = some x ∧ W.cell? ⟨B, 1, none⟩ = some y ∧ W.cell? ⟨B, 2, none⟩ = some z :=
  ⟨cell_of_row _ _ 0 _ _ _ h, cell_of_row _ _ 1 _ _ _ h, cell_of_row _ _ 2 _ _ _ h⟩
theorem BoxI.new (W : World) (t : TypeId) (x y z : Value) : BoxI (W.alloc (.cells #[x, y, z] t)) W.heap.size t x y z := heap_alloc_new W _
theorem BoxI.below {W W' : World} {n B : Nat} {t : TypeId} {x y z : Value} (h : BoxI W B t x y z) (hb : Below n W W') (hB : B < n) : BoxI W' B t x y z := (hb.block B hB).trans h
theorem BoxI.lt {W : World} {B : Nat} {t : TypeId} {x y z : Value} (h : BoxI W B t x y z) : B < W.heap.size := (Array.getElem?_eq_some_iff.1 h).1
theorem BoxI.up {W W' : World} {B : Nat} {t : TypeId} {x y z : Value} (h : BoxI W B t x y z) (hb : Up W W') : BoxI W' B t x y z := h.below hb h.lt
theorem BoxI.frozen {W : World} {B : Nat} {t : TypeId} {x y z : Value} (h : BoxI W B t x y z) (k : Nat) : W.frozen? ⟨B, k, none⟩ = false := by
  unfold BoxI at h; simp [World.frozen?, h]
theorem BoxI.set {W : World} {B : Nat} {t : TypeId} {x y z : Value} (h : BoxI W B t x y z) (x' y' z' : Value) : BoxI (((W.setCell ⟨B, 0, none⟩ x').setCell ⟨B, 1, none⟩ y').setCell ⟨B, 2, none⟩ z') B t x' y' z' := by
  unfold BoxI at h ⊢
  simp [World.setCell, Array.getElem?_modify, h]

/-- the cells of a struct result of three cells, set -/
theorem set_boxI (w w1 : World) (t : TypeId) (x y z x' y' z' : Value) (u : Up (w.alloc (.cells #[x, y, z] t)) w1) :
    (∃ w2, ((w1.setCell ⟨w.heap.size, 0, none⟩ x').setCell ⟨w.heap.size, 1, none⟩ y').setCell ⟨w.heap.size, 2, none⟩ z' = w2 ∧ BoxI w2 w.heap.size t x' y' z' ∧ Up w w2 ∧ Below w.heap.size w1 w2 ∧ (∀ b, b ≠ w.heap.size → w2.heap[b]? = w1.heap[b]?)) ∧
    BoxI w1 w.heap.size t x y z := by
  have hbx : BoxI w1 w.heap.size t x y z := BoxI.below (BoxI.new w _ _ _ _) u (by simp)
  have U1 := Up.after _ _ _ u
  have hb2 := hbx.set x' y' z'
  have hu1 : ∀ w0, Below w.heap.size w0 w1 → Below w.heap.size w0 (((w1.setCell ⟨w.heap.size, 0, none⟩ x').setCell ⟨w.heap.size, 1, none⟩ y').setCell ⟨w.heap.size, 2, none⟩ z') := fun w0 h0 => ((Below.setCell h0 (p := ⟨w.heap.size, 0, none⟩) (Nat.le_refl _) _).setCell (p := ⟨w.heap.size, 1, none⟩) (Nat.le_refl _) _).setCell (p := ⟨w.heap.size, 2, none⟩) (Nat.le_refl _) _
  refine ⟨⟨_, rfl, hb2, hu1 w U1, hu1 w1 (Below.refl _ _), fun b hb => ?_⟩, hbx⟩
  simp [World.setCell, Array.getElem?_modify, Ne.symm hb]

theorem identifier_any (x : Itm) (W : World) : Calls Try.prog 40 #[itV x] W fun e w' => e = .returned (idV (idOf x)) ∧ Up W w' := by
  have hv : idV (idOf x) = .agg #[.bool true, .int .i64 x.s, .int .i64 x.n] := rfl
  rw [hv]
  clear hv
  unfold itV
  generalize x.s = xs
  generalize x.n = xn
  generalize bs x.t = xt
  generalize x.r = xr
  go_enter Try.func40, Try.ntmps40
  go_wp2_with fail
  exact bodyPost_ret (v := .agg #[.bool true, .int .i64 xs, .int .i64 xn]) (by simp [results, Try.results40, go_sem]) rfl ⟨rfl, (Up.alloc _ _).trans (Up.alloc _ _)⟩

end Go.Proofs.Ytabhalajelbfoaa
