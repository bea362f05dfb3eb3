/-
  The texts OwnB, SplD, SplV, one behind the other; each says below what it holds and on what conditions.
-/
import Derived.Test.YtnmdfdkagkpcaaaJVolOwn25
import Derived.OwnWalk
import Derived.Deep.Upon

/-
  Blocks between two places that may turn while no others do (Btw); states and rows of the call's own that lie between two places, and stay as they read while others turn (RSt, RRw). Conditions: as each says.
-/
namespace Go.Proofs.Ytnmdfdkagkpcaaa
open Go.RowKit
open Go.Proofs
open WoolBag
open WoolVol

/-- only blocks from lo on and below hi may have turned -/
structure Btw (lo hi : Nat) (w w' : World) : Prop where
  os : w'.os = w.os
  tape : w'.tape = w.tape
  output : w'.output = w.output
  size : w.heap.size ≤ w'.heap.size
  block : ∀ k, k < w.heap.size → (k < lo ∨ hi ≤ k) → w'.heap[k]? = w.heap[k]?

theorem Btw.refl (lo hi : Nat) (w : World) : Btw lo hi w w := ⟨rfl, rfl, rfl, Nat.le_refl _, fun _ _ _ => rfl⟩
theorem Btw.trans {lo hi : Nat} {a b c : World} (h : Btw lo hi a b) (k : Btw lo hi b c) : Btw lo hi a c :=
  ⟨k.os.trans h.os, k.tape.trans h.tape, k.output.trans h.output, Nat.le_trans h.size k.size, fun i hi ho => (k.block i (Nat.lt_of_lt_of_le hi h.size) ho).trans (h.block i hi ho)⟩
theorem Btw.grown {lo hi : Nat} {w w' : World} {r : Option Nat} (h : w.grownBy w' r) (hr : ∀ g, r = some g → lo ≤ g ∧ g < hi) : Btw lo hi w w' :=
  ⟨h.os, h.tape, h.output, h.size, fun k hk ho => h.block k hk (fun e => by have := hr k e.symm; omega)⟩
theorem Btw.up {lo hi : Nat} {w w' : World} (h : Up w w') : Btw lo hi w w' := ⟨h.os, h.tape, h.output, h.size, fun k hk _ => h.block k hk⟩
theorem Btw.above {lo hi : Nat} {w0 w w' : World} (h : Btw lo hi w w') (hu : Up w0 w) (hl : w0.heap.size ≤ lo) : Up w0 w' :=
  ⟨h.os.trans hu.os, h.tape.trans hu.tape, h.output.trans hu.output, Nat.le_trans hu.size h.size, fun k hk => (h.block k (Nat.lt_of_lt_of_le hk hu.size) (.inl (Nat.lt_of_lt_of_le hk hl))).trans (hu.block k hk)⟩

/-- what lies between two places has stayed as it was in w0 -/
structure Since (w0 w : World) (lo hi : Nat) : Prop where
  top : w0.heap.size ≤ hi
  size : w0.heap.size ≤ w.heap.size
  block : ∀ b, lo ≤ b → b < w0.heap.size → w.heap[b]? = w0.heap[b]?

theorem Since.new {w : World} {lo hi : Nat} (h : w.heap.size ≤ hi) : Since w w lo hi := ⟨h, Nat.le_refl _, fun _ _ _ => rfl⟩
theorem Since.btw {w0 w w' : World} {lo hi a b : Nat} (h : Since w0 w lo hi) (k : Btw a b w w') (hd : b ≤ lo ∨ hi ≤ a) : Since w0 w' lo hi :=
  ⟨h.top, Nat.le_trans h.size k.size, fun c h1 h2 => (k.block c (Nat.lt_of_lt_of_le h2 h.size) (by have := h.top; omega)).trans (h.block c h1 h2)⟩
theorem Since.up {w0 w w' : World} {lo hi : Nat} (h : Since w0 w lo hi) (k : Up w w') : Since w0 w' lo hi :=
  ⟨h.top, Nat.le_trans h.size k.size, fun c h1 h2 => (k.block c (Nat.lt_of_lt_of_le h2 h.size)).trans (h.block c h1 h2)⟩

theorem own_still {w0 w : World} {lo hi base T m n : Nat} {v : Value} {L : List Value} (h : w0.ownsRow base T m v n L) (hs : Since w0 w lo hi) (hb : lo ≤ base) : w.ownsRow base T m v n L := by
  refine ⟨h.1, ?_⟩
  rcases h.2 with h2 | ⟨g, cap, cur, h1, h2, h3, h4⟩
  · exact .inl h2
  · have hlt : g < w0.heap.size := (Array.getElem?_eq_some_iff.1 h3).1
    exact .inr ⟨g, cap, cur, h1, h2, (hs.block g (Nat.le_trans hb h2) hlt).trans h3, h4⟩

theorem own_top {w0 w : World} {lo hi base T m n : Nat} {v : Value} {L : List Value} (h : w0.ownsRow base T m v n L) (hs : Since w0 w lo hi) : ∀ g, v.ownBlock = some g → base ≤ g ∧ g < hi := fun g hg =>
  ⟨(World.ownsRow.lt h g hg).1, Nat.lt_of_lt_of_le (World.ownsRow.lt h g hg).2 hs.top⟩

/-- own rows of different types lie in different blocks -/
theorem own_apartT {w : World} {b1 b2 T1 T2 m1 m2 n1 n2 : Nat} {v1 v2 : Value} {L1 L2 : List Value} (h1 : w.ownsRow b1 T1 m1 v1 n1 L1) (h2 : w.ownsRow b2 T2 m2 v2 n2 L2) (hne : T1 ≠ T2) : ∀ g, v1.ownBlock = some g → v2.ownBlock ≠ some g := by
  intro g hg hg2
  rcases own_row h1 with ⟨rfl, _, _⟩ | ⟨g1, c1, s1, rfl, _, hr1, _⟩
  · cases hg
  rcases own_row h2 with ⟨rfl, _, _⟩ | ⟨g2, c2, s2, rfl, _, hr2, _⟩
  · cases hg2
  have e1 : g1 = g := Option.some.inj hg
  have e2 : g2 = g := Option.some.inj hg2
  subst e1
  subst e2
  unfold RowC at hr1 hr2
  rw [hr1] at hr2
  simp only [Option.some.injEq, Obj.cells.injEq] at hr2
  exact hne hr2.2.1

theorem own_growK {w w' : World} {base T m n : Nat} {v : Value} {L : List Value} {row : Option Nat} (h : w.ownsRow base T m v n L) (hg : w.grownBy w' row) (hne : ∀ b, v.ownBlock = some b → row ≠ some b) : w'.ownsRow base T m v n L := by
  refine ⟨h.1, ?_⟩
  rcases h.2 with h2 | ⟨g, cap, cur, h1, h2, h3, h4⟩
  · exact .inl h2
  · have hlt : g < w.heap.size := (Array.getElem?_eq_some_iff.1 h3).1
    refine .inr ⟨g, cap, cur, h1, h2, (hg.block g hlt (fun e => ?_)).trans h3, h4⟩
    subst h1
    exact hne g rfl e.symm

/-- a state of the call's own between two places -/
def RSt (w : World) (lo hi : Nat) (v : Value) (st : Sta) : Prop := ∃ w0, Since w0 w lo hi ∧ OSt w0 lo v st

theorem RSt.new {w : World} {lo hi : Nat} {v : Value} {st : Sta} (h : OSt w lo v st) (hh : w.heap.size ≤ hi) : RSt w lo hi v st := ⟨w, Since.new hh, h⟩
theorem RSt.up {w w' : World} {lo hi : Nat} {v : Value} {st : Sta} (h : RSt w lo hi v st) (hu : Up w w') : RSt w' lo hi v st := by
  obtain ⟨w0, h1, h2⟩ := h
  exact ⟨w0, h1.up hu, h2⟩
theorem RSt.btw {w w' : World} {lo hi a b : Nat} {v : Value} {st : Sta} (h : RSt w lo hi v st) (k : Btw a b w w') (hd : b ≤ lo ∨ hi ≤ a) : RSt w' lo hi v st := by
  obtain ⟨w0, h1, h2⟩ := h
  exact ⟨w0, h1.btw k hd, h2⟩

/-- the rows of such a state -/
theorem RSt.rows {w : World} {lo hi : Nat} {v : Value} {st : Sta} (h : RSt w lo hi v st) : ∃ vb vv C, v = .agg #[vb, vv] ∧ OItems w lo vb st.b ∧ (∀ g, vb.ownBlock = some g → lo ≤ g ∧ g < hi) ∧ OVC w lo vv C ∧ (∀ g, vv.ownBlock = some g → lo ≤ g ∧ g < hi) ∧ ORd w lo C st.v ∧
    ∀ k (hk : k < C.length) g, C[k].sl.ownBlock = some g → lo ≤ g ∧ g < hi := by
  obtain ⟨w0, hs, vb, vv, rfl, hb, C, hv, hr⟩ := h
  refine ⟨vb, vv, C, rfl, own_still hb hs (Nat.le_refl _), own_top hb hs, own_still hv hs (Nat.le_refl _), own_top hv hs, ⟨hr.len, hr.nm, fun k hk => own_still (hr.bl k hk) hs (Nat.le_refl _), hr.apart⟩, fun k hk g hg => ?_⟩
  exact own_top (hr.bl k (by rw [← hr.len]; exact hk)) hs g hg

theorem RSt.ost {w : World} {lo hi : Nat} {v : Value} {st : Sta} (h : RSt w lo hi v st) : OSt w lo v st := by
  obtain ⟨vb, vv, C, rfl, h1, _, h2, _, h3, _⟩ := h.rows
  exact ⟨vb, vv, rfl, h1, C, h2, h3⟩
theorem RSt.stat {w : World} {lo hi : Nat} {v : Value} {st : Sta} (h : RSt w lo hi v st) : Stat w v st := h.ost.stat

/-- a row of the call's own between two places -/
def RRw (w : World) (lo hi T m : Nat) (v : Value) (n : Nat) (L : List Value) : Prop := ∃ w0, Since w0 w lo hi ∧ w0.ownsRow lo T m v n L

theorem RRw.new {w : World} {lo hi T m n : Nat} {v : Value} {L : List Value} (h : w.ownsRow lo T m v n L) (hh : w.heap.size ≤ hi) : RRw w lo hi T m v n L := ⟨w, Since.new hh, h⟩
theorem RRw.up {w w' : World} {lo hi T m n : Nat} {v : Value} {L : List Value} (h : RRw w lo hi T m v n L) (hu : Up w w') : RRw w' lo hi T m v n L := by
  obtain ⟨w0, h1, h2⟩ := h
  exact ⟨w0, h1.up hu, h2⟩
theorem RRw.btw {w w' : World} {lo hi T m n a b : Nat} {v : Value} {L : List Value} (h : RRw w lo hi T m v n L) (k : Btw a b w w') (hd : b ≤ lo ∨ hi ≤ a) : RRw w' lo hi T m v n L := by
  obtain ⟨w0, h1, h2⟩ := h
  exact ⟨w0, h1.btw k hd, h2⟩
theorem RRw.own {w : World} {lo hi T m n : Nat} {v : Value} {L : List Value} (h : RRw w lo hi T m v n L) : w.ownsRow lo T m v n L := by
  obtain ⟨w0, h1, h2⟩ := h
  exact own_still h2 h1 (Nat.le_refl _)
theorem RRw.top {w : World} {lo hi T m n : Nat} {v : Value} {L : List Value} (h : RRw w lo hi T m v n L) : ∀ g, v.ownBlock = some g → lo ≤ g ∧ g < hi := by
  obtain ⟨w0, h1, h2⟩ := h
  exact own_top h2 h1

end Go.Proofs.Ytnmdfdkagkpcaaa

/-
  What spoil (of the laws on memory) does with a row of identifiers of the call's own. Conditions: as each says.
-/
namespace Go.Proofs.Ytnmdfdkagkpcaaa
open Go.RowKit
open Go.Proofs

theorem lsetD (A R : List Value) (u0 u1 u2 v0 v1 v2 : Value) (a : Nat) (h : A.length = a) :
    ((((A ++ (u0 :: u1 :: u2 :: R)).set (a) v0).set (a + 1) v1).set (a + 2) v2) = A ++ (v0 :: v1 :: v2 :: R) := by
  subst h
  rw [List.set_append_right _ _ (Nat.le_refl _), List.set_append_right _ _ (by omega), List.set_append_right _ _ (by omega)]
  simp [show A.length + 1 - A.length = 1 by omega, show A.length + 2 - A.length = 2 by omega]

theorem splitD (L : List Value) (a : Nat) (h : a + 3 ≤ L.length) : ∃ A u0 u1 u2 R, A.length = a ∧ L = A ++ (u0 :: u1 :: u2 :: R) := by
  refine ⟨L.take a, L[a], L[a + 1], L[a + 2], L.drop (a + 3), by rw [List.length_take]; omega, ?_⟩
  rw [← List.drop_eq_getElem_cons, ← List.drop_eq_getElem_cons, ← List.drop_eq_getElem_cons, List.take_append_drop]

theorem cellsD {w : World} {g a T : Nat} {A R : List Value} {u0 u1 u2 : Value} (h : RowC w g T (A ++ (u0 :: u1 :: u2 :: R))) (ha : A.length = a) :
    w.cell? ⟨g, a, none⟩ = some u0 ∧ w.cell? ⟨g, a + 1, none⟩ = some u1 ∧ w.cell? ⟨g, a + 2, none⟩ = some u2 := by
  subst ha
  refine ⟨h.cell ?_, h.cell ?_, h.cell ?_⟩ <;> rw [List.getElem?_append_right (by omega)]
  · simp
  · simp [show A.length + 1 - A.length = 1 by omega]
  · simp [show A.length + 2 - A.length = 2 by omega]

theorem RowC.setD {w : World} {g a T : Nat} {A R : List Value} {u0 u1 u2 : Value} (h : RowC w g T (A ++ (u0 :: u1 :: u2 :: R))) (ha : A.length = a) (v0 v1 v2 : Value) :
    RowC (((w.setCell ⟨g, a, none⟩ (v0)).setCell ⟨g, a + 1, none⟩ (v1)).setCell ⟨g, a + 2, none⟩ (v2)) g T (A ++ (v0 :: v1 :: v2 :: R)) := by
  have := (((h.set a v0).set (a + 1) v1).set (a + 2) v2)
  rw [lsetD A R u0 u1 u2 v0 v1 v2 a ha] at this
  exact this

theorem grownD {w w' : World} {g a : Nat} (h : w.grownBy w' (some g)) (v0 v1 v2 : Value) :
    w.grownBy (((w'.setCell ⟨g, a, none⟩ (v0)).setCell ⟨g, a + 1, none⟩ (v1)).setCell ⟨g, a + 2, none⟩ (v2)) (some g) := by
  have one : ∀ (W : World) (j : Nat) (v : Value), w.grownBy W (some g) → w.grownBy (W.setCell ⟨g, j, none⟩ v) (some g) := fun W j v hW =>
    ⟨hW.os, hW.tape, hW.output, by simpa [World.setCell] using hW.size, fun k hk hne => by
      have hkg : g ≠ k := fun e => hne (by rw [e])
      simp [World.setCell, Array.getElem?_modify, hkg]
      simpa using hW.block k hk hne⟩
  exact one _ _ _ (one _ _ _ (one _ _ _ h))

theorem otherD (w : World) (g a b : Nat) (h : g ≠ b) (v0 v1 v2 : Value) :
    (((w.setCell ⟨g, a, none⟩ (v0)).setCell ⟨g, a + 1, none⟩ (v1)).setCell ⟨g, a + 2, none⟩ (v2)).heap[b]? = w.heap[b]? := by
  simp [World.setCell, Array.getElem?_modify, h]

def SpoilDRel (cap g : Nat) (X : Nat) (x0 : Bool) (x1 x2 : Int) (w : World) (i : Value) (wr : World) : Prop :=
  ∃ k : Nat, k ≤ cap ∧ i = .int .i64 (k : Int) ∧ w.grownBy wr (some g) ∧ RowC wr X 51 [.bool x0, .int .i64 x1, .int .i64 x2] ∧ ∃ L, RowC wr g 51 L ∧ L.length = cap * 3

set_option maxRecDepth 100000 in
set_option maxHeartbeats 1000000 in
theorem spoilD_any (v : Value) (n base : Nat) (L0 : List Value) (x0 : Bool) (x1 x2 : Int) (w : World) (h : w.ownsRow base 51 3 v n L0) :
    Calls Try.prog 29 #[v, .agg #[.bool x0, .int .i64 x1, .int .i64 x2]] w fun e w' => e = .returned (.tuple #[]) ∧ w.grownBy w' v.ownBlock := by
  rcases own_row h with ⟨rfl, rfl, rfl⟩ | ⟨g, cap, sp, rfl, hg, hrow, hc1, hc2, hc3⟩
  · clear h
    go_enter Try.func29, Try.ntmps29
    go_wp2_with fail
    go_loopw [11] (fun i wr => i = .int .i64 0 ∧ wr = (w.alloc (.cells #[.bool x0, .int .i64 x1, .int .i64 x2] 51))) (fun _ _ => 0)
    case atStart => exact ⟨rfl, rfl⟩
    case round =>
      obtain ⟨rfl, rfl⟩ := hrel
      go_wp2_with fail
      go_end0
      exact ⟨rfl, World.grownBy_alloc w _ none⟩
  · have hlt := hrow.lt
    have hLl : (L0 ++ sp).length = cap * 3 := by rw [List.length_append, h.1]; exact hc3
    have HST : Hid (SpoilDRel cap g w.heap.size x0 x1 x2 w (.int .i64 0) (w.alloc (.cells #[.bool x0, .int .i64 x1, .int .i64 x2] 51))) :=
      ⟨0, Nat.zero_le _, rfl, World.grownBy_alloc w _ _, heap_alloc_new w _, _, hrow.up (Up.alloc _ _), hLl⟩
    unfold maxLen at hc2
    have hlc : n ≤ cap := hc1
    have hgX : g ≠ w.heap.size := by omega
    clear h hrow hc3 hc1 hg hLl
    go_enter Try.func29, Try.ntmps29
    go_wp2_with fail
    go_loopw [4, 11] (fun _ i wr => SpoilDRel cap g w.heap.size x0 x1 x2 w i wr) (fun _ i _ => cap - (intOf i).toNat)
    case atStart => exact HST.out
    case round =>
      obtain ⟨k, hk, rfl, hgr, hx, L, hL, hLl⟩ := hrel
      by_cases hlt2 : k < cap
      · obtain ⟨A, u0, u1, u2, R, hA, rfl⟩ := splitD L (k * 3) (by omega)
        obtain ⟨c0, c1, c2⟩ := cellsD hL hA
        have f0 := hL.frozen (k * 3)
        have f1 := hL.frozen (k * 3 + 1)
        have f2 := hL.frozen (k * 3 + 2)
        have x0c : wr.cell? ⟨w.heap.size, 0, none⟩ = some (.bool x0) := hx.cell rfl
        have x1c : wr.cell? ⟨w.heap.size, 1, none⟩ = some (.int .i64 x1) := hx.cell rfl
        have x2c : wr.cell? ⟨w.heap.size, 2, none⟩ = some (.int .i64 x2) := hx.cell rfl
        have hset := hL.setD hA (.bool x0) (.int .i64 x1) (.int .i64 x2)
        have hgr2 := grownD (a := k * 3) hgr (.bool x0) (.int .i64 x1) (.int .i64 x2)
        have hx2 : RowC (((wr.setCell ⟨g, k * 3, none⟩ (.bool x0)).setCell ⟨g, k * 3 + 1, none⟩ (.int .i64 x1)).setCell ⟨g, k * 3 + 2, none⟩ (.int .i64 x2)) w.heap.size 51 [.bool x0, .int .i64 x1, .int .i64 x2] := by
          unfold RowC
          rw [otherD _ _ _ _ hgX]
          exact hx
        obtain ⟨wn, hwn⟩ : ∃ wn, (((wr.setCell ⟨g, k * 3, none⟩ (.bool x0)).setCell ⟨g, k * 3 + 1, none⟩ (.int .i64 x1)).setCell ⟨g, k * 3 + 2, none⟩ (.int .i64 x2)) = wn := ⟨_, rfl⟩
        rw [hwn] at hset hgr2 hx2
        have HREL : Hid (SpoilDRel cap g w.heap.size x0 x1 x2 w (.int .i64 ((k + 1 : Nat) : Int)) wn) := ⟨k + 1, by omega, rfl, hgr2, hx2, _, hset, by simp at hLl ⊢; omega⟩
        have HW := Lib.hid hwn
        have d1 : decide (k < cap) = true := decide_eq_true hlt2
        clear hset hgr2 hx2 hx hgr hL hLl hA hwn
        go_wp2_with fail
        rw [HW.out]
        go_roundw
        case rel => exact HREL.out
        case measure => simp only [intOf]; omega
      · have d1 : decide (k < cap) = false := decide_eq_false hlt2
        have HG := Lib.hid hgr
        clear hgr hx hL hLl
        go_wp2_with fail
        go_end0
        exact ⟨rfl, HG.out⟩

end Go.Proofs.Ytnmdfdkagkpcaaa

/-
  What spoil (of the laws on memory) does with a row of volumes of the call's own. Conditions: as each says.
-/
namespace Go.Proofs.Ytnmdfdkagkpcaaa
open Go.RowKit
open Go.Proofs

theorem lsetV (A R : List Value) (u0 u1 v0 v1 : Value) (a : Nat) (h : A.length = a) :
    (((A ++ (u0 :: u1 :: R)).set (a) v0).set (a + 1) v1) = A ++ (v0 :: v1 :: R) := by
  subst h
  rw [List.set_append_right _ _ (Nat.le_refl _), List.set_append_right _ _ (by omega)]
  simp [show A.length + 1 - A.length = 1 by omega]

theorem splitV (L : List Value) (a : Nat) (h : a + 2 ≤ L.length) : ∃ A u0 u1 R, A.length = a ∧ L = A ++ (u0 :: u1 :: R) := by
  refine ⟨L.take a, L[a], L[a + 1], L.drop (a + 2), by rw [List.length_take]; omega, ?_⟩
  rw [← List.drop_eq_getElem_cons, ← List.drop_eq_getElem_cons, List.take_append_drop]

theorem cellsV {w : World} {g a T : Nat} {A R : List Value} {u0 u1 : Value} (h : RowC w g T (A ++ (u0 :: u1 :: R))) (ha : A.length = a) :
    w.cell? ⟨g, a, none⟩ = some u0 ∧ w.cell? ⟨g, a + 1, none⟩ = some u1 := by
  subst ha
  refine ⟨h.cell ?_, h.cell ?_⟩ <;> rw [List.getElem?_append_right (by omega)]
  · simp
  · simp [show A.length + 1 - A.length = 1 by omega]

theorem RowC.setV {w : World} {g a T : Nat} {A R : List Value} {u0 u1 : Value} (h : RowC w g T (A ++ (u0 :: u1 :: R))) (ha : A.length = a) (v0 v1 : Value) :
    RowC ((w.setCell ⟨g, a, none⟩ (v0)).setCell ⟨g, a + 1, none⟩ (v1)) g T (A ++ (v0 :: v1 :: R)) := by
  have := ((h.set a v0).set (a + 1) v1)
  rw [lsetV A R u0 u1 v0 v1 a ha] at this
  exact this

theorem grownV {w w' : World} {g a : Nat} (h : w.grownBy w' (some g)) (v0 v1 : Value) :
    w.grownBy ((w'.setCell ⟨g, a, none⟩ (v0)).setCell ⟨g, a + 1, none⟩ (v1)) (some g) := by
  have one : ∀ (W : World) (j : Nat) (v : Value), w.grownBy W (some g) → w.grownBy (W.setCell ⟨g, j, none⟩ v) (some g) := fun W j v hW =>
    ⟨hW.os, hW.tape, hW.output, by simpa [World.setCell] using hW.size, fun k hk hne => by
      have hkg : g ≠ k := fun e => hne (by rw [e])
      simp [World.setCell, Array.getElem?_modify, hkg]
      simpa using hW.block k hk hne⟩
  exact one _ _ _ (one _ _ _ h)

theorem otherV (w : World) (g a b : Nat) (h : g ≠ b) (v0 v1 : Value) :
    ((w.setCell ⟨g, a, none⟩ (v0)).setCell ⟨g, a + 1, none⟩ (v1)).heap[b]? = w.heap[b]? := by
  simp [World.setCell, Array.getElem?_modify, h]

def SpoilVRel (cap g : Nat) (X : Nat) (x0 : ByteArray) (w : World) (i : Value) (wr : World) : Prop :=
  ∃ k : Nat, k ≤ cap ∧ i = .int .i64 (k : Int) ∧ w.grownBy wr (some g) ∧ RowC wr X 62 [.string x0, .slice none 0 0] ∧ ∃ L, RowC wr g 62 L ∧ L.length = cap * 2

set_option maxRecDepth 100000 in
set_option maxHeartbeats 1000000 in
theorem spoilV_any (v : Value) (n base : Nat) (L0 : List Value) (x0 : ByteArray) (w : World) (h : w.ownsRow base 62 2 v n L0) :
    Calls Try.prog 56 #[v, .agg #[.string x0, .slice none 0 0]] w fun e w' => e = .returned (.tuple #[]) ∧ w.grownBy w' v.ownBlock := by
  rcases own_row h with ⟨rfl, rfl, rfl⟩ | ⟨g, cap, sp, rfl, hg, hrow, hc1, hc2, hc3⟩
  · clear h
    go_enter Try.func56, Try.ntmps56
    go_wp2_with fail
    go_loopw [11] (fun i wr => i = .int .i64 0 ∧ wr = (w.alloc (.cells #[.string x0, .slice none 0 0] 62))) (fun _ _ => 0)
    case atStart => exact ⟨rfl, rfl⟩
    case round =>
      obtain ⟨rfl, rfl⟩ := hrel
      go_wp2_with fail
      go_end0
      exact ⟨rfl, World.grownBy_alloc w _ none⟩
  · have hlt := hrow.lt
    have hLl : (L0 ++ sp).length = cap * 2 := by rw [List.length_append, h.1]; exact hc3
    have HST : Hid (SpoilVRel cap g w.heap.size x0 w (.int .i64 0) (w.alloc (.cells #[.string x0, .slice none 0 0] 62))) :=
      ⟨0, Nat.zero_le _, rfl, World.grownBy_alloc w _ _, heap_alloc_new w _, _, hrow.up (Up.alloc _ _), hLl⟩
    unfold maxLen at hc2
    have hlc : n ≤ cap := hc1
    have hgX : g ≠ w.heap.size := by omega
    clear h hrow hc3 hc1 hg hLl
    go_enter Try.func56, Try.ntmps56
    go_wp2_with fail
    go_loopw [4, 11] (fun _ i wr => SpoilVRel cap g w.heap.size x0 w i wr) (fun _ i _ => cap - (intOf i).toNat)
    case atStart => exact HST.out
    case round =>
      obtain ⟨k, hk, rfl, hgr, hx, L, hL, hLl⟩ := hrel
      by_cases hlt2 : k < cap
      · obtain ⟨A, u0, u1, R, hA, rfl⟩ := splitV L (k * 2) (by omega)
        obtain ⟨c0, c1⟩ := cellsV hL hA
        have f0 := hL.frozen (k * 2)
        have f1 := hL.frozen (k * 2 + 1)
        have x0c : wr.cell? ⟨w.heap.size, 0, none⟩ = some (.string x0) := hx.cell rfl
        have x1c : wr.cell? ⟨w.heap.size, 1, none⟩ = some (.slice none 0 0) := hx.cell rfl
        have hset := hL.setV hA (.string x0) (.slice none 0 0)
        have hgr2 := grownV (a := k * 2) hgr (.string x0) (.slice none 0 0)
        have hx2 : RowC ((wr.setCell ⟨g, k * 2, none⟩ (.string x0)).setCell ⟨g, k * 2 + 1, none⟩ (.slice none 0 0)) w.heap.size 62 [.string x0, .slice none 0 0] := by
          unfold RowC
          rw [otherV _ _ _ _ hgX]
          exact hx
        obtain ⟨wn, hwn⟩ : ∃ wn, ((wr.setCell ⟨g, k * 2, none⟩ (.string x0)).setCell ⟨g, k * 2 + 1, none⟩ (.slice none 0 0)) = wn := ⟨_, rfl⟩
        rw [hwn] at hset hgr2 hx2
        have HREL : Hid (SpoilVRel cap g w.heap.size x0 w (.int .i64 ((k + 1 : Nat) : Int)) wn) := ⟨k + 1, by omega, rfl, hgr2, hx2, _, hset, by simp at hLl ⊢; omega⟩
        have HW := Lib.hid hwn
        have d1 : decide (k < cap) = true := decide_eq_true hlt2
        clear hset hgr2 hx2 hx hgr hL hLl hA hwn
        go_wp2_with fail
        rw [HW.out]
        go_roundw
        case rel => exact HREL.out
        case measure => simp only [intOf]; omega
      · have d1 : decide (k < cap) = false := decide_eq_false hlt2
        have HG := Lib.hid hgr
        clear hgr hx hL hLl
        go_wp2_with fail
        go_end0
        exact ⟨rfl, HG.out⟩

end Go.Proofs.Ytnmdfdkagkpcaaa
