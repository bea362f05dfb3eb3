/-
  The texts BagL, BagO, BagR, SptV, one behind the other; each says below what it holds and on what conditions.
-/
import Derived.Test.YtnmdfdkagkpcaaaJVolOwn28
import Derived.Test.YtnmdfdkagkpcaaaJVolOwn09
import Derived.OwnWalk
import Derived.Deep.Upon
import Derived.Test.YtnmdfdkagkpcaaaJVolOwn26
import Derived.Deep.DeepCutAuto

/-
  What the helpers of the laws on bags return: two, refs, used, and slices.Equal of two rows of items that read alike. Conditions: as each says.
-/
namespace Go.Proofs.Ytnmdfdkagkpcaaa
open Go.RowKit
open Go.Proofs
open WoolBag

/-- the two blocks -/
def one1 : List Itm := (WoolBag.put FP [] [97]).1
def twoL : List Itm := (WoolBag.put FP one1 [98]).1

theorem one_put : ∃ i, WoolBag.put FP [] [97] = (one1, i, 0) ∧ ∀ x ∈ one1, x.t = [97] := by
  have h := put_new (F := FP) (l := []) (t := [97]) Bag.nil (by simp) (by simp) (by simp)
  refine ⟨idOf (new FP [] [97]), ?_, ?_⟩
  · unfold one1; rw [h]
  · unfold one1; rw [h]
    intro x hx
    rcases mem_ins.1 hx with rfl | hx
    · rfl
    · simp at hx

theorem one_len : one1.length = 1 := by
  obtain ⟨i, h, _⟩ := one_put
  rw [length_put h, if_neg (by simp)]; rfl

theorem two_put : ∃ i, WoolBag.put FP one1 [98] = (twoL, i, 0) := by
  obtain ⟨i, h, ht⟩ := one_put
  have h2 := put_new (F := FP) (l := one1) (t := [98]) (put_spec h).1 (by simp) (fun x hx e => by rw [ht x hx] at e; cases e) (by rw [one_len]; omega)
  exact ⟨idOf (new FP one1 [98]), by unfold twoL; rw [h2]⟩

theorem two_bag : Bag FP twoL := by
  obtain ⟨i, h⟩ := two_put
  exact (put_spec h).1

theorem two_len : twoL.length = 2 := by
  obtain ⟨i, h⟩ := two_put
  obtain ⟨j, h1, ht⟩ := one_put
  rw [length_put h, one_len, if_neg (by rintro ⟨x, hx, e⟩; rw [ht x hx] at e; cases e)]

def EqIRel (N : Nat) (w : World) (i : Value) (wr : World) : Prop := ∃ k : Nat, k ≤ N ∧ i = .int .i64 k ∧ Up w wr

set_option maxRecDepth 100000 in
set_option maxHeartbeats 400000 in
theorem equalI_yes (v1 v2 : Value) (l : List Itm) (w : World) (h1 : Items w v1 l) (h2 : Items w v2 l) :
    Calls Try.prog 52 #[v1, v2] w fun e w' => e = .returned (.bool true) ∧ Up w w' := by
  obtain ⟨o1, c1, rfl, p1, p2, p3⟩ := h1
  obtain ⟨o2, c2, rfl, q1, q2, q3⟩ := h2
  have HP := Lib.hid p3
  have HQ := Lib.hid q3
  unfold maxLen at p2 q2
  clear p3 q3
  go_enter Try.func52, Try.ntmps52
  go_wp2_with fail
  go_loopw [13] (fun i wr => EqIRel l.length w i wr) (fun i _ => l.length - (intOf i).toNat)
  case atStart => exact ⟨0, Nat.zero_le _, rfl, Up.refl w⟩
  case round =>
    obtain ⟨k, hk, rfl, hu⟩ := hrel
    by_cases hlt : k < l.length
    · rcases HP.out with h5 | ⟨b, off, rfl, h5⟩
      · rw [h5] at hlt; simp at hlt
      · rcases HQ.out with h6 | ⟨b', off', rfl, h6⟩
        · rw [h6] at hlt; simp at hlt
        · obtain ⟨e1, e2, e3, e4⟩ := h5 k hlt
          rw [← hu.cell (World.block_lt_of_cell? w _ e1)] at e1
          rw [← hu.cell (World.block_lt_of_cell? w _ e2)] at e2
          rw [← hu.cell (World.block_lt_of_cell? w _ e3)] at e3
          rw [← hu.cell (World.block_lt_of_cell? w _ e4)] at e4
          obtain ⟨f1, f2, f3, f4⟩ := h6 k hlt
          rw [← hu.cell (World.block_lt_of_cell? w _ f1)] at f1
          rw [← hu.cell (World.block_lt_of_cell? w _ f2)] at f2
          rw [← hu.cell (World.block_lt_of_cell? w _ f3)] at f3
          rw [← hu.cell (World.block_lt_of_cell? w _ f4)] at f4
          generalize l[k].s = xs at e1 f1
          generalize l[k].n = xn at e2 f2
          generalize bs l[k].t = xt at e3 f3
          generalize l[k].r = xr at e4 f4
          have HU := Lib.hid hu
          have d1 : decide (k < l.length) = true := decide_eq_true hlt
          clear h5 h6 hu
          go_wp2_with fail
          go_quiet (fail)
          go_wp2_with fail
          go_roundw
          case rel => exact ⟨k + 1, by omega, by go_num, HU.out.trans (Up.drewN _ _)⟩
          case measure => simp only [intOf]; omega
    · have d1 : decide (k < l.length) = false := decide_eq_false hlt
      go_wp2_with fail
      go_ret
      exact ⟨rfl, hu⟩

def RefsRel (l : List Itm) (w : World) (n i : Value) (wr : World) : Prop :=
  ∃ k : Nat, k ≤ l.length ∧ i = .int .i64 k ∧ n = .int .i64 (refs (l.take k)) ∧ Up w wr

def UsedRel (l : List Itm) (u : List UInt8) (w : World) (i : Value) (wr : World) : Prop :=
  ∃ k : Nat, k ≤ l.length ∧ i = .int .i64 k ∧ Up w wr ∧ ∀ j (h : j < l.length), j < k → txtB u l[j] = false

end Go.Proofs.Ytnmdfdkagkpcaaa

/-
  What Put, Get, Drop, Check and two return, in the form that the laws' walks take. Conditions: as each says.
-/
namespace Go.Proofs.Ytnmdfdkagkpcaaa
open Go.RowKit
open Go.Proofs
open WoolBag

/-- what Put answers, opened -/
theorem put_open (v : Value) (l : List Itm) (t : List UInt8) (w : World) (h : Items w v l) (A : List Itm) (ib : Bool) (is iN E : Int) (hP : WoolBag.put FP l t = (A, (ib, is, iN), E)) :
    Calls Try.prog 43 #[v, .string (bs t)] w fun e w' => ∃ o c, e = .returned (.tuple #[.slice o A.length c, .agg #[.bool ib, .int .i64 is, .int .i64 iN], .int .i64 E]) ∧ OItems w' w.heap.size (.slice o A.length c) A ∧ Up w w' := by
  refine (put_any v l t w h).mono ?_
  rintro e w' ⟨v', rfl, ho, hu⟩
  rw [hP] at ho ⊢
  obtain ⟨o, c, rfl, _⟩ := ho.items.slice
  exact ⟨o, c, rfl, ho, hu⟩

theorem get_open (v : Value) (l : List Itm) (ib : Bool) (is iN : Int) (w : World) (h : Items w v l) (t : List UInt8) (E : Int) (hg : WoolBag.get FP l (ib, is, iN) = (t, E)) :
    Calls Try.prog 57 #[v, .agg #[.bool ib, .int .i64 is, .int .i64 iN]] w fun e w' => e = .returned (.tuple #[.string (bs t), .int .i64 E]) ∧ Up w w' := by
  have := get_any v l (ib, is, iN) w h
  unfold getBR at this
  rw [hg] at this
  exact this

theorem checkB_ok (v : Value) (l : List Itm) (w : World) (h : Items w v l) (hb : Bag FP l) :
    Calls Try.prog 35 #[v] w fun e w' => e = .returned (.int .i64 0) ∧ Up w w' := by
  have := check_any v l w h
  rw [(chk_zero FP).2 hb] at this
  exact this

theorem self_eq (s : List UInt8) : ((bs s).toList == (bs s).toList) = true := by rw [txt_eq]; simp

theorem drop_open (v : Value) (l : List Itm) (ib : Bool) (is iN : Int) (w : World) (h : Items w v l) (B : List Itm) (E : Int) (hd : WoolBag.drop FP l (ib, is, iN) = (B, E)) :
    Calls Try.prog 74 #[v, .agg #[.bool ib, .int .i64 is, .int .i64 iN]] w fun e w' => ∃ o c, e = .returned (.tuple #[.slice o B.length c, .int .i64 E]) ∧ OItems w' w.heap.size (.slice o B.length c) B ∧ Up w w' := by
  refine (drop_any v l (ib, is, iN) w h).mono ?_
  rintro e w' ⟨v', rfl, ho, hu⟩
  rw [hd] at ho ⊢
  obtain ⟨o, c, rfl, _⟩ := ho.items.slice
  exact ⟨o, c, rfl, ho, hu⟩

end Go.Proofs.Ytnmdfdkagkpcaaa

/-
  What roomy, marked and spoil (of the laws on memory) do with rows of items. Conditions: as each says.
-/
namespace Go.Proofs.Ytnmdfdkagkpcaaa
open Go.RowKit
open Go.Proofs
open WoolBag

theorem set4 (A R : List Value) (u0 u1 u2 u3 v0 v1 v2 v3 : Value) (a : Nat) (h : A.length = a) :
    ((((A ++ (u0 :: u1 :: u2 :: u3 :: R)).set a v0).set (a + 1) v1).set (a + 2) v2).set (a + 3) v3 = A ++ (v0 :: v1 :: v2 :: v3 :: R) := by
  subst h
  rw [List.set_append_right _ _ (Nat.le_refl _), List.set_append_right _ _ (by omega), List.set_append_right _ _ (by omega), List.set_append_right _ _ (by omega)]
  simp [show A.length + 1 - A.length = 1 by omega, show A.length + 2 - A.length = 2 by omega, show A.length + 3 - A.length = 3 by omega]

theorem split4 (L : List Value) (a : Nat) (h : a + 4 ≤ L.length) : ∃ A u0 u1 u2 u3 R, A.length = a ∧ L = A ++ (u0 :: u1 :: u2 :: u3 :: R) := by
  refine ⟨L.take a, L[a], L[a + 1], L[a + 2], L[a + 3], L.drop (a + 4), by rw [List.length_take]; omega, ?_⟩
  rw [← List.drop_eq_getElem_cons, ← List.drop_eq_getElem_cons, ← List.drop_eq_getElem_cons, ← List.drop_eq_getElem_cons, List.take_append_drop]

theorem cells4 {w : World} {g a : Nat} {A R : List Value} {u0 u1 u2 u3 : Value} (h : RowI w g (A ++ (u0 :: u1 :: u2 :: u3 :: R))) (ha : A.length = a) :
    w.cell? ⟨g, a, none⟩ = some u0 ∧ w.cell? ⟨g, a + 1, none⟩ = some u1 ∧ w.cell? ⟨g, a + 2, none⟩ = some u2 ∧ w.cell? ⟨g, a + 3, none⟩ = some u3 := by
  subst ha
  refine ⟨h.cell ?_, h.cell ?_, h.cell ?_, h.cell ?_⟩ <;> rw [List.getElem?_append_right (by omega)]
  · simp
  · simp [show A.length + 1 - A.length = 1 by omega]
  · simp [show A.length + 2 - A.length = 2 by omega]
  · simp [show A.length + 3 - A.length = 3 by omega]

theorem RowI.set4 {w : World} {g a : Nat} {A R : List Value} {u0 u1 u2 u3 : Value} (h : RowI w g (A ++ (u0 :: u1 :: u2 :: u3 :: R))) (ha : A.length = a) (v0 v1 v2 v3 : Value) :
    RowI ((((w.setCell ⟨g, a, none⟩ v0).setCell ⟨g, a + 1, none⟩ v1).setCell ⟨g, a + 2, none⟩ v2).setCell ⟨g, a + 3, none⟩ v3) g (A ++ (v0 :: v1 :: v2 :: v3 :: R)) := by
  have := (((h.set a v0).set (a + 1) v1).set (a + 2) v2).set (a + 3) v3
  rw [Go.Proofs.Ytnmdfdkagkpcaaa.set4 A R u0 u1 u2 u3 v0 v1 v2 v3 a ha] at this
  exact this

/-- stores into one block -/
theorem grown_set4 {w w' : World} {g a : Nat} (h : w.grownBy w' (some g)) (v0 v1 v2 v3 : Value) :
    w.grownBy ((((w'.setCell ⟨g, a, none⟩ v0).setCell ⟨g, a + 1, none⟩ v1).setCell ⟨g, a + 2, none⟩ v2).setCell ⟨g, a + 3, none⟩ v3) (some g) := by
  have one : ∀ (W : World) (j : Nat) (v : Value), w.grownBy W (some g) → w.grownBy (W.setCell ⟨g, j, none⟩ v) (some g) := fun W j v hW =>
    ⟨hW.os, hW.tape, hW.output, by simpa [World.setCell] using hW.size, fun k hk hne => by
      have hkg : g ≠ k := fun e => hne (by rw [e])
      simp [World.setCell, Array.getElem?_modify, hkg]
      simpa using hW.block k hk hne⟩
  exact one _ _ _ (one _ _ _ (one _ _ _ (one _ _ _ h)))

theorem other_set4 (w : World) (g a b : Nat) (h : g ≠ b) (v0 v1 v2 v3 : Value) :
    ((((w.setCell ⟨g, a, none⟩ v0).setCell ⟨g, a + 1, none⟩ v1).setCell ⟨g, a + 2, none⟩ v2).setCell ⟨g, a + 3, none⟩ v3).heap[b]? = w.heap[b]? := by
  simp [World.setCell, Array.getElem?_modify, h]

/-! ytnmdfdkagkpcaaa# spoil -/

def SpoilRel (cap g X : Nat) (x : Itm) (w : World) (i : Value) (wr : World) : Prop :=
  ∃ k : Nat, k ≤ cap ∧ i = .int .i64 k ∧ w.grownBy wr (some g) ∧ RowI wr X (itC x) ∧ ∃ L, RowI wr g L ∧ L.length = cap * 4

set_option maxRecDepth 100000 in
set_option maxHeartbeats 1000000 in
theorem spoil_any (v : Value) (l : List Itm) (base : Nat) (x : Itm) (w : World) (h : OItems w base v l) :
    Calls Try.prog 55 #[v, itV x] w fun e w' => e = .returned (.tuple #[]) ∧ w.grownBy w' v.ownBlock := by
  unfold itV
  rcases h.row with ⟨rfl, rfl⟩ | ⟨g, cap, sp, rfl, hg, hrow, hc1, hc2, hc3⟩
  · clear h
    go_enter Try.func55, Try.ntmps55
    go_wp2_with fail
    go_loopw [11] (fun i wr => i = .int .i64 0 ∧ wr = w.alloc (.cells #[.int .i64 x.s, .int .i64 x.n, .string (bs x.t), .int .i64 x.r] 60)) (fun _ _ => 0)
    case atStart => exact ⟨rfl, rfl⟩
    case round =>
      obtain ⟨rfl, rfl⟩ := hrel
      go_wp2_with fail
      go_end0
      exact ⟨rfl, World.grownBy_alloc w _ none⟩
  · have hlt := hrow.lt
    have HST : Hid (SpoilRel cap g w.heap.size x w (.int .i64 0) (w.alloc (.cells #[.int .i64 x.s, .int .i64 x.n, .string (bs x.t), .int .i64 x.r] 60))) :=
      ⟨0, Nat.zero_le _, rfl, World.grownBy_alloc w _ _, heap_alloc_new w _, _, hrow.up (Up.alloc _ _), by rw [List.length_append, itL_length]; exact hc3⟩
    unfold maxLen at hc2
    have hlc : l.length ≤ cap := hc1
    obtain ⟨n, hn⟩ : ∃ n, l.length = n := ⟨_, rfl⟩
    rw [hn] at hlc ⊢
    have hgX : g ≠ w.heap.size := by omega
    clear h hrow hc3 hn hc1 hg
    go_enter Try.func55, Try.ntmps55
    go_wp2_with fail
    go_loopw [4, 11] (fun _ i wr => SpoilRel cap g w.heap.size x w i wr) (fun _ i _ => cap - (intOf i).toNat)
    case atStart => exact HST.out
    case round =>
      obtain ⟨k, hk, rfl, hgr, hx, L, hL, hLl⟩ := hrel
      by_cases hlt2 : k < cap
      · obtain ⟨A, u0, u1, u2, u3, R, hA, rfl⟩ := split4 L (k * 4) (by omega)
        obtain ⟨c0, c1, c2, c3⟩ := cells4 hL hA
        have f0 := hL.frozen (k * 4)
        have f1 := hL.frozen (k * 4 + 1)
        have f2 := hL.frozen (k * 4 + 2)
        have f3 := hL.frozen (k * 4 + 3)
        have x0 : wr.cell? ⟨w.heap.size, 0, none⟩ = some (.int .i64 x.s) := hx.cell rfl
        have x1 : wr.cell? ⟨w.heap.size, 1, none⟩ = some (.int .i64 x.n) := hx.cell rfl
        have x2 : wr.cell? ⟨w.heap.size, 2, none⟩ = some (.string (bs x.t)) := hx.cell rfl
        have x3 : wr.cell? ⟨w.heap.size, 3, none⟩ = some (.int .i64 x.r) := hx.cell rfl
        have hset := hL.set4 hA (.int .i64 x.s) (.int .i64 x.n) (.string (bs x.t)) (.int .i64 x.r)
        have hgr2 := grown_set4 (a := k * 4) hgr (.int .i64 x.s) (.int .i64 x.n) (.string (bs x.t)) (.int .i64 x.r)
        have hx2 : RowI ((((wr.setCell ⟨g, k * 4, none⟩ (.int .i64 x.s)).setCell ⟨g, k * 4 + 1, none⟩ (.int .i64 x.n)).setCell ⟨g, k * 4 + 2, none⟩ (.string (bs x.t))).setCell ⟨g, k * 4 + 3, none⟩ (.int .i64 x.r)) w.heap.size (itC x) := by
          unfold RowI
          rw [other_set4 _ _ _ _ hgX]
          exact hx
        obtain ⟨wn, hwn⟩ : ∃ wn, (((wr.setCell ⟨g, k * 4, none⟩ (.int .i64 x.s)).setCell ⟨g, k * 4 + 1, none⟩ (.int .i64 x.n)).setCell ⟨g, k * 4 + 2, none⟩ (.string (bs x.t))).setCell ⟨g, k * 4 + 3, none⟩ (.int .i64 x.r) = wn := ⟨_, rfl⟩
        rw [hwn] at hset hgr2 hx2
        have HREL : Hid (SpoilRel cap g w.heap.size x w (.int .i64 ((k + 1 : Nat) : Int)) wn) := ⟨k + 1, by omega, rfl, hgr2, hx2, _, hset, by simp at hLl ⊢; omega⟩
        have HW := Lib.hid hwn
        have d1 : decide (k < cap) = true := decide_eq_true hlt2
        clear hset hgr2 hx2 hgr hx hL hLl hA hwn
        go_wp2_with fail
        rw [HW.out]
        go_roundw
        case rel => exact HREL.out
        case measure => simp only [intOf]; omega
      · have d1 : decide (k < cap) = false := decide_eq_false hlt2
        have HG := Lib.hid hgr
        clear hgr hx hL hLl
        go_wp2_with fail
        go_end0
        exact ⟨rfl, HG.out⟩

end Go.Proofs.Ytnmdfdkagkpcaaa

/-
  What spoilt (of the law on memory) does with a state of the call's own: only its own blocks turn. Conditions: as it says.
-/
namespace Go.Proofs.Ytnmdfdkagkpcaaa
open Go.RowKit
open Go.Proofs
open WoolBag
open WoolVol

theorem RowC.growK {w w' : World} {g T : Nat} {L : List Value} {row : Option Nat} (h : RowC w g T L) (hg : w.grownBy w' row) (hne : row ≠ some g) : RowC w' g T L := by
  have hlt := h.lt
  unfold RowC at h ⊢
  rw [hg.block g hlt (fun e => hne e.symm)]
  exact h

structure SptI (st : Sta) (C : List VC) (vb vv : Value) (lo hi X : Nat) (w : World) (j : Nat) (wr : World) : Prop where
  btw : Btw lo hi w wr
  box : RowC wr X 31 [vb, vv]
  vols : OVC wr lo vv C
  rest : ∀ k (h1 : k < C.length) (h2 : k < st.v.length), j ≤ k → OIds wr lo C[k].sl st.v[k].bl

def SptRel (st : Sta) (C : List VC) (vb vv : Value) (lo hi X n : Nat) (w : World) (i : Value) (wr : World) : Prop :=
  ∃ j : Nat, j ≤ n ∧ i = .int .i64 (j : Int) ∧ SptI st C vb vv lo hi X w j wr

set_option maxRecDepth 100000 in
set_option maxHeartbeats 2000000 in
theorem spoilt_any (v : Value) (st : Sta) (lo hi : Nat) (w : World) (h : RSt w lo hi v st) :
    Calls Try.prog 27 #[v] w fun e w' => e = .returned (.tuple #[]) ∧ Btw lo hi w w' := by
  obtain ⟨vb, vv, C, rfl, hb, htb, hv, htv, hr, htr⟩ := h.rows
  have hlen := hr.len
  obtain ⟨oB, cB, rfl, _⟩ := hb.items.slice
  obtain ⟨oV, cV, rfl, _, hcV⟩ := Sl.slice hv.vcs
  obtain ⟨nB, hnB⟩ : ∃ n, st.b.length = n := ⟨_, rfl⟩
  rw [hnB] at hb htb ⊢
  have HVB := Lib.hid hb
  have HTB := Lib.hid htb
  have HVV := Lib.hid hv
  have HTV := Lib.hid htv
  have HRD := Lib.hid hr
  have HTR := Lib.hid htr
  have HGW : Hid (∀ k (h1 : k < C.length) (h2 : k < st.v.length) g, C[k].sl.ownBlock = some g → g < w.heap.size) := fun k h1 h2 g hg => (World.ownsRow.lt (hr.bl k h2) g hg).2
  have HBW : Hid (∀ g, (Value.slice oB nB cB).ownBlock = some g → g < w.heap.size) := fun g hg => (World.ownsRow.lt hb g hg).2
  have HSB := Lib.hid (fun W (hW : Up w W) => spoil_any (.slice oB nB cB) st.b lo ⟨0, 0, [], 9⟩ W (hb.up hW))
  unfold itV at HSB
  simp only at HSB
  have HEM : Hid (bs [] = ⟨#[]⟩) := rfl
  rw [HEM.out] at HSB
  obtain ⟨n, hn⟩ : ∃ n, C.length = n := ⟨_, rfl⟩
  have HN := Lib.hid hn
  have HLN := Lib.hid hlen
  rw [hn] at HVV HTV ⊢
  have hn9 : n ≤ 9223372036854775807 := by
    unfold maxLen at hcV
    have h9 := Sl.slice hv.vcs
    obtain ⟨_, c9, e9, h8, h7⟩ := h9
    unfold maxLen at h7
    omega
  have HN9 := Lib.hid hn9
  clear h hb htb hv htv hr htr hlen hn hnB hcV hn9
  have HX : Hid (RowC (w.alloc (.cells #[.slice oB nB cB, .slice oV n cV] 31)) w.heap.size 31 [.slice oB nB cB, .slice oV n cV]) := heap_alloc_new w _
  have HUA : Hid (Up w (w.alloc (.cells #[.slice oB nB cB, .slice oV n cV] 31))) := Up.alloc _ _
  go_enter Try.func27, Try.ntmps27
  go_upto_region 1 with (fail)
  generalize w.alloc (.cells #[.slice oB nB cB, .slice oV n cV] 31) = W0 at HX HUA ⊢
  obtain ⟨X, hX⟩ : ∃ X, w.heap.size = X := ⟨_, rfl⟩
  have HXW : Hid (w.heap.size = X) := hX
  rw [hX] at HX ⊢
  clear hX
  have k0 := HX.out.cell (j := 0) rfl
  have k1 := HX.out.cell (j := 1) rfl
  go_wp2_with fail
  refine (HSB.out _ HUA.out).mono ?_
  rintro e w2 ⟨rfl, g2⟩
  have HX2 : Hid (RowC w2 X 31 [.slice oB nB cB, .slice oV n cV]) := HX.out.growK g2 (by intro e; have := HBW.out X e; have := HXW.out; omega)
  have HST : Hid (SptRel st C (.slice oB nB cB) (.slice oV n cV) lo hi X n w (.int .i64 0) w2) := by
    refine ⟨0, Nat.zero_le _, rfl, ⟨(Btw.up HUA.out).trans (Btw.grown g2 HTB.out), HX2.out, ?_, fun k h1 h2 _ => ?_⟩⟩
    · have h9 := own_growK (own_up HVV.out HUA.out) g2 (fun b hb e => own_apartT (HVB.out.up HUA.out) (own_up HVV.out HUA.out) (by decide) b e hb)
      exact h9
    · exact own_growK (own_up (HRD.out.bl k h2) HUA.out) g2 (fun b hb e => own_apartT (HVB.out.up HUA.out) (own_up (HRD.out.bl k h2) HUA.out) (by decide) b e hb)
  clear k0 k1 g2 HSB HX
  have k1 := HX2.out.cell (j := 1) rfl
  go_wp2_with fail
  go_loopw [11] (SptRel st C (.slice oB nB cB) (.slice oV n cV) lo hi X n w) (fun i _ => n - (intOf i).toNat)
  case atStart => exact HST.out
  case round =>
    clear HST k1
    obtain ⟨j, hj, rfl, hI⟩ := hrel
    have HI := Lib.hid hI
    have hn9 := HN9.out
    clear hI
    by_cases hlt : j < n
    · have dz : decide (j < n) = true := decide_eq_true hlt
      have hjC : j < C.length := by rw [HN.out]; exact hlt
      have hjS : j < st.v.length := by rw [← HLN.out]; exact hjC
      obtain ⟨b, off, hpo, hat⟩ := VCs.at HI.out.vols.vcs (fun e => by rw [e] at hjC; simp at hjC)
      obtain ⟨e1, e2⟩ := hat j hjC
      have hown := HI.out.rest j hjC hjS (Nat.le_refl _)
      have HSD := Lib.hid (fun W (hW : Up wr W) => spoilD_any C[j].sl st.v[j].bl.length lo (fl idC st.v[j].bl) false 0 9 W (own_up hown hW))
      have HOW := Lib.hid hown
      have HTJ := Lib.hid (HTR.out j hjC)
      have HGJ := Lib.hid (HGW.out j hjC hjS)
      obtain ⟨oS, cS, hsl, _, _⟩ := (OIds.ids hown).slice
      generalize bs C[j].nm = NM at e1
      obtain ⟨SL, hSL⟩ : ∃ SL, C[j].sl = SL := ⟨_, rfl⟩
      have HAP : Hid (∀ k (h1 : k < C.length) (h2 : k < st.v.length) (hne : j ≠ k) b, SL.ownBlock = some b → C[k].sl.ownBlock ≠ some b) := by
        intro k h1 h2 hne b hb
        rw [← hSL] at hb
        exact HRD.out.apart j k hjS h2 b hne hb
      rw [hSL] at e2 hsl HSD HOW HTJ HGJ
      clear hat hown hSL
      subst hpo
      obtain ⟨NL, hNL⟩ : ∃ NL, st.v[j].bl.length = NL := ⟨_, rfl⟩
      rw [hNL] at hsl
      subst hsl
      clear hNL
      have HI2 := HI
      clear HI
      have HI := HI2
      clear HI2
      go_upto_region 5 with (fail)
      have HUP := Lib.hid (Up.alloc wr (.cells #[.string NM, .slice oS NL cS] 62))
      have HQ : Hid (RowC (wr.alloc (.cells #[.string NM, .slice oS NL cS] 62)) wr.heap.size 62 [.string NM, .slice oS NL cS]) := heap_alloc_new wr _
      generalize wr.alloc (.cells #[.string NM, .slice oS NL cS] 62) = WA at HUP HQ ⊢
      generalize wr.heap.size = Q at HQ ⊢
      have y1 := HQ.out.cell (j := 1) rfl
      clear e1 e2
      go_wp2_with fail
      refine (HSD.out _ HUP.out).mono ?_
      rintro e w5 ⟨rfl, g5⟩
      have HI5 : Hid (SptI st C (.slice oB nB cB) (.slice (some ⟨b, off, none⟩) n cV) lo hi X w (j + 1) w5) := by
        refine ⟨(HI.out.btw.trans (Btw.up HUP.out)).trans (Btw.grown g5 HTJ.out), (HI.out.box.up HUP.out).growK g5 (by intro e; have := HGJ.out X e; have := HXW.out; omega), ?_, fun k h1 h2 hk => ?_⟩
        · exact own_growK (own_up HI.out.vols HUP.out) g5 (fun b hb e => own_apartT (own_up HOW.out HUP.out) (own_up HI.out.vols HUP.out) (by decide) b e hb)
        · exact own_growK (own_up (HI.out.rest k h1 h2 (by omega)) HUP.out) g5 (fun b hb e => HAP.out k h1 h2 (by omega) b e hb)
      clear y1 g5
      go_wp2_with fail
      go_roundw
      case rel => exact ⟨j + 1, by omega, by go_num, HI5.out⟩
      case measure => simp only [intOf]; omega
    · have dz : decide (j < n) = false := decide_eq_false hlt
      have k1 := HI.out.box.cell (j := 1) rfl
      have HSV := Lib.hid (spoilV_any (.slice oV n cV) n lo (fl vcC C) ⟨#[115, 112, 111, 105, 108, 116]⟩ wr (by have h9 := HI.out.vols; unfold OVC at h9; rw [HN.out] at h9; exact h9))
      go_wp2_with fail
      refine HSV.out.mono ?_
      rintro e w5 ⟨rfl, g5⟩
      have HB := Lib.hid (HI.out.btw.trans (Btw.grown g5 HTV.out))
      clear g5 k1
      go_wp2_with fail
      go_end0
      exact ⟨rfl, HB.out⟩

end Go.Proofs.Ytnmdfdkagkpcaaa
