/-
  What the reference's Put returns. Conditions: the row can be read and is a right bag.
-/
import Derived.Test.YtbeigaanlhaolaaGreatDoorJB30
import Derived.Test.YtbeigaanlhaolaaGreatDoorJB34
import Derived.Test.YtbeigaanlhaolaaGreatDoorJB35
import Derived.BigQuiet
import Derived.Maps.AppendAt
namespace WoolBag
variable {F : List UInt8 → Int}

theorem idx_txt {l : List Itm} {t : List UInt8} (hb : Bag F l) {k : Nat} (hk : k < l.length) (e : l[k].t = t) : idx (txtB t) l = some k :=
  idx_of hk (txtB_iff.2 e) (fun j hj => by
    rw [Bool.eq_false_iff]
    intro h
    have := hb.txt_inj (Nat.lt_trans hj hk) hk ((txtB_iff.1 h).trans e.symm)
    omega)

theorem put_full {l : List Itm} {t : List UInt8} (hb : Bag F l) (ht : t.length ≤ 64) {k : Nat} (hk : k < l.length) (e : l[k].t = t) (hr : l[k].r = 1000000) : put F l t = ([], noId, 8) := by
  unfold put
  rw [(chk_zero F).2 hb, if_neg (fun h => h rfl), if_neg (by omega), idx_txt hb hk e]
  show (if (l[k]!).r = 1000000 then _ else _) = _
  rw [getElem!_pos l k hk, if_pos hr]

theorem put_long {l : List Itm} {t : List UInt8} (hb : Bag F l) (ht : 64 < t.length) : put F l t = ([], noId, 2) := by
  unfold put
  rw [(chk_zero F).2 hb, if_neg (fun h => h rfl), if_pos ht]

theorem put_sixty {l : List Itm} {t : List UInt8} (hb : Bag F l) (ht : t.length ≤ 64) (e : idx (txtB t) l = none) (hl : l.length = 64) : put F l t = ([], noId, 8) := by
  unfold put
  rw [(chk_zero F).2 hb, if_neg (fun h => h rfl), if_neg (by omega), e]
  show (if l.length = 64 then _ else _) = _
  rw [if_pos hl]

end WoolBag
namespace Go.Proofs.YtbeigaanlhaolaaGreatDoor
open Go.RowKit
open Go.Proofs
open WoolBag

/-- what Put leaves -/
def RPutPost (w : World) (R : List Itm × (Bool × Int × Int) × Int) (e : Ending) (w' : World) : Prop :=
  ∃ o c, e = .returned (.tuple #[.slice o R.1.length c, idV R.2.1, .int .i64 R.2.2]) ∧ Items w' (.slice o R.1.length c) R.1 ∧ Up w w'

/-- the boxes of Put: the identifier's, the row's -/
structure St (w : World) (O : Nat) (v : Value) (l : List Itm) (wr : World) : Prop where
  up : Up w wr
  idb : BoxI wr w.heap.size 86 (.bool false) (.int .i64 0) (.int .i64 0)
  box : wr.heap[O]? = some (.cells #[v] 33 (0, 0))
  own : OItems wr (w.heap.size + 1) v l
  lt : w.heap.size < O
  blk : ∀ b, v.ownBlock = some b → b < O

theorem St.ltO {w wr : World} {O : Nat} {v : Value} {l : List Itm} (h : St w O v l wr) : O < wr.heap.size := (Array.getElem?_eq_some_iff.1 h.box).1

theorem St.ups {w wr wr' : World} {O : Nat} {v : Value} {l : List Itm} (h : St w O v l wr) (u : Up wr wr') : St w O v l wr' :=
  ⟨h.up.trans u, h.idb.up u, (u.block O h.ltO).trans h.box, h.own.up u, h.lt, h.blk⟩

theorem St.grown {w wr wr' : World} {O : Nat} {v : Value} {l : List Itm} {ob : Option Nat} (h : St w O v l wr) (hg : wr.grownBy wr' ob) (hb : ∀ b, ob = some b → O < b) : St w O v l wr' := by
  have hlt := h.lt
  have hO := h.ltO
  have hk : ∀ j, j ≤ O → wr'.heap[j]? = wr.heap[j]? := fun j hj => hg.block j (by omega) (fun e => by
    first
      | (have := hb j e; omega)
      | (have := hb j e.symm; omega))
  refine ⟨Below.grown h.up hg h.up.size (fun j hj => by have := hb j hj; omega), (hk _ (by omega)).trans h.idb, (hk _ (Nat.le_refl _)).trans h.box, h.own.keep (fun b hbb => hk b (by have := h.blk b hbb; omega)), hlt, h.blk⟩

theorem inL_snoc (l : List Int) (x : Int) : inL (l ++ [x]) = inL l ++ [.int .i64 x] := by unfold inL; rw [List.map_append]; rfl

theorem one_memI (x : Value) (h : x.oneCell' = true) : ∀ u ∈ [x], u.oneCell' = true := by
  intro u hu; rw [List.mem_singleton] at hu; rw [hu]; exact h

/-- an identifier is stored, and the call ends -/
theorem St.store {w wr : World} {O : Nat} {v : Value} {l : List Itm} (h : St w O v l wr) (a b c : Value) :
    BoxI (((wr.setCell ⟨w.heap.size, 0, none⟩ a).setCell ⟨w.heap.size, 1, none⟩ b).setCell ⟨w.heap.size, 2, none⟩ c) w.heap.size 86 a b c ∧
    Up w (((wr.setCell ⟨w.heap.size, 0, none⟩ a).setCell ⟨w.heap.size, 1, none⟩ b).setCell ⟨w.heap.size, 2, none⟩ c) :=
  ⟨h.idb.set a b c, ((Below.setCell h.up (p := ⟨w.heap.size, 0, none⟩) (Nat.le_refl _) _).setCell (p := ⟨w.heap.size, 1, none⟩) (Nat.le_refl _) _).setCell (p := ⟨w.heap.size, 2, none⟩) (Nat.le_refl _) _⟩

theorem grown_set1 (w : World) (g j : Nat) (v : Value) : w.grownBy (w.setCell ⟨g, j, none⟩ v) (some g) :=
  ⟨rfl, rfl, rfl, by simp [World.setCell], fun k hk hne => by
    have hkg : g ≠ k := fun e => hne (by rw [e])
    simp [World.setCell, Array.getElem?_modify, hkg]⟩

theorem Items.keepB {w w' : World} {g n c : Nat} {l : List Itm} (h : Items w (.slice (some ⟨g, 0, none⟩) n c) l) (hk : w'.heap[g]? = w.heap[g]?) : Items w' (.slice (some ⟨g, 0, none⟩) n c) l := by
  have hc : ∀ j, w'.cell? ⟨g, j, none⟩ = w.cell? ⟨g, j, none⟩ := fun j => by simp [World.cell?, hk]
  obtain ⟨o', c', h1, h2, h3, h4⟩ := h
  refine ⟨o', c', h1, h2, h3, ?_⟩
  rcases h4 with h4 | ⟨b, off, h5, h6⟩
  · exact .inl h4
  · subst h5
    simp only [Value.slice.injEq, Option.some.injEq, Addr.mk.injEq] at h1
    obtain ⟨⟨rfl, rfl, _⟩, _, _⟩ := h1
    refine .inr ⟨g, 0, rfl, fun k hkl => ?_⟩
    obtain ⟨a1, a2, a3, a4⟩ := h6 k hkl
    exact ⟨(hc _).trans a1, (hc _).trans a2, (hc _).trans a3, (hc _).trans a4⟩

def Cre2 (l : List Itm) (t : List UInt8) (w : World) (O : Nat) (v us : Value) (X gg : Nat) (wr : World) : Prop :=
  ∃ k : Nat, from_ l (FP t) k ≤ gg ∧ nfree l (FP t) 0 = nfree l (FP t) k ∧ k + from_ l (FP t) k ≤ 64 ∧ BoxX wr X ⟨FP t, (k : Int), t, 1⟩ ∧ St w O v l wr ∧ OInts wr (O + 1) us (nums l (FP t))

def PRel (t : List UInt8) (l : List Itm) (w : World) (O : Nat) (v us i : Value) (wr : World) : Prop :=
  ∃ k : Nat, k ≤ l.length ∧ i = .int .i64 k ∧ St w O v l wr ∧ OInts wr (O + 1) us (nums (l.take k) (FP t)) ∧ ∀ j (h : j < l.length), j < k → txtB t l[j] = false

set_option maxRecDepth 100000 in
set_option maxHeartbeats 4000000 in
theorem refPut_any (v : Value) (l : List Itm) (t : List UInt8) (w : World) (h : Items w v l) (hb : Bag FP l) :
    Calls Tryz.prog 79 #[v, .string (bs t)] w (RPutPost w (WoolBag.put FP l t)) := by
  obtain ⟨R, hR⟩ : ∃ R, WoolBag.put FP l t = R := ⟨_, rfl⟩
  rw [hR]
  have hl := hb.len
  have hsz := bs_size t
  have HCL := Lib.hid (fun W (hW : Up w W) => sclone_any v l W (h.up hW) hl)
  obtain ⟨o, c, rfl, h3⟩ := h.slice
  unfold maxLen at h3
  by_cases g1 : 64 < t.length
  · rw [put_long hb g1] at hR
    subst hR
    rw [← hsz] at g1
    clear h hb HCL hl hsz
    go_enter Tryz.func79, Tryz.ntmps79
    go_wp2_with fail
    exact bodyPost_ret (v := .tuple #[.slice none 0 0, .agg #[.bool false, .int .i64 0, .int .i64 0], .int .i64 2]) (by simp [results, Tryz.results79, go_sem]) rfl ⟨none, 0, rfl, Items.nil _, Up.alloc _ _⟩
  have ht : t.length ≤ 64 := by omega
  have hs1 : (bs t).size ≤ 64 := by omega
  have HFP := Lib.hid (fun W => refPrintB t W ht)
  have HT := Lib.hid ht
  have HB := Lib.hid hb
  have HR := Lib.hid hR
  obtain ⟨i0, hi, hz0, hz1, hz2⟩ := inInfo
  have HI := Lib.hid hi
  have HZ0 := Lib.hid hz0
  have HZ1 := Lib.hid hz1
  have HZ2 := Lib.hid hz2
  obtain ⟨N, hN⟩ : ∃ N, l.length = N := ⟨_, rfl⟩
  have HNL := Lib.hid hN
  rw [hN] at hl HCL ⊢
  clear h hb g1 ht hsz hR hi hz0 hz1 hz2 hN
  go_enter Tryz.func79, Tryz.ntmps79
  go_wp2_with fail
  refine (HCL.out _ (Up.alloc _ _)).mono ?_
  rintro e w2 ⟨v', rfl, hown, u2⟩
  obtain ⟨o', c', hv', hc'⟩ := hown.items.slice
  rw [HNL.out] at hv'
  subst hv'
  unfold maxLen at hc'
  have HST : Hid (St w w2.heap.size (.slice o' N c') l (w2.alloc (.cells #[.slice o' N c'] 33))) := by
    have hlt : w.heap.size < w2.heap.size := (BoxI.up (BoxI.new w 86 (.bool false) (.int .i64 0) (.int .i64 0)) u2).lt
    refine ⟨(Up.after _ _ _ u2).trans (Up.alloc _ _), (BoxI.up (BoxI.new w 86 (.bool false) (.int .i64 0) (.int .i64 0)) u2).up (Up.alloc _ _), heap_alloc_new w2 _, ?_, hlt, fun b hb => (World.ownsRow.lt hown b hb).2⟩
    have h2 := hown.up (Up.alloc w2 (.cells #[.slice o' N c'] 33))
    exact h2.base (by simp)
  obtain ⟨O, hO⟩ : ∃ O, w2.heap.size = O := ⟨_, rfl⟩
  rw [hO] at HST
  have HO := Lib.hid hO
  clear hown u2 hO HCL
  go_wp2_with fail
  rw [HO.out]
  obtain ⟨w3, hw3⟩ : ∃ w3, w2.alloc (.cells #[.slice o' N c'] 33) = w3 := ⟨_, rfl⟩
  rw [hw3] at HST ⊢
  clear hw3 HO w2
  go_loopw [8, 9, 20] (fun us _ i wr => PRel t l w O (.slice o' N c') us i wr) (fun _ _ i _ => N - (intOf i).toNat)
  case atStart => exact ⟨0, Nat.zero_le _, rfl, HST.out, OInts.nil _ _, fun j _ hj => by omega⟩
  case round =>
    obtain ⟨k, hk, rfl, hst, hus, hno⟩ := hrel
    have HN := Lib.hid hno
    clear hno HST
    have hI1 : w.heap.size < wr.heap.size := hst.idb.lt
    have hI2 : w.heap.size ≠ wr.heap.size := by omega
    have hO1 : O < wr.heap.size := hst.ltO
    have hO2 : O ≠ wr.heap.size := by omega
    have hOI : w.heap.size < O := hst.lt
    have hOI2 : O ≠ w.heap.size := by omega
    have hOI3 : w.heap.size ≠ O := by omega
    have HST := Lib.hid hst
    have HUS := Lib.hid hus
    obtain ⟨z0, z1, z2⟩ := hst.idb.cells
    have y0 := hst.idb.frozen 0
    have y1 := hst.idb.frozen 1
    have y2 := hst.idb.frozen 2
    have cO : wr.cell? ⟨O, 0, none⟩ = some (.slice o' N c') := cell_of_row _ _ 0 _ _ _ hst.box
    by_cases hlt : k < N
    · have hkl : k < l.length := by rw [HNL.out]; exact hlt
      rcases hst.own.row with ⟨_, hn⟩ | ⟨g, cap, sp, hvv, hg, hrow, hc1, hc2, hc3⟩
      · rw [hn] at hkl; simp at hkl
      simp only [Value.slice.injEq] at hvv
      obtain ⟨rfl, hNN, rfl⟩ := hvv
      obtain ⟨b1, b2, b3, b4⟩ := itL_get l k hkl
      have a1 := hrow.cell (get_app (sp := sp) b1)
      have a2 := hrow.cell (get_app (sp := sp) b2)
      have a3 := hrow.cell (get_app (sp := sp) b3)
      have a4 := hrow.cell (get_app (sp := sp) b4)
      have hgl := hrow.lt
      have hgO : g < O := hst.blk g rfl
      have HB4 := Lib.hid b4
      have HSR := Lib.hid (itL_setR l k hkl 1)
      have HROW := Lib.hid hrow
      have HC := Lib.hid (And.intro hc1 (And.intro hc2 hc3))
      have HG := Lib.hid hg
      obtain ⟨x, hx⟩ : ∃ x, l[k] = x := ⟨_, rfl⟩
      have HX := Lib.hid hx
      have hok := HB.out.ok _ (List.getElem_mem hkl)
      have r1 := hok.2.2.2.2.1
      have r2 := hok.2.2.2.2.2
      rw [hx] at a1 a2 a3 a4 HB4 HSR r1 r2
      have hq := txt_eq x.t t
      obtain ⟨P, hP⟩ : ∃ P, txtB t x = P := ⟨_, rfl⟩
      rw [show (x.t == t) = txtB t x from rfl, hP] at hq
      have HPP := Lib.hid hP
      have d1 : decide (k < N) = true := decide_eq_true hlt
      obtain ⟨xs, hxs⟩ : ∃ xs, x.s = xs := ⟨_, rfl⟩
      obtain ⟨xn, hxn⟩ : ∃ xn, x.n = xn := ⟨_, rfl⟩
      obtain ⟨xt, hxt⟩ : ∃ xt, bs x.t = xt := ⟨_, rfl⟩
      obtain ⟨xr, hxr⟩ : ∃ xr, x.r = xr := ⟨_, rfl⟩
      have HXS := Lib.hid hxs
      have HXN := Lib.hid hxn
      have HXT := Lib.hid hxt
      have HXR := Lib.hid hxr
      rw [hxs] at a1
      rw [hxn] at a2
      rw [hxt] at a3 hq
      rw [hxr] at a4 HB4 HSR r1 r2
      have HSTX := Lib.hid (hst.ups (Up.alloc wr (.cells #[.int .i64 xs, .int .i64 xn, .string xt, .int .i64 xr] 89)))
      have HBX := Lib.hid (heap_alloc_new wr (.cells #[.int .i64 xs, .int .i64 xn, .string xt, .int .i64 xr] 89))
      have HUSX := Lib.hid (hus.up (Up.alloc wr (.cells #[.int .i64 xs, .int .i64 xn, .string xt, .int .i64 xr] 89)))
      clear hst hus b1 b2 b3 b4 hrow hc1 hc2 hc3 hg hx hok hP hxs hxn hxt hxr hNN
      cases P with
      | true =>
        have HXT2 := Lib.hid (txtB_iff.1 HPP.out)
        by_cases e6 : xr = 1000000
        · have HRV : Hid (R = ([], noId, 8)) := by
            show R = _
            rw [← HR.out]
            exact put_full HB.out HT.out hkl (by rw [HX.out]; exact HXT2.out) (by rw [HX.out, HXR.out]; exact e6)
          subst e6
          obtain ⟨hbz, huz⟩ := HST.out.store (.bool false) (.int .i64 0) (.int .i64 0)
          have HBZ := Lib.hid (hbz.up (Up.alloc _ (.cells #[.int .i64 xs, .int .i64 xn, .string xt, .int .i64 1000000] 89)))
          have HUZ := Lib.hid (huz.trans (Up.alloc _ (.cells #[.int .i64 xs, .int .i64 xn, .string xt, .int .i64 1000000] 89)))
          clear hbz huz
          go_wp2_with fail
          obtain ⟨w11, hw11⟩ : ∃ w11, ((((wr.setCell ⟨w.heap.size, 0, none⟩ (.bool false)).setCell ⟨w.heap.size, 1, none⟩ (.int .i64 0)).setCell ⟨w.heap.size, 2, none⟩ (.int .i64 0)).alloc (.cells #[.int .i64 xs, .int .i64 xn, .string xt, .int .i64 1000000] 89)) = w11 := ⟨_, rfl⟩
          rw [hw11] at HBZ HUZ ⊢
          obtain ⟨s0, s1, s2⟩ := HBZ.out.cells
          exact bodyPost_ret (v := .tuple #[.slice none 0 0, .agg #[.bool false, .int .i64 0, .int .i64 0], .int .i64 8]) (by simp [results, Tryz.results79, go_sem, s0, s1, s2]) rfl
            ⟨none, 0, by rw [HRV.out]; rfl, by rw [HRV.out]; exact Items.nil _, HUZ.out⟩
        · have HRV : Hid (R = (l.set k (more l[k] 1), idOf l[k], 0)) := by
            show R = _
            rw [← HR.out]
            exact put_at HB.out HT.out hkl (by rw [HX.out]; exact HXT2.out) (by rw [HX.out, HXR.out]; exact e6)
          have g6 : decide (1000000 ≤ xr) = false := by rw [decide_eq_false_iff_not]; omega
          have p1 : IntKind.i64.wrap (xr + 1) = xr + 1 := IntWalk.i64_in _ (by omega)
          have fz := HROW.out.frozen (k * 4 + 3)
          have hgX : g ≠ wr.heap.size := by omega
          have hgI : g ≠ w.heap.size := by have := HG.out; omega
          obtain ⟨wq, hwq⟩ : ∃ wq, wr.setCell ⟨g, k * 4 + 3, none⟩ (.int .i64 (xr + 1)) = wq := ⟨_, rfl⟩
          have hsq : wq.heap.size = wr.heap.size := by rw [← hwq]; simp [World.setCell]
          have hoth : ∀ b, g ≠ b → wq.heap[b]? = wr.heap[b]? := fun b hb => by rw [← hwq]; simp [World.setCell, Array.getElem?_modify, hb]
          have hrq := HROW.out.set (k * 4 + 3) (.int .i64 (xr + 1))
          rw [List.set_append_left _ _ (by rw [itL_length]; omega), HSR.out, hwq] at hrq
          have huq : Up w wq := by rw [← hwq]; exact Below.setCell HST.out.up (p := ⟨g, k * 4 + 3, none⟩) (by have := HG.out; show w.heap.size ≤ g; omega) _
          obtain ⟨w5, hw5⟩ : ∃ w5, wq.alloc (.cells #[.int .i64 xs, .int .i64 xn, .string xt, .int .i64 xr] 89) = w5 := ⟨_, rfl⟩
          have ha5 := Up.alloc wq (.cells #[.int .i64 xs, .int .i64 xn, .string xt, .int .i64 xr] 89)
          have hx5 := heap_alloc_new wq (.cells #[.int .i64 xs, .int .i64 xn, .string xt, .int .i64 xr] 89)
          rw [hsq] at hx5
          rw [hw5] at ha5 hx5
          have hr5 := hrq.up ha5
          have hu5 := huq.trans ha5
          have hb5 : BoxI w5 w.heap.size 86 (.bool false) (.int .i64 0) (.int .i64 0) := BoxI.up ((hoth _ hgI).trans HST.out.idb) ha5
          have hO5 : w5.heap[O]? = some (.cells #[.slice (some ⟨g, 0, none⟩) N c'] 33 (0, 0)) := (ha5.block O (by omega)).trans ((hoth O (by omega)).trans HST.out.box)
          have HB5 := Lib.hid hb5
          have HR5 := Lib.hid hr5
          have HU5 := Lib.hid hu5
          have HW5 : Hid ((wr.setCell ⟨g, k * 4 + 3, none⟩ (.int .i64 (xr + 1))).alloc (.cells #[.int .i64 xs, .int .i64 xn, .string xt, .int .i64 xr] 89) = w5) := by
            show _ = _
            rw [hwq]; exact hw5
          have HX5 := Lib.hid hx5
          have HO5 := Lib.hid hO5
          clear hwq hsq hoth hrq huq hw5 ha5 hx5 hr5 hb5 hO5 hu5 wq
          go_wp2_with fail
          rw [HW5.out]
          clear z0 z1 z2 y0 y1 y2 cO a1 a2 a3 a4 fz
          obtain ⟨z0, z1, z2⟩ := HB5.out.cells
          have y0 := HB5.out.frozen 0
          have y1 := HB5.out.frozen 1
          have y2 := HB5.out.frozen 2
          have cO : w5.cell? ⟨O, 0, none⟩ = some (.slice (some ⟨g, 0, none⟩) N c') := cell_of_row _ _ 0 _ _ _ HO5.out
          have e0 : w5.cell? ⟨wr.heap.size, 0, none⟩ = some (.int .i64 xs) := cell_of_row _ _ 0 _ _ _ HX5.out
          have e1 : w5.cell? ⟨wr.heap.size, 1, none⟩ = some (.int .i64 xn) := cell_of_row _ _ 1 _ _ _ HX5.out
          have hI3 : wr.heap.size ≠ w.heap.size := by omega
          generalize wr.heap.size = X at e0 e1 hI3 hI2 hI1 ⊢
          obtain ⟨hbz, huz⟩ := (⟨HB5.out.set (.bool true) (.int .i64 xs) (.int .i64 xn), ((Below.setCell HU5.out (p := ⟨w.heap.size, 0, none⟩) (Nat.le_refl _) (.bool true)).setCell (p := ⟨w.heap.size, 1, none⟩) (Nat.le_refl _) (.int .i64 xs)).setCell (p := ⟨w.heap.size, 2, none⟩) (Nat.le_refl _) (.int .i64 xn)⟩ : _ ∧ _)
          have hrz : RowI (((w5.setCell ⟨w.heap.size, 0, none⟩ (.bool true)).setCell ⟨w.heap.size, 1, none⟩ (.int .i64 xs)).setCell ⟨w.heap.size, 2, none⟩ (.int .i64 xn)) g (itL (l.set k (more x 1)) ++ sp) := by
            have h1 := HR5.out
            unfold RowI at h1 ⊢
            rw [← h1]
            simp [World.setCell, Array.getElem?_modify, Ne.symm hgI]
          go_region
          all_goals
            obtain ⟨w11, hw11⟩ : ∃ w11, (((w5.setCell ⟨w.heap.size, 0, none⟩ (.bool true)).setCell ⟨w.heap.size, 1, none⟩ (.int .i64 xs)).setCell ⟨w.heap.size, 2, none⟩ (.int .i64 xn)) = w11 := ⟨_, rfl⟩
            rw [hw11] at hbz huz hrz ⊢
            obtain ⟨s0, s1, s2⟩ := BoxI.up hbz (Up.drew w11) |>.cells
            go_wp2_with fail
            have hlen : (l.set k (more x 1)).length = N := by rw [List.length_set]; exact HNL.out
            exact bodyPost_ret (v := .tuple #[.slice (some ⟨g, 0, none⟩) N c', .agg #[.bool true, .int .i64 xs, .int .i64 xn], .int .i64 0]) (by simp [results, Tryz.results79, go_sem, s0, s1, s2]) rfl
              ⟨some ⟨g, 0, none⟩, c', by rw [HRV.out, HX.out]; simp only; rw [hlen, ← HXS.out, ← HXN.out]; rfl, by rw [HRV.out, HX.out]; simp only; rw [hlen]; exact Items.of_row (hrz.up (Up.drew w11)) hlen (by have := HC.out.1; have := HNL.out; omega) HC.out.2.1, Up.trans huz (Up.drew w11)⟩
      | false =>
        have HNK : Hid (∀ j (h : j < l.length), j < k + 1 → txtB t l[j] = false) := fun j hj hjk => by
          by_cases e : j = k
          · subst e; rw [HX.out]; exact HPP.out
          · exact HN.out j hj (by omega)
        go_wp2_with fail
        clear z0 z1 z2 y0 y1 y2 cO a2 a3 hI1 hI2 hO1 hO2
        have q0 := World.cell?_alloc_new wr #[.int .i64 xs, .int .i64 xn, .string xt, .int .i64 xr] 89 0
        have q4 : wr.heap.size < (wr.alloc (.cells #[.int .i64 xs, .int .i64 xn, .string xt, .int .i64 xr] 89)).heap.size := by simp
        go_region_held3 (fun U => U.cell? ⟨wr.heap.size, 0, none⟩ = some (.int .i64 xs)) (go_keep)
          ((go_at_call 18; ((with_reducible refine (HFP.out _).mono ?_); rintro e w4 ⟨rfl, u4⟩; have f0 := (Below.cell u4 (p := ⟨wr.heap.size, 0, none⟩) q4).trans q0)))
        all_goals
          have u4' := (Up.drew _).trans u4
          have hst4 := HSTX.out.ups u4'
          have hus4 := HUSX.out.up u4'
          have hxb : w4.heap[wr.heap.size]? = some (.cells #[.int .i64 xs, .int .i64 xn, .string xt, .int .i64 xr] 89 (0, 0)) := (u4.block wr.heap.size q4).trans HBX.out
          have HST4 := Lib.hid hst4
          have HUS4 := Lib.hid hus4
          have e1 : w4.cell? ⟨wr.heap.size, 1, none⟩ = some (.int .i64 xn) := cell_of_row _ _ 1 _ _ _ hxb
          have hXlt : wr.heap.size < w4.heap.size := (Array.getElem?_eq_some_iff.1 hxb).1
          have hXne : wr.heap.size ≠ w4.heap.size := by omega
          have hOl := hst4.ltO
          have hnl : (nums (l.take k) (FP t)).length ≤ 64 := by
            have h1 := nums_length (l.take k) (FP t)
            rw [List.length_take] at h1
            omega
          clear f0 q0 q4 u4 u4' hst4 hus4 hxb a1 a4 HSTX HUSX HBX HST HUS
          generalize wr.heap.size = X at e1 hXlt hXne ⊢
          by_cases g7 : xs = FP t
          · have HNUM := Lib.hid (nums_hit hkl (σ := FP t) (by rw [HX.out, HXS.out]; exact g7))
            rw [HX.out, HXN.out] at HNUM
            have g8 : (xs == FP t) = true := by simpa using g7
            generalize nums (l.take k) (FP t) = NL at *
            clear g7
            go_wp2_with (at_builtin; refine wpList_append_own _ rfl _ _ 157 rfl (O + 1) 3 i0 (.int .i64 0) 1 8 Tryz.underlying157 HI.out HZ0.out HZ1.out HZ2.out rfl (by decide) _ _ _ rfl (World.ownsRow.alloc HUS4.out _) ⟨w4.heap.size, 0, none⟩ 1 1 [.int .i64 xn] rfl rfl (cell_one_new _ _ _) (one_memI _ rfl) (by unfold maxLen; omega) (by omega) (by simp; omega) ?_)
            intro v7 w7 hown hgrow _
            have HUS7 : Hid (OInts w7 (O + 1) v7 (NL ++ [xn])) := by
              show OInts w7 (O + 1) v7 (NL ++ [xn])
              unfold OInts
              rw [inL_snoc, List.length_append]
              exact hown
            have HST7 : Hid (St w O (.slice (some ⟨g, 0, none⟩) N c') l w7) := (HST4.out.ups (Up.alloc _ _)).grown hgrow (fun b hb => by have := (World.ownsRow.lt HUS4.out b hb).1; omega)
            clear hown hgrow
            go_wp2_with fail
            go_roundw
            case rel => exact ⟨k + 1, by omega, by go_num, HST7.out, by rw [HNUM.out]; exact HUS7.out, HNK.out⟩
            case measure => simp only [intOf]; omega
          · have HNUM := Lib.hid (nums_miss hkl (σ := FP t) (by rw [HX.out, HXS.out]; exact g7))
            have g8 : (xs == FP t) = false := by simpa using g7
            clear g7
            go_wp2_with fail
            go_roundw
            case rel => exact ⟨k + 1, by omega, by go_num, HST4.out, by rw [HNUM.out]; exact HUS4.out, HNK.out⟩
            case measure => simp only [intOf]; omega
    · have hkN : k = N := by have := HNL.out; omega
      have d1 : decide (k < N) = false := decide_eq_false hlt
      have HNO : Hid (∀ x ∈ l, txtB t x = false) := fun x hx => by
        obtain ⟨i, hi, rfl⟩ := List.getElem_of_mem hx
        exact HN.out i hi (by have := HNL.out; omega)
      by_cases hbig : N = 64
      · have HRV : Hid (R = ([], noId, 8)) := by
          show R = _
          rw [← HR.out]
          exact put_sixty HB.out HT.out (idx_none.2 HNO.out) (by rw [HNL.out]; exact hbig)
        obtain ⟨hbz, huz⟩ := HST.out.store (.bool false) (.int .i64 0) (.int .i64 0)
        have d63 : decide (63 < N) = true := by rw [decide_eq_true_iff]; omega
        go_wp2_with fail
        obtain ⟨w11, hw11⟩ : ∃ w11, (((wr.setCell ⟨w.heap.size, 0, none⟩ (.bool false)).setCell ⟨w.heap.size, 1, none⟩ (.int .i64 0)).setCell ⟨w.heap.size, 2, none⟩ (.int .i64 0)) = w11 := ⟨_, rfl⟩
        rw [hw11] at hbz huz ⊢
        obtain ⟨s0, s1, s2⟩ := hbz.cells
        exact bodyPost_ret (v := .tuple #[.slice none 0 0, .agg #[.bool false, .int .i64 0, .int .i64 0], .int .i64 8]) (by simp [results, Tryz.results79, go_sem, s0, s1, s2]) rfl
          ⟨none, 0, by rw [HRV.out]; rfl, by rw [HRV.out]; exact Items.nil _, huz⟩
      · have d63 : decide (63 < N) = false := by rw [decide_eq_false_iff_not]; omega
        have hus' : OInts wr (O + 1) u8 (nums l (FP t)) := by
          have h1 := HUS.out
          rw [List.take_of_length_le (by rw [HNL.out]; omega)] at h1
          exact h1
        have HUSL := Lib.hid hus'
        have HRV : Hid (R = (ins (new FP l t) l, idOf (new FP l t), 0)) := by
          show R = _
          rw [← HR.out]
          exact put_new HB.out HT.out (fun x hx e => by have h1 := HNO.out x hx; rw [txtB_iff.2 e] at h1; cases h1) (by rw [HNL.out]; exact hbig)
        clear hst hus hus' z0 z1 z2 y0 y1 y2 cO hI1 hI2 hO1 hO2 HUS
        go_wp2_with fail
        refine (HFP.out _).mono ?_
        rintro e w4 ⟨rfl, u4⟩
        have HST4 := Lib.hid (HST.out.ups u4)
        have HUS4 := Lib.hid (HUSL.out.up u4)
        clear u4 HST HUSL
        obtain ⟨X, hXX⟩ : ∃ X, w4.heap.size = X := ⟨_, rfl⟩
        have hOX : O < X := by rw [← hXX]; exact HST4.out.ltO
        have HOB : Hid (∀ b, u8.ownBlock = some b → b < X) := fun b hb => by rw [← hXX]; exact (World.ownsRow.lt HUS4.out b hb).2
        have HF := from_le l (FP t) 0
        have HFL : 0 + from_ l (FP t) 0 ≤ 64 := by have := HNL.out; omega
        have HSTA : Hid (Cre2 l t w O (.slice o' N c') u8 X (from_ l (FP t) 0) (w4.alloc (.cells #[.int .i64 (FP t), .int .i64 0, .string (bs t), .int .i64 1] 89))) :=
          ⟨0, Nat.le_refl _, rfl, HFL, by rw [← hXX]; exact heap_alloc_new w4 _, HST4.out.ups (Up.alloc _ _), HUS4.out.up (Up.alloc _ _)⟩
        clear HF HFL HST4 HUS4
        go_wp2_with fail
        obtain ⟨w5, hw5⟩ : ∃ w5, w4.alloc (.cells #[.int .i64 (FP t), .int .i64 0, .string (bs t), .int .i64 1] 89) = w5 := ⟨_, rfl⟩
        rw [hw5] at HSTA ⊢
        clear hw5 hXX w4
        go_loopg [68] (from_ l (FP t) 0) (fun gg _ wr => Cre2 l t w O (.slice o' N c') u8 X gg wr)
        case atStart => exact HSTA.out
        case round =>
          obtain ⟨k2, hk1, hk2, hk3, hbx, hst, hus⟩ := hrel
          have HBX := Lib.hid hbx
          have HSTR := Lib.hid hst
          have HUSR := Lib.hid hus
          have HK2 := Lib.hid hk2
          have e0 := RowI.cell (j := 0) hbx rfl
          have e1 := RowI.cell (j := 1) hbx rfl
          have HCON := Lib.hid (containsInt u8 (O + 1) (nums l (FP t)) (k2 : Int) wr hus)
          rw [nums_contains] at HCON
          have hkk : k2 ≤ 64 := by omega
          obtain ⟨Q, hQ⟩ : ∃ Q, l.any (idB (true, FP t, (k2 : Int))) = Q := ⟨_, rfl⟩
          rw [hQ] at HCON
          have HQ := Lib.hid hQ
          clear hbx hst hus hk2 hQ HSTA
          go_wp2_with fail
          refine HCON.out.mono ?_
          rintro e w6 ⟨rfl, u6⟩
          have hbx6 := RowI.up HBX.out u6
          have HBX6 := Lib.hid hbx6
          have HST6 := Lib.hid (HSTR.out.ups u6)
          have HUS6 := Lib.hid (HUSR.out.up u6)
          clear e0 e1
          have f0 := RowI.cell (j := 0) hbx6 rfl
          have f1 := RowI.cell (j := 1) hbx6 rfl
          have f2 := RowI.cell (j := 2) hbx6 rfl
          have f3 := RowI.cell (j := 3) hbx6 rfl
          have fz := RowI.frozen hbx6 1
          have hX6 := RowI.lt hbx6
          clear u6 hbx6 HBX HSTR HUSR HCON
          cases Q with
          | true =>
            have p1 : IntKind.i64.wrap ((k2 : Int) + 1) = (k2 : Int) + 1 := IntWalk.i64_in _ (by omega)
            have hlt2 := from_lt HQ.out
            have HLT := Lib.hid hlt2
            have HREL : Hid (Cre2 l t w O (.slice o' N c') u8 X (from_ l (FP t) (k2 + 1)) (w6.setCell ⟨X, 1, none⟩ (.int .i64 ((k2 : Int) + 1)))) := by
              refine ⟨k2 + 1, Nat.le_refl _, by rw [HK2.out]; exact nfree_step HQ.out, by omega, ?_, HST6.out.grown (grown_set1 w6 X 1 _) (fun b hb => by cases hb; exact hOX), HUS6.out.keep (fun b hb => ?_)⟩
              · have := RowI.set HBX6.out 1 (.int .i64 ((k2 : Int) + 1))
                exact this
              · have hbX := HOB.out b hb
                simp [World.setCell, Array.getElem?_modify, show X ≠ b by omega]
            clear hlt2
            go_wp2_with fail
            go_roundg (from_ l (FP t) (k2 + 1))
            case measure => have := HLT.out; omega
            case rel => exact HREL.out
          | false =>
            have HNW : Hid (new FP l t = ⟨FP t, (k2 : Int), t, 1⟩) := by
              show _ = _
              unfold new
              rw [HK2.out, nfree_stop HQ.out]
            have hno' : ∀ y ∈ l, y.t ≠ t := fun y hy e => by have h1 := HNO.out y hy; rw [txtB_iff.2 e] at h1; cases h1
            have hbag := bag_ins HB.out (new_ok (F := FP) HT.out (by rw [HNL.out]; exact hl) (by rw [HNL.out]; exact hbig)) (new_id l t) hno' (by rw [HNL.out]; exact hbig)
            rw [HNW.out] at hbag HRV
            obtain ⟨x, hx⟩ : ∃ x : Itm, (⟨FP t, (k2 : Int), t, 1⟩ : Itm) = x := ⟨_, rfl⟩
            rw [hx] at hbag HRV HBX6
            have HBAG := Lib.hid hbag
            have hic : itC x = [.int .i64 (FP t), .int .i64 (k2 : Int), .string (bs t), .int .i64 1] := by rw [← hx]; rfl
            have HIC := Lib.hid hic
            have HXX : Hid (idOf x = (true, FP t, (k2 : Int))) := by show _ = _; rw [← hx]; rfl
            obtain ⟨i1, hi, hz0, hz1, hz2⟩ := itInfo'
            have HI' := Lib.hid hi
            have HZ0' := Lib.hid hz0
            have HZ1' := Lib.hid hz1
            have HZ2' := Lib.hid hz2
            have hsrc : ∀ j u, (itC x)[j]? = some u → (w6.alloc (.cells #[.int .i64 (FP t), .int .i64 (k2 : Int), .string (bs t), .int .i64 1] 89)).cell? ((⟨w6.heap.size, 0, none⟩ : Addr).add j) = some u := fun j u hu => by
              rw [add_lit, Nat.zero_add]
              exact RowI.cell (L := itC x) (by rw [HIC.out]; exact heap_alloc_new w6 _) hu
            have HSRC := Lib.hid hsrc
            have h1x : ∀ u ∈ itC x, u.oneCell' = true := by have := itL_one [x]; rwa [show itL [x] = itC x from List.append_nil (itC x)] at this
            have H1X := Lib.hid h1x
            have hown6 : w6.ownsRow (w.heap.size + 1) 89 4 (.slice o' N c') N (itL l) := by
              have h1 := HST6.out.own
              unfold OItems at h1
              rw [HNL.out] at h1
              exact h1
            have HOWN6 := Lib.hid hown6
            have cO6 : w6.cell? ⟨O, 0, none⟩ = some (.slice o' N c') := cell_of_row _ _ 0 _ _ _ HST6.out.box
            have hO6 : O < w6.heap.size := HST6.out.ltO
            have hO6' : O ≠ w6.heap.size := by omega
            have hX6' : X ≠ w6.heap.size := by omega
            have hmf' := hmf
            clear hno' hbag hx hic hi hz0 hz1 hz2 hsrc h1x hown6 hk1 hk3
            generalize FP t = FT at *
            go_wp2_with (at_builtin; refine wpList_append_own_at _ rfl _ _ 33 rfl (w.heap.size + 1) 89 i1 _ 4 40 Tryz.underlying33 HI'.out HZ0'.out HZ1'.out HZ2'.out rfl (by omega) _ _ _ rfl (World.ownsRow.alloc HOWN6.out _) ⟨w6.heap.size, 0, none⟩ 1 1 (itC x) rfl rfl HSRC.out H1X.out (by unfold maxLen; omega) (by omega) (by simp; omega) ?_)
            intro v7 w7 hown hgrow _ hloc
            have ho7 : OItems w7 (w.heap.size + 1) v7 (l ++ [x]) := by
              unfold OItems
              rw [itL_append, show itL [x] = itC x from List.append_nil (itC x), List.length_append, HNL.out]
              exact hown
            have hkeep : ∀ j, j < w6.heap.size → (∀ b, (Value.slice o' N c').ownBlock = some b → b ≠ j) → w7.heap[j]? = w6.heap[j]? := fun j hj hne => by
              refine (hgrow.block j (by simp; omega) (fun e => ?_)).trans ((Up.alloc w6 _).block j hj)
              first
                | exact hne j e rfl
                | exact hne j e.symm rfl
            have hblk := HST6.out.blk
            have hgI : ∀ b, (Value.slice o' N c').ownBlock = some b → w.heap.size + 1 ≤ b := fun b hb => (World.ownsRow.lt HOWN6.out b hb).1
            have hb7 : BoxI w7 w.heap.size 86 (.bool false) (.int .i64 0) (.int .i64 0) := (hkeep _ (by omega) (fun b hb e => by have := hgI b hb; omega)).trans HST6.out.idb
            have hO7 : w7.heap[O]? = some (.cells #[.slice o' N c'] 33 (0, 0)) := (hkeep O hO6 (fun b hb e => by have := hblk b hb; omega)).trans HST6.out.box
            have hX7 : RowI w7 X (itC x) := (hkeep X hX6 (fun b hb e => by have := hblk b hb; omega)).trans HBX6.out
            have hu7 : Up w w7 := Below.grown (HST6.out.up.trans (Up.alloc w6 _)) hgrow (HST6.out.up.trans (Up.alloc w6 (.cells #[.int .i64 FT, .int .i64 (k2 : Int), .string (bs t), .int .i64 1] 89))).size (fun j hj => by have := hgI j hj; omega)
            rcases ho7.row with ⟨_, hn⟩ | ⟨g7, c7, sp7, rfl, hg7, hrow7, hc1, hc2, hc3⟩
            · simp at hn
            have hlen7 : (l ++ [x]).length = N + 1 := by rw [List.length_append, HNL.out]; rfl
            have hg7X : g7 ≠ X := by
              rcases hloc with h | h
              · have := hblk g7 (h.symm.trans rfl); omega
              · have h' : g7 = _ := Option.some.inj h
                first | omega | (simp at h'; omega)
            have hg7O : O ≠ g7 := by
              rcases hloc with h | h
              · have := hblk g7 (h.symm.trans rfl); omega
              · have h' : g7 = _ := Option.some.inj h
                first | omega | (simp at h'; omega)
            rw [hlen7] at hc1
            have hcx : c7 ≤ 9223372036854775807 := by unfold maxLen at hc2; omega
            have HC2 := Lib.hid hc2
            obtain ⟨w8, hw8⟩ : ∃ w8, w7.setCell ⟨O, 0, none⟩ (.slice (some ⟨g7, 0, none⟩) (N + 1) c7) = w8 := ⟨_, rfl⟩
            have hoth8 : ∀ b, O ≠ b → w8.heap[b]? = w7.heap[b]? := fun b hb => by rw [← hw8]; simp [World.setCell, Array.getElem?_modify, hb]
            have hrow8 : RowI w8 g7 (itL (l ++ [x]) ++ sp7) := (hoth8 g7 hg7O).trans hrow7
            have hO8 : w8.heap[O]? = some (.cells #[.slice (some ⟨g7, 0, none⟩) (N + 1) c7] 33 (0, 0)) := by rw [← hw8]; simp [World.setCell, Array.getElem?_modify, hO7]
            have cO8 : w8.cell? ⟨O, 0, none⟩ = some (.slice (some ⟨g7, 0, none⟩) (l ++ [x]).length c7) := by rw [hlen7]; exact cell_of_row _ _ 0 _ _ _ hO8
            have hX8 : RowI w8 X (itC x) := (hoth8 X (by omega)).trans hX7
            have hb8 : BoxI w8 w.heap.size 86 (.bool false) (.int .i64 0) (.int .i64 0) := (hoth8 _ hOI2).trans hb7
            have hu8 : Up w w8 := by rw [← hw8]; exact Below.setCell hu7 (p := ⟨O, 0, none⟩) (by show w.heap.size ≤ O; omega) _
            have HSORT := Lib.hid (sortI g7 c7 O (l ++ [x]) sp7 w8 hrow8 cO8 hg7O (by rw [hlen7]; omega) (by rw [hlen7]; omega) (by rw [hlen7]; exact hc1) hc2)
            unfold SortPost at HSORT
            rw [hlen7] at HSORT
            have HO8 := Lib.hid hO8
            have HX8 := Lib.hid hX8
            have HB8 := Lib.hid hb8
            have HU8 := Lib.hid hu8
            have HW8 := Lib.hid hw8
            have HG7 := Lib.hid hg7
            have fO7 : w7.frozen? ⟨O, 0, none⟩ = false := by simp [World.frozen?, hO7]
            have cO7 : w7.cell? ⟨O, 0, none⟩ = some (.slice o' N c') := cell_of_row _ _ 0 _ _ _ hO7
            clear hown hgrow hloc ho7 hkeep hblk hgI hb7 hO7 hX7 hu7 hrow7 hc2 hc3 hw8 hoth8 hrow8 hO8 cO8 hX8 hb8 hu8 hg7 HOWN6 HST6 HBX6 HSRC H1X f0 f1 f2 f3 fz cO6
            go_wp2_with fail
            rw [HW8.out]
            refine HSORT.out.mono ?_
            rintro e w9 ⟨rfl, d', hperm, hpw, hit9, hg9⟩
            have hd : d' = ins x l := sort_ins HBAG.out hperm hpw
            subst hd
            have hk9 : ∀ j, j < w8.heap.size → g7 ≠ j → w9.heap[j]? = w8.heap[j]? := fun j hj hne => hg9.block j hj (fun e => by
              first
                | exact hne (Option.some.inj e)
                | exact hne (Option.some.inj e).symm)
            have hgI7 : g7 ≠ w.heap.size := by have := HG7.out; omega
            have hb9 : BoxI w9 w.heap.size 86 (.bool false) (.int .i64 0) (.int .i64 0) := (hk9 _ HB8.out.lt hgI7).trans HB8.out
            have hO9 : w9.heap[O]? = some (.cells #[.slice (some ⟨g7, 0, none⟩) (N + 1) c7] 33 (0, 0)) := (hk9 O (Array.getElem?_eq_some_iff.1 HO8.out).1 (Ne.symm hg7O)).trans HO8.out
            have hX9 : RowI w9 X (itC x) := (hk9 X HX8.out.lt hg7X).trans HX8.out
            have hu9 : Up w w9 := Below.grown HU8.out hg9 HU8.out.size (fun j hj => by cases hj; have := HG7.out; omega)
            rw [HIC.out] at hX9
            have cO : w9.cell? ⟨O, 0, none⟩ = some (.slice (some ⟨g7, 0, none⟩) (N + 1) c7) := cell_of_row _ _ 0 _ _ _ hO9
            have e0 := RowI.cell (j := 0) hX9 rfl
            have e1 := RowI.cell (j := 1) hX9 rfl
            obtain ⟨z0, z1, z2⟩ := hb9.cells
            have y0 := hb9.frozen 0
            have y1 := hb9.frozen 1
            have y2 := hb9.frozen 2
            have hXI : X ≠ w.heap.size := by omega
            have hXI2 : w.heap.size ≠ X := by omega
            have hbz := hb9.set (.bool true) (.int .i64 FT) (.int .i64 (k2 : Int))
            have huz := ((Below.setCell hu9 (p := ⟨w.heap.size, 0, none⟩) (Nat.le_refl _) (.bool true)).setCell (p := ⟨w.heap.size, 1, none⟩) (Nat.le_refl _) (.int .i64 FT)).setCell (p := ⟨w.heap.size, 2, none⟩) (Nat.le_refl _) (.int .i64 (k2 : Int))
            have hiz := Items.keepB (w' := ((w9.setCell ⟨w.heap.size, 0, none⟩ (.bool true)).setCell ⟨w.heap.size, 1, none⟩ (.int .i64 FT)).setCell ⟨w.heap.size, 2, none⟩ (.int .i64 (k2 : Int))) hit9 (by simp [World.setCell, Array.getElem?_modify, Ne.symm hgI7])
            have HBZ := Lib.hid hbz
            have HUZ := Lib.hid huz
            have HIZ := Lib.hid hiz
            clear hbz huz hiz hperm hpw hit9 hg9 hk9 hb9 hO9 hX9 hu9 HSORT HB8 HO8 HX8 HU8 HW8 fO7 cO7
            go_wp2_with fail
            go_region
            all_goals
              obtain ⟨w11, hw11⟩ : ∃ w11, (((w9.setCell ⟨w.heap.size, 0, none⟩ (.bool true)).setCell ⟨w.heap.size, 1, none⟩ (.int .i64 FT)).setCell ⟨w.heap.size, 2, none⟩ (.int .i64 (k2 : Int))) = w11 := ⟨_, rfl⟩
              rw [hw11] at HBZ HUZ HIZ ⊢
              obtain ⟨s0, s1, s2⟩ := BoxI.up HBZ.out (Up.drew w11) |>.cells
              go_wp2_with fail
              have hlen : (ins x l).length = N + 1 := by rw [length_ins, HNL.out]
              exact bodyPost_ret (v := .tuple #[.slice (some ⟨g7, 0, none⟩) (N + 1) c7, .agg #[.bool true, .int .i64 FT, .int .i64 (k2 : Int)], .int .i64 0]) (by simp [results, Tryz.results79, go_sem, s0, s1, s2]) rfl
                ⟨some ⟨g7, 0, none⟩, c7, by rw [HRV.out]; simp only; rw [hlen, HXX.out]; rfl, by rw [HRV.out]; simp only; rw [hlen]; exact HIZ.out.up (Up.drew w11), Up.trans HUZ.out (Up.drew w11)⟩
end Go.Proofs.YtbeigaanlhaolaaGreatDoor
