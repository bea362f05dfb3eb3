/-
  The texts RefBag3, RefBag4, RefVol7, ShelfS, one behind the other; each says below what it holds and on what conditions.
-/
import Derived.Test.YtbeigaanlhaolaaGreatDoorJB29
import Derived.Test.YtbeigaanlhaolaaGreatDoorJB21
import Derived.Test.YtbeigaanlhaolaaGreatDoorJB33
import Derived.Test.YtbeigaanlhaolaaGreatDoorJB17
import Derived.Ground.GgsProg
import Derived.Shelf.GgSortFunc.Tiny
import Derived.Shelf.SlSortFuncK.WholeK
import Derived.Test.YtbeigaanlhaolaaGreatDoorProg

/-
  What slices.DeleteFunc (by the reference's own predicate) and the reference's Less return. Conditions: as each says.
-/
namespace Go.Proofs.YtbeigaanlhaolaaGreatDoor
open Go.RowKit
open Go.Proofs
open WoolBag

def noR (x : Itm) : Bool := x.r == 0

theorem less1_in (w : World) : Pred w 108 #[] noR := by
  intro W _ x
  show Calls Tryz.prog 108 #[itV x] W _
  unfold itV noR
  generalize x.r = r
  cases d1 : (r == 0) with
  | true =>
    go_enter Tryz.func108, Tryz.ntmps108
    go_wp2_with fail
    go_ret
    exact ⟨by simp, Up.alloc _ _⟩
  | false =>
    go_enter Tryz.func108, Tryz.ntmps108
    go_wp2_with fail
    go_ret
    exact ⟨by simp, Up.alloc _ _⟩

theorem eg_less : ∀ args w, (callFunc 108 args).run Tryz.prog w = .ok (.enter 108 args) w := enters_of Tryz.func108 (by kernel_rfl) rfl

theorem zeroR_size (n : Nat) : (Builtin.zeroCells (Value.agg #[.int .i64 0, .int .i64 0, .string ⟨#[]⟩, .int .i64 0]).cells n).toList.length = n * 4 := zeroI_size n
theorem zeroR_one (n : Nat) : ∀ u ∈ (Builtin.zeroCells (Value.agg #[.int .i64 0, .int .i64 0, .string ⟨#[]⟩, .int .i64 0]).cells n).toList, u.oneCell' = true := by
  intro u hu
  unfold Builtin.zeroCells at hu
  simp at hu
  obtain ⟨i, _, rfl⟩ := hu
  have hc : (Value.agg #[.int .i64 0, .int .i64 0, .string ⟨#[]⟩, .int .i64 0]).cells = #[.int .i64 0, .int .i64 0, .string ⟨#[]⟩, .int .i64 0] := rfl
  rw [hc]
  have hm : i % 4 < 4 := Nat.mod_lt _ (by omega)
  show (#[Value.int .i64 0, .int .i64 0, .string ⟨#[]⟩, .int .i64 0][i % 4]!).oneCell' = true
  match h : i % 4, hm with
  | 0, _ => rfl
  | 1, _ => rfl
  | 2, _ => rfl
  | 3, _ => rfl

/-- clear of some items -/
theorem clear_some {w : World} {g s c n : Nat} {L : List Value} (h : RowI w g L) (h0 : 0 < n) (hs : s + n * 4 ≤ L.length) :
    ∃ Z, Z.length = n * 4 ∧ ∀ ty, (Builtin.clear_ #[33] ty #[.slice (some ⟨g, s, none⟩) n c]).run Tryz.prog w = .ok (.tuple #[]) (w.setRow g (splice L s Z).toArray) := by
  refine ⟨_, zeroR_size n, fun ty => ?_⟩
  have hst := run_storeCells_at Tryz.prog g s 89 (Builtin.zeroCells (Value.agg #[.int .i64 0, .int .i64 0, .string ⟨#[]⟩, .int .i64 0]).cells n).toList 0 L.toArray w h (by rw [zeroR_size]; simpa using hs) (zeroR_one n)
  simp only [Nat.add_zero] at hst
  obtain ⟨m, rfl⟩ : ∃ m, n = m + 1 := ⟨n - 1, by omega⟩
  simp [Builtin.clear_, run_underlying Tryz.underlying33, hst, splice]

/-- what slices.DeleteFunc leaves -/
def DelPost (l : List Itm) (g cap : Nat) (w : World) (e : Ending) (w' : World) : Prop :=
  e = .returned (.slice (some ⟨g, 0, none⟩) (l.filter fun x => !noR x).length cap) ∧ Items w' (.slice (some ⟨g, 0, none⟩) (l.filter fun x => !noR x).length cap) (l.filter fun x => !noR x) ∧ w.grownBy w' (some g)

def DelRel (l : List Itm) (g : Nat) (sp : List Value) (w : World) (i j : Value) (wr : World) : Prop :=
  ∃ (a b : Nat) (st : List Value), i = .int .i64 a ∧ j = .int .i64 b ∧ a < b ∧ b ≤ l.length ∧ ((l.take b).filter fun x => !noR x).length = a ∧ st.length = (b - a) * 4 ∧
    RowI wr g (itL ((l.take b).filter fun x => !noR x) ++ (st ++ (itL (l.drop b) ++ sp))) ∧ w.grownBy wr (some g)

theorem filter_take {l : List Itm} {b : Nat} (hb : b < l.length) : ((l.take (b + 1)).filter fun x => !noR x) = ((l.take b).filter fun x => !noR x) ++ (if noR l[b] = true then [] else [l[b]]) := by
  rw [List.take_succ_eq_append_getElem hb, List.filter_append]
  congr 1
  rw [List.filter_cons]
  cases noR l[b] <;> simp

theorem filter_all {l : List Itm} {k : Nat} (h : ∀ j (hj : j < l.length), j < k → noR l[j] = false) : ((l.take k).filter fun x => !noR x) = l.take k := by
  rw [List.filter_eq_self]
  intro x hx
  obtain ⟨j, hj, rfl⟩ := List.getElem_of_mem hx
  rw [List.length_take] at hj
  rw [List.getElem_take, h j (by omega) (by omega)]
  rfl

theorem cons4 (st : List Value) (h : 4 ≤ st.length) : ∃ v0 v1 v2 v3 r, st = v0 :: v1 :: v2 :: v3 :: r := by
  match st, h with
  | v0 :: v1 :: v2 :: v3 :: r, _ => exact ⟨v0, v1, v2, v3, r, rfl⟩

theorem Items.of_row {w : World} {g n cap : Nat} {l : List Itm} {sp : List Value} (h : RowI w g (itL l ++ sp)) (hn : l.length = n) (h1 : n ≤ cap) (h2 : cap ≤ maxLen) : Items w (.slice (some ⟨g, 0, none⟩) n cap) l := by
  subst hn
  refine ⟨_, cap, rfl, h1, h2, .inr ⟨g, 0, rfl, fun k hk => ?_⟩⟩
  obtain ⟨b1, b2, b3, b4⟩ := itL_get l k hk
  have hc : ∀ j v, (itL l)[j]? = some v → w.cell? ⟨g, 0 + j, none⟩ = some v := fun j v hv => by rw [Nat.zero_add]; exact h.cell (get_app hv)
  exact ⟨hc _ _ b1, hc _ _ b2, hc _ _ b3, hc _ _ b4⟩

set_option maxRecDepth 100000 in
set_option maxHeartbeats 2000000 in
theorem deleteF_any (l : List Itm) (g cap : Nat) (sp : List Value) (w : World) (hrow : RowI w g (itL l ++ sp)) (hl : l.length ≤ 64) (hc1 : l.length ≤ cap) (hc2 : cap ≤ maxLen) :
    Calls Tryz.prog 107 #[.slice (some ⟨g, 0, none⟩) l.length cap, .func (.func 108) #[] #[]] w (DelPost l g cap w) := by
  have hit := Items.of_row hrow rfl hc1 hc2
  have HIX := Lib.hid (indexF _ l w 108 #[] noR eg_less hit (less1_in w))
  have HROW := Lib.hid hrow
  have HC2 := Lib.hid hc2
  unfold maxLen at hc2
  have hgl := hrow.lt
  obtain ⟨n, hn⟩ : ∃ n, l.length = n := ⟨_, rfl⟩
  have HN := Lib.hid hn
  rw [hn] at HIX hl hc1 ⊢
  clear hrow hit hn
  go_enter Tryz.func107, Tryz.ntmps107
  go_wp2_with fail
  refine HIX.out.mono ?_
  rintro e w1 ⟨rfl, u1⟩
  have HR1 := Lib.hid (HROW.out.up u1)
  have HG1 : Hid (w.grownBy w1 (some g)) := ⟨u1.os, u1.tape, u1.output, u1.size, fun j hj _ => u1.block j hj⟩
  have hgl1 : g < w1.heap.size := Nat.lt_of_lt_of_le hgl u1.size
  clear u1 HIX HROW
  unfold ixI
  cases hi : idx noR l with
  | none =>
    have hall : (l.filter fun x => !noR x) = l := by rw [List.filter_eq_self]; intro x hx; rw [idx_none.1 hi x hx]; rfl
    have HALL := Lib.hid hall
    clear hi hall
    simp only
    go_wp2_with fail
    go_ret
    refine ⟨by rw [HALL.out, HN.out]; rfl, ?_, HG1.out⟩
    rw [HALL.out]
    exact Items.of_row HR1.out rfl (by rw [HN.out]; exact hc1) HC2.out
  | some k0 =>
    obtain ⟨hk0, hp0, hbef⟩ := idx_some hi
    have hfa := filter_all (l := l) (k := k0) (fun j hj hjk => hbef j hjk)
    have hf1 : ((l.take (k0 + 1)).filter fun x => !noR x) = l.take k0 := by rw [filter_take hk0, if_pos hp0, hfa, List.append_nil]
    have HST : Hid (DelRel l g sp w (.int .i64 (k0 : Int)) (.int .i64 ((k0 + 1 : Nat) : Int)) w1) := by
      refine ⟨k0, k0 + 1, itC l[k0], rfl, rfl, by omega, hk0, by rw [hf1, List.length_take]; omega, by rw [show k0 + 1 - k0 = 1 by omega]; rfl, ?_, HG1.out⟩
      rw [hf1]
      have e : itL l = itL (l.take k0) ++ (itC l[k0] ++ itL (l.drop (k0 + 1))) := by
        rw [← itL_cons, ← List.drop_eq_getElem_cons hk0, ← itL_append, List.take_append_drop]
      have hr := HR1.out
      rw [e, List.append_assoc, List.append_assoc] at hr
      exact hr
    rw [HN.out] at hk0
    have hw1 : IntKind.i64.wrap ((k0 : Int) + 1) = (k0 : Int) + 1 := IntWalk.i64_in _ (by omega)
    have hkm : ((k0 : Int) == -1) = false := by simp
    clear hi hp0 hbef hfa hf1
    simp only
    go_wp2_with fail
    go_loopw [5, 6] (fun i j wr => DelRel l g sp w i j wr) (fun _ j _ => n - (intOf j).toNat)
    case atStart => exact HST.out
    case round =>
      obtain ⟨a, b, st, rfl, rfl, hab, hbl, hfl, hsl, hr, hgr⟩ := hrel
      rw [HN.out] at hbl
      have hgr1 : g < wr.heap.size := hr.lt
      have hILf : (itL ((l.take b).filter fun x => !noR x)).length = a * 4 := by rw [itL_length, hfl]
      by_cases hlt : b < n
      · have hbL : b < l.length := by rw [HN.out]; exact hlt
        have d1 : decide (b < n) = true := decide_eq_true hlt
        have hdrop : itL (l.drop b) = itC l[b] ++ itL (l.drop (b + 1)) := by rw [List.drop_eq_getElem_cons hbL, itL_cons]
        have hpre : (itL ((l.take b).filter fun x => !noR x) ++ st).length = b * 4 := by rw [List.length_append, hILf, hsl]; omega
        have hr' : RowI wr g ((itL ((l.take b).filter fun x => !noR x) ++ st) ++ (.int .i64 l[b].s :: .int .i64 l[b].n :: .string (bs l[b].t) :: .int .i64 l[b].r :: (itL (l.drop (b + 1)) ++ sp))) := by
          have h2 := hr
          rw [hdrop, List.append_assoc, ← List.append_assoc] at h2
          exact h2
        obtain ⟨c0, c1, c2, c3⟩ := cells4 hr' hpre
        have hpred := less1_in wr (wr.alloc (.cells #[.int .i64 l[b].s, .int .i64 l[b].n, .string (bs l[b].t), .int .i64 l[b].r] 89)) (Up.alloc _ _) l[b]
        have hpred' : Calls Tryz.prog 108 #[.agg #[.int .i64 l[b].s, .int .i64 l[b].n, .string (bs l[b].t), .int .i64 l[b].r]] (wr.alloc (.cells #[.int .i64 l[b].s, .int .i64 l[b].n, .string (bs l[b].t), .int .i64 l[b].r] 89)) fun e w' => e = .returned (.bool (noR l[b])) ∧ Up (wr.alloc (.cells #[.int .i64 l[b].s, .int .i64 l[b].n, .string (bs l[b].t), .int .i64 l[b].r] 89)) w' := hpred
        have hft := filter_take hbL
        obtain ⟨P, hP⟩ : ∃ P, noR l[b] = P := ⟨_, rfl⟩
        rw [hP] at hpred' hft
        have HPR := Lib.hid hpred'
        have HFT := Lib.hid hft
        have HR' := Lib.hid hr'
        have HRW := Lib.hid hr
        have HGR := Lib.hid hgr
        have HQ := Lib.hid (heap_alloc_new wr (.cells #[.int .i64 l[b].s, .int .i64 l[b].n, .string (bs l[b].t), .int .i64 l[b].r] 89))
        have HDR := Lib.hid hdrop
        have HFL := Lib.hid hfl
        have HSL := Lib.hid hsl
        have HIL := Lib.hid hILf
        have hltA : wr.heap.size < (wr.alloc (.cells #[.int .i64 l[b].s, .int .i64 l[b].n, .string (bs l[b].t), .int .i64 l[b].r] 89)).heap.size := by simp
        have hwb : IntKind.i64.wrap ((b : Int) + 1) = (b : Int) + 1 := IntWalk.i64_in _ (by omega)
        have hwa : IntKind.i64.wrap ((a : Int) + 1) = (a : Int) + 1 := IntWalk.i64_in _ (by omega)
        clear hr hr' hgr hpred hpred' hft hP hdrop hpre hfl hsl hILf
        cases P with
        | true =>
          have HF1 : Hid (((l.take (b + 1)).filter fun x => !noR x) = ((l.take b).filter fun x => !noR x)) := by show _ = _; rw [HFT.out, if_pos rfl, List.append_nil]
          clear HFT
          go_wp2_with (go_at_call 108; refine HPR.out.mono ?_; rintro e w2 ⟨rfl, u2⟩)
          have hu := (Up.alloc wr (.cells #[.int .i64 l[b].s, .int .i64 l[b].n, .string (bs l[b].t), .int .i64 l[b].r] 89)).trans u2
          go_roundw
          case rel =>
            refine ⟨a, b + 1, st ++ itC l[b], rfl, by go_num, by omega, by omega, ?_, ?_, ?_, ?_⟩
            · rw [HF1.out]; exact HFL.out
            · rw [List.length_append, HSL.out]; show _ + 4 = _; omega
            · rw [HF1.out]
              have h2 := HRW.out.up hu
              rw [HDR.out] at h2
              simpa [List.append_assoc] using h2
            · have hg := HGR.out
              exact ⟨hu.os.trans hg.os, hu.tape.trans hg.tape, hu.output.trans hg.output, Nat.le_trans hg.size hu.size, fun j hj hne => (hu.block j (Nat.lt_of_lt_of_le hj hg.size)).trans (hg.block j hj hne)⟩
          case measure => simp only [intOf]; omega
        | false =>
          have HF2 : Hid (((l.take (b + 1)).filter fun x => !noR x) = ((l.take b).filter fun x => !noR x) ++ [l[b]]) := by show _ = _; rw [HFT.out, if_neg (by simp)]
          clear HFT
          go_wp2_with fail
          refine HPR.out.mono ?_
          rintro e w2 ⟨rfl, u2⟩
          have hu := (Up.alloc wr (.cells #[.int .i64 l[b].s, .int .i64 l[b].n, .string (bs l[b].t), .int .i64 l[b].r] 89)).trans u2
          obtain ⟨v0, v1, v2, v3, st', hst⟩ := cons4 st (by rw [HSL.out]; omega)
          have hsl' : st'.length + 4 = (b - a) * 4 := by rw [← HSL.out, hst]; simp
          have hr2 := HRW.out.up hu
          rw [hst] at hr2
          have hr3 : RowI w2 g (itL ((l.take b).filter fun x => !noR x) ++ (v0 :: v1 :: v2 :: v3 :: (st' ++ (itL (l.drop b) ++ sp)))) := hr2
          obtain ⟨s0, s1, s2, s3⟩ := cells4 hr3 HIL.out
          have f0 := hr3.frozen (a * 4)
          have f1 := hr3.frozen (a * 4 + 1)
          have f2 := hr3.frozen (a * 4 + 2)
          have f3 := hr3.frozen (a * 4 + 3)
          have hx2 := (u2.block wr.heap.size hltA).trans HQ.out
          have x0 : w2.cell? ⟨wr.heap.size, 0, none⟩ = some (.int .i64 l[b].s) := cell_of_row _ _ 0 _ _ _ hx2
          have x1 : w2.cell? ⟨wr.heap.size, 1, none⟩ = some (.int .i64 l[b].n) := cell_of_row _ _ 1 _ _ _ hx2
          have x2 : w2.cell? ⟨wr.heap.size, 2, none⟩ = some (.string (bs l[b].t)) := cell_of_row _ _ 2 _ _ _ hx2
          have x3 : w2.cell? ⟨wr.heap.size, 3, none⟩ = some (.int .i64 l[b].r) := cell_of_row _ _ 3 _ _ _ hx2
          have hset := hr3.set4 HIL.out (.int .i64 l[b].s) (.int .i64 l[b].n) (.string (bs l[b].t)) (.int .i64 l[b].r)
          have hg := HGR.out
          have hg2 : w.grownBy w2 (some g) := ⟨hu.os.trans hg.os, hu.tape.trans hg.tape, hu.output.trans hg.output, Nat.le_trans hg.size hu.size, fun j hj hne => (hu.block j (Nat.lt_of_lt_of_le hj hg.size)).trans (hg.block j hj hne)⟩
          have hg3 := grown_set4 (a := a * 4) hg2 (.int .i64 l[b].s) (.int .i64 l[b].n) (.string (bs l[b].t)) (.int .i64 l[b].r)
          obtain ⟨wn, hwn⟩ : ∃ wn, (((w2.setCell ⟨g, a * 4, none⟩ (.int .i64 l[b].s)).setCell ⟨g, a * 4 + 1, none⟩ (.int .i64 l[b].n)).setCell ⟨g, a * 4 + 2, none⟩ (.string (bs l[b].t))).setCell ⟨g, a * 4 + 3, none⟩ (.int .i64 l[b].r) = wn := ⟨_, rfl⟩
          rw [hwn] at hset hg3
          have HREL : Hid (DelRel l g sp w (.int .i64 ((a + 1 : Nat) : Int)) (.int .i64 ((b + 1 : Nat) : Int)) wn) := by
            refine ⟨a + 1, b + 1, st' ++ itC l[b], rfl, rfl, by omega, by omega, ?_, ?_, ?_, hg3⟩
            · rw [HF2.out, List.length_append, HFL.out]; rfl
            · rw [List.length_append]; show _ + 4 = _; omega
            · rw [HF2.out, itL_append]
              have h2 := hset
              rw [HDR.out] at h2
              show RowI wn g ((itL ((l.take b).filter fun x => !noR x) ++ itL [l[b]]) ++ ((st' ++ itC l[b]) ++ (itL (l.drop (b + 1)) ++ sp)))
              rw [show itL [l[b]] = itC l[b] from List.append_nil (itC l[b])]
              have e : (itL ((l.take b).filter fun x => !noR x) ++ itC l[b]) ++ ((st' ++ itC l[b]) ++ (itL (l.drop (b + 1)) ++ sp)) = itL ((l.take b).filter fun x => !noR x) ++ (.int .i64 l[b].s :: .int .i64 l[b].n :: .string (bs l[b].t) :: .int .i64 l[b].r :: (st' ++ (itC l[b] ++ itL (l.drop (b + 1)) ++ sp))) := by
                simp [itC, List.append_assoc]
              rw [e]
              exact h2
          have HW := Lib.hid hwn
          clear hr2 hr3 hset hg hg2 hg3 hx2 hwn u2 hu hst hsl'
          go_wp2_with fail
          rw [HW.out]
          go_roundw
          case rel => exact HREL.out
          case measure => simp only [intOf]; omega
      · have d1 : decide (b < n) = false := decide_eq_false hlt
        have hbn : b = n := by omega
        have htk : l.take b = l := List.take_of_length_le (by rw [HN.out]; omega)
        have hdk : l.drop b = [] := List.drop_of_length_le (by rw [HN.out]; omega)
        rw [htk] at hfl hr hILf
        rw [hdk] at hr
        have hr2 : RowI wr g (itL (l.filter fun x => !noR x) ++ (st ++ sp)) := hr
        obtain ⟨Z, hZ, hcl⟩ := clear_some (c := cap - a) hr2 (s := a * 4) (n := n - a) (by omega) (by rw [List.length_append, List.length_append, hILf, hsl]; omega)
        have hset := hr2.setRow (splice (itL (l.filter fun x => !noR x) ++ (st ++ sp)) (a * 4) Z)
        have hg3 := grown_setRow hgr (splice (itL (l.filter fun x => !noR x) ++ (st ++ sp)) (a * 4) Z).toArray
        have hsp : splice (itL (l.filter fun x => !noR x) ++ (st ++ sp)) (a * 4) Z = itL (l.filter fun x => !noR x) ++ (Z ++ (itL (l.filter fun x => !noR x) ++ (st ++ sp)).drop (a * 4 + Z.length)) := by
          unfold splice
          rw [← hILf, List.take_left]
        obtain ⟨wn, hwn⟩ : ∃ wn, wr.setRow g (splice (itL (l.filter fun x => !noR x) ++ (st ++ sp)) (a * 4) Z).toArray = wn := ⟨_, rfl⟩
        rw [hwn] at hset hg3
        simp only [hwn] at hcl
        have HRES : Hid (Items wn (.slice (some ⟨g, 0, none⟩) a cap) (l.filter fun x => !noR x)) := by
          rw [hsp] at hset
          exact Items.of_row hset hfl (by omega) HC2.out
        have HG3 := Lib.hid hg3
        have HFL := Lib.hid hfl
        have hac : ¬ cap = a := by omega
        have han : a ≤ n := by omega
        have hacp : a ≤ cap := by omega
        clear hr hr2 hset hg3 hsp hwn hgr hZ hsl hILf htk hdk hfl hbn
        go_wp2_with fail
        go_ret
        refine ⟨by rw [HFL.out]; rfl, by rw [HFL.out]; exact HRES.out, HG3.out⟩

end Go.Proofs.YtbeigaanlhaolaaGreatDoor

/-
  What the reference's Less returns. Conditions: the row can be read and is a right bag.
-/
namespace Go.Proofs.YtbeigaanlhaolaaGreatDoor
open Go.RowKit
open Go.Proofs
open WoolBag

/-- what Less leaves -/
def LessPost (w : World) (R : List Itm × Int) (e : Ending) (w' : World) : Prop :=
  ∃ o c, e = .returned (.tuple #[.slice o R.1.length c, .int .i64 R.2]) ∧ Items w' (.slice o R.1.length c) R.1 ∧ Up w w'

set_option maxRecDepth 100000 in
set_option maxHeartbeats 1000000 in
theorem refLess_any (v : Value) (l : List Itm) (ib : Bool) (is iN : Int) (w : World) (h : Items w v l) (hb : Bag FP l) :
    Calls Tryz.prog 77 #[v, .agg #[.bool ib, .int .i64 is, .int .i64 iN]] w (LessPost w (WoolBag.drop FP l (ib, is, iN))) := by
  obtain ⟨R, hR⟩ : ∃ R, WoolBag.drop FP l (ib, is, iN) = R := ⟨_, rfl⟩
  rw [hR]
  have hf : WoolBag.find FP l (ib, is, iN) = (match idx (idB (ib, is, iN)) l with | some k => (k, 0) | none => (0, 4)) := by
    unfold WoolBag.find
    rw [(chk_zero FP).2 hb, if_neg (fun h => h rfl)]
    cases idx (idB (ib, is, iN)) l <;> rfl
  unfold WoolBag.drop at hR
  rw [hf] at hR
  clear hf
  have hl := hb.len
  have HIT := Lib.hid (fun W (hW : Up w W) => refItem_any v l ib is iN W (h.up hW))
  have HCL := Lib.hid (fun W (hW : Up w W) => sclone_any v l W (h.up hW) hl)
  have HB := Lib.hid hb
  unfold ixI at HIT
  obtain ⟨o, c, rfl, h3⟩ := h.slice
  unfold maxLen at h3
  cases hi : idx (idB (ib, is, iN)) l with
  | none =>
    rw [hi] at hR HIT
    have HRV := Lib.hid hR
    clear hR hi h hb HCL
    go_enter Tryz.func77, Tryz.ntmps77
    go_wp2_with fail
    refine (HIT.out _ (Up.alloc _ _)).mono ?_
    rintro e w1 ⟨rfl, u1⟩
    have HU1 : Hid (Up w w1) := Up.after _ _ _ u1
    clear u1
    go_wp2_with fail
    go_ret2
    have hr := HRV.out
    rw [if_neg (show ¬ (4 : Int) = 0 by decide)] at hr
    refine ⟨none, 0, by rw [← hr]; rfl, ?_, HU1.out⟩
    rw [← hr]
    exact (OItems.nil w1 0).items
  | some k =>
    rw [hi] at hR HIT
    obtain ⟨hk, _, _⟩ := idx_some hi
    rw [if_pos rfl] at hR
    have hlf := less_filter (F := FP) hb hk
    have hok := hb.ok _ (List.getElem_mem hk)
    have r1 := hok.2.2.2.2.1
    have r2 := hok.2.2.2.2.2
    have hgets := (itL_get l k hk).2.2.2
    have hsetR := itL_setR l k hk (-1)
    obtain ⟨L', hL'⟩ : ∃ L', l.set k (more l[k] (-1)) = L' := ⟨_, rfl⟩
    have hLl : L'.length = l.length := by rw [← hL', List.length_set]
    rw [hL'] at hsetR hlf
    obtain ⟨r, hrr⟩ : ∃ r, l[k].r = r := ⟨_, rfl⟩
    rw [hrr] at r1 r2 hgets hsetR
    have HG1 := Lib.hid hgets
    have HSR := Lib.hid hsetR
    have HLL := Lib.hid hLl
    have HRV : Hid (R = (L'.filter (fun x => !noR x), 0)) := by
      show R = _
      rw [← hR]
      exact congrArg (·, (0 : Int)) hlf.symm
    clear hR hi h hb hlf hok hgets hsetR hL' hrr hLl
    go_enter Tryz.func77, Tryz.ntmps77
    go_wp2_with fail
    refine (HIT.out _ (Up.alloc _ _)).mono ?_
    rintro e w1 ⟨rfl, u1⟩
    have HU1 : Hid (Up w w1) := Up.after _ _ _ u1
    clear u1
    go_wp2_with fail
    refine (HCL.out _ HU1.out).mono ?_
    rintro e w2 ⟨v', rfl, hown, u2⟩
    rcases hown.row with ⟨_, hnil⟩ | ⟨g, cap, sp, rfl, hg, hrow, hc1, hc2, hc3⟩
    · rw [hnil] at hk; simp at hk
    have hU2 := HU1.out.trans u2
    have hgw : w.heap.size ≤ g := Nat.le_trans HU1.out.size hg
    have c3 := hrow.cell (get_app (sp := sp) HG1.out)
    have fz := hrow.frozen (k * 4 + 3)
    obtain ⟨w3, hw3⟩ : ∃ w3, w2.setCell ⟨g, k * 4 + 3, none⟩ (.int .i64 (r + -1)) = w3 := ⟨_, rfl⟩
    have hrow3 := hrow.set (k * 4 + 3) (.int .i64 (r + -1))
    rw [List.set_append_left _ _ (by rw [itL_length]; omega), HSR.out, hw3] at hrow3
    have hU3 : Up w w3 := by rw [← hw3]; exact Below.setCell hU2 (p := ⟨g, k * 4 + 3, none⟩) hgw _
    have hm : r - 1 = r + -1 := Int.sub_eq_add_neg
    have HU3 := Lib.hid hU3
    have HW3 := Lib.hid hw3
    have HDEL := Lib.hid (deleteF_any L' g cap sp w3 hrow3 (by rw [HLL.out]; exact hl) (by rw [HLL.out]; exact hc1) hc2)
    rw [HLL.out] at HDEL
    have HGW := Lib.hid hgw
    unfold maxLen at hc2
    rw [← hm] at HW3
    clear hown hrow hg u2 hU2 hrow3 hU3 hw3 hc3 HG1 HSR hgw hm
    go_wp2_with fail
    rw [HW3.out]
    refine HDEL.out.mono ?_
    rintro e w4 ⟨rfl, hi4, hg4⟩
    have HI4 := Lib.hid hi4
    have HU4 : Hid (Up w w4) := Below.grown HU3.out hg4 HU3.out.size (fun j hj => by cases hj; exact HGW.out)
    clear hi4 hg4
    go_wp2_with fail
    go_ret2
    refine ⟨some ⟨g, 0, none⟩, cap, by rw [HRV.out]; rfl, ?_, HU4.out⟩
    rw [HRV.out]
    exact HI4.out

end Go.Proofs.YtbeigaanlhaolaaGreatDoor

/-
  What the reference's Trim returns. Conditions: a state of right sizes with a right bag; the place is there.
-/
namespace Go.Proofs.YtbeigaanlhaolaaGreatDoor
open Go.RowKit
open Go.Proofs
open WoolBag
open WoolVol

theorem rel_one (l : List Itm) (i : Idn) : rel FP l [i] = if i.1 then (WoolBag.drop FP l i).1 else l := rfl

set_option maxRecDepth 100000 in
set_option maxHeartbeats 4000000 in
theorem refTrim_any (v : Value) (st : Sta) (k j : Nat) (w : World) (h : Stat w v st) (hs : Small st) (hg : Bag FP st.b) (hk : k < st.v.length) (hj : j < st.v[k].bl.length) :
    Calls Tryz.prog 42 #[v, .int .i64 (k : Int), .int .i64 (j : Int)] w (RdPost w ⟨rel FP st.b [st.v[k].bl[j]], setB st.v k j noId⟩) := by
  have HSET := Lib.hid (fun W (hW : Up w W) => refSet_any v st k j noId W (h.up hW) hs hk hj)
  obtain ⟨vb, vv, rfl, hb, hv⟩ := h
  obtain ⟨oB, cB, rfl, _⟩ := hb.slice
  obtain ⟨oV, cV, rfl, hV1, hV2⟩ := hv.slice
  obtain ⟨b, off, rfl, h5⟩ := hv.at (by intro e; rw [e] at hk; simp at hk)
  obtain ⟨a1, u0, a2, hids⟩ := h5 k hk
  obtain ⟨o', c', rfl, hc1, hc2⟩ := hids.slice
  obtain ⟨b', off', rfl, h6⟩ := hids.at (by intro e; rw [e] at hj; simp at hj)
  obtain ⟨i1, i2, i3⟩ := h6 j hj
  unfold maxLen at hV2 hc2
  unfold idV noId at HSET
  simp only at HSET
  obtain ⟨S1, hS1⟩ : ∃ S1 : Sta, (⟨st.b, setB st.v k j noId⟩ : Sta) = S1 := ⟨_, rfl⟩
  have HS1 := Lib.hid hS1
  have hS1' : (⟨st.b, setB st.v k j (false, 0, 0)⟩ : Sta) = S1 := hS1
  rw [hS1'] at HSET
  have HRES : Hid ((⟨rel FP st.b [st.v[k].bl[j]], setB st.v k j noId⟩ : Sta) = ⟨if st.v[k].bl[j].1 then (WoolBag.drop FP S1.b st.v[k].bl[j]).1 else S1.b, S1.v⟩) := by show _ = _; rw [← hS1, rel_one]
  rw [HRES.out]
  have hg1 : Bag FP S1.b := by rw [← hS1]; exact hg
  have HG1 := Lib.hid hg1
  clear hg1 hS1 hS1' HRES HS1
  obtain ⟨id, hid⟩ : ∃ id, st.v[k].bl[j] = id := ⟨_, rfl⟩
  rw [hid] at i1 i2 i3 ⊢
  obtain ⟨xb, xs, xn⟩ := id
  simp only at i1 i2 i3 ⊢
  obtain ⟨RS, hRS⟩ : ∃ RS : Sta, (⟨if xb = true then (WoolBag.drop FP S1.b (xb, xs, xn)).1 else S1.b, S1.v⟩ : Sta) = RS := ⟨_, rfl⟩
  rw [hRS]
  have HRS := Lib.hid hRS
  clear hRS
  have HW0 : Hid (Up w ((w.alloc (.cells #[.slice oB st.b.length cB, .slice (some ⟨b, off, none⟩) st.v.length cV] 36)).alloc (.cells #[.slice none 0 0, .slice none 0 0] 36))) := (Up.alloc _ _).trans (Up.alloc _ _)
  have e2 := (HW0.out.cell (World.block_lt_of_cell? w _ a2)).trans a2
  have f1 := (HW0.out.cell (World.block_lt_of_cell? w _ i1)).trans i1
  have f2 := (HW0.out.cell (World.block_lt_of_cell? w _ i2)).trans i2
  have f3 := (HW0.out.cell (World.block_lt_of_cell? w _ i3)).trans i3
  clear h5 h6 a1 a2 hids i1 i2 i3 hid hb hv hg hs
  obtain ⟨L, hL⟩ : ∃ L, st.v[k].bl.length = L := ⟨_, rfl⟩
  rw [hL] at hj hc1 e2
  clear hL
  generalize st.v.length = N at *
  generalize st.b.length = M at *
  go_enter Tryz.func42, Tryz.ntmps42
  go_upto_region 2 with (fail)
  have HRI : Hid (RowC (((w.alloc (.cells #[.slice oB M cB, .slice (some ⟨b, off, none⟩) N cV] 36)).alloc (.cells #[.slice none 0 0, .slice none 0 0] 36)).alloc (.cells #[.bool xb, .int .i64 xs, .int .i64 xn] 86)) (w.heap.size + 1 + 1) 86 [.bool xb, .int .i64 xs, .int .i64 xn]) := row_at (by simp) [.bool xb, .int .i64 xs, .int .i64 xn] 86
  have HRR : Hid (RowC (((w.alloc (.cells #[.slice oB M cB, .slice (some ⟨b, off, none⟩) N cV] 36)).alloc (.cells #[.slice none 0 0, .slice none 0 0] 36)).alloc (.cells #[.bool xb, .int .i64 xs, .int .i64 xn] 86)) (w.heap.size + 1) 36 [.slice none 0 0, .slice none 0 0]) := (row_at (by simp) [.slice none 0 0, .slice none 0 0] 36).up (Up.alloc _ _)
  have HRA : Hid (RowC (((w.alloc (.cells #[.slice oB M cB, .slice (some ⟨b, off, none⟩) N cV] 36)).alloc (.cells #[.slice none 0 0, .slice none 0 0] 36)).alloc (.cells #[.bool xb, .int .i64 xs, .int .i64 xn] 86)) w.heap.size 36 [.slice oB M cB, .slice (some ⟨b, off, none⟩) N cV]) := ((row_at rfl [.slice oB M cB, .slice (some ⟨b, off, none⟩) N cV] 36).up (Up.alloc _ _)).up (Up.alloc _ _)
  have HW1 : Hid (Up w (((w.alloc (.cells #[.slice oB M cB, .slice (some ⟨b, off, none⟩) N cV] 36)).alloc (.cells #[.slice none 0 0, .slice none 0 0] 36)).alloc (.cells #[.bool xb, .int .i64 xs, .int .i64 xn] 86))) := HW0.out.trans (Up.alloc _ _)
  clear HW0 e2 f1 f2 f3
  generalize (((w.alloc (.cells #[.slice oB M cB, .slice (some ⟨b, off, none⟩) N cV] 36)).alloc (.cells #[.slice none 0 0, .slice none 0 0] 36)).alloc (.cells #[.bool xb, .int .i64 xs, .int .i64 xn] 86)) = W1 at HRI HRR HRA HW1 ⊢
  have q0 := HRA.out.cell (j := 0) rfl
  have q1 := HRA.out.cell (j := 1) rfl
  go_wp2_with fail
  refine (HSET.out _ HW1.out).mono ?_
  rintro e w1 ⟨v1, rfl, hst1, u1⟩
  obtain ⟨vb1, vv1, rfl, hb1, hv1⟩ := hst1
  obtain ⟨o1, c1, rfl, hm1⟩ := hb1.slice
  obtain ⟨o2, c2, rfl, hm2, hm3⟩ := hv1.slice
  clear q0 q1
  go_upto_region 3 with (fail)
  have hal := Up.alloc w1 (.cells #[.slice o1 S1.b.length c1, .slice o2 S1.v.length c2] 36)
  have HX : Hid (RowC (w1.alloc (.cells #[.slice o1 S1.b.length c1, .slice o2 S1.v.length c2] 36)) w1.heap.size 36 [.slice o1 S1.b.length c1, .slice o2 S1.v.length c2]) := heap_alloc_new w1 _
  have HI2 := Lib.hid ((HRI.out.up u1).up hal)
  have HR2 := Lib.hid ((HRR.out.up u1).up hal)
  have HB2 := Lib.hid (hb1.up hal)
  have HV2 := Lib.hid (hv1.up hal)
  have HU2 := Lib.hid ((HW1.out.trans u1).trans hal)
  have hRX : w.heap.size + 1 ≠ w1.heap.size := by have := (HRR.out.up u1).lt; omega
  have hwX : w.heap.size ≤ w1.heap.size := (HW1.out.trans u1).size
  clear hal hb1 hv1 u1
  generalize (w1.alloc (.cells #[.slice o1 S1.b.length c1, .slice o2 S1.v.length c2] 36)) = W2 at HX HI2 HR2 HB2 HV2 HU2 ⊢
  obtain ⟨X, hX⟩ : ∃ X, w1.heap.size = X := ⟨_, rfl⟩
  rw [hX] at HX hRX hwX ⊢
  clear hX
  have x0 := HX.out.cell (j := 0) rfl
  have x1 := HX.out.cell (j := 1) rfl
  have y0 := HI2.out.cell (j := 0) rfl
  have y1 := HI2.out.cell (j := 1) rfl
  have y2 := HI2.out.cell (j := 2) rfl
  have r0 := HR2.out.frozen 0
  have r1 := HR2.out.frozen 1
  have r2 := HR2.out.cell (j := 0) rfl
  have r3 := HR2.out.cell (j := 1) rfl
  cases xb with
  | false =>
    have HRS2 : Hid (RS = S1) := by show _ = _; rw [← HRS.out]; rfl
    go_wp2_with fail
    have hz := (HR2.out.set 0 (.slice o1 S1.b.length c1)).set 1 (.slice o2 S1.v.length c2)
    have z0 := hz.cell (j := 0) rfl
    have z1 := hz.cell (j := 1) rfl
    have HST := Lib.hid (Stat.boxed (v := .agg #[.slice o1 S1.b.length c1, .slice o2 S1.v.length c2]) (x := .slice o1 S1.b.length c1) (y := .slice o2 S1.v.length c2) (st := S1) ⟨_, _, rfl, HB2.out, HV2.out⟩ HR2.out rfl rfl rfl)
    have HUZ : Hid (Up w ((W2.setCell ⟨w.heap.size + 1, 0, none⟩ (.slice o1 S1.b.length c1)).setCell ⟨w.heap.size + 1, 1, none⟩ (.slice o2 S1.v.length c2))) := up2 HU2.out (Nat.le_succ _)
    generalize (W2.setCell ⟨w.heap.size + 1, 0, none⟩ (.slice o1 S1.b.length c1)).setCell ⟨w.heap.size + 1, 1, none⟩ (.slice o2 S1.v.length c2) = WZ at z0 z1 HST HUZ ⊢
    exact bodyPost_ret (v := .agg #[.slice o1 S1.b.length c1, .slice o2 S1.v.length c2]) (by simp [results, Tryz.results42, go_sem, z0, z1]) rfl ⟨_, rfl, by rw [HRS2.out]; exact HST.out, HUZ.out⟩
  | true =>
    have HLE := Lib.hid (fun W (hW : Up W2 W) => refLess_any _ S1.b true xs xn W (HB2.out.up hW) HG1.out)
    unfold LessPost at HLE
    obtain ⟨l', hl'⟩ : ∃ l', (WoolBag.drop FP S1.b (true, xs, xn)).1 = l' := ⟨_, rfl⟩
    rw [hl'] at HLE
    have HRS2 : Hid (RS = ⟨l', S1.v⟩) := by show _ = _; rw [← HRS.out, ← hl']; rfl
    clear hl'
    go_wp2_with fail
    refine (HLE.out _ (Up.refl _)).mono ?_
    rintro e w3 ⟨o3, c3, rfl, hit3, u3⟩
    have hX3 := HX.out.up u3
    have hR3 := HR2.out.up u3
    have s0 := hX3.cell (j := 0) rfl
    have s1 := hX3.cell (j := 1) rfl
    have s2 := hX3.frozen 0
    have HX4 : Hid (RowC (w3.setCell ⟨X, 0, none⟩ (.slice o3 l'.length c3)) X 36 [.slice o3 l'.length c3, .slice o2 S1.v.length c2]) := hX3.set 0 _
    have HR4 := Lib.hid (hR3.other hRX 0 (.slice o3 l'.length c3))
    have HS4 : Hid (Stat (w3.setCell ⟨X, 0, none⟩ (.slice o3 l'.length c3)) (.agg #[.slice o3 l'.length c3, .slice o2 S1.v.length c2]) ⟨l', S1.v⟩) := ⟨_, _, rfl, hit3.setS hX3 rfl rfl, (HV2.out.up u3).setS hX3 rfl rfl⟩
    have HU4 : Hid (Up w (w3.setCell ⟨X, 0, none⟩ (.slice o3 l'.length c3))) := Below.setCell (show Below w.heap.size w w3 from HU2.out.trans u3) (p := ⟨X, 0, none⟩) hwX _
    clear hX3 hR3 hit3 u3 x0 x1 y0 y1 y2 r0 r1 r2 r3
    go_upto_region 5 with (fail)
    generalize (w3.setCell ⟨X, 0, none⟩ (.slice o3 l'.length c3)) = W4 at HX4 HR4 HS4 HU4 ⊢
    clear s0 s1 s2
    have s0 := HX4.out.cell (j := 0) rfl
    have s1 := HX4.out.cell (j := 1) rfl
    have r0 := HR4.out.frozen 0
    have r1 := HR4.out.frozen 1
    have r2 := HR4.out.cell (j := 0) rfl
    have r3 := HR4.out.cell (j := 1) rfl
    go_wp2_with fail
    have hz := (HR4.out.set 0 (.slice o3 l'.length c3)).set 1 (.slice o2 S1.v.length c2)
    have z0 := hz.cell (j := 0) rfl
    have z1 := hz.cell (j := 1) rfl
    have HST := Lib.hid (Stat.boxed (x := .slice o3 l'.length c3) (y := .slice o2 S1.v.length c2) HS4.out HR4.out rfl rfl rfl)
    have HUZ : Hid (Up w ((W4.setCell ⟨w.heap.size + 1, 0, none⟩ (.slice o3 l'.length c3)).setCell ⟨w.heap.size + 1, 1, none⟩ (.slice o2 S1.v.length c2))) := up2 HU4.out (Nat.le_succ _)
    generalize (W4.setCell ⟨w.heap.size + 1, 0, none⟩ (.slice o3 l'.length c3)).setCell ⟨w.heap.size + 1, 1, none⟩ (.slice o2 S1.v.length c2) = WZ at z0 z1 HST HUZ ⊢
    exact bodyPost_ret (v := .agg #[.slice o3 l'.length c3, .slice o2 S1.v.length c2]) (by simp [results, Tryz.results42, go_sem, z0, z1]) rfl ⟨_, rfl, by rw [HRS2.out]; exact HST.out, HUZ.out⟩

end Go.Proofs.YtbeigaanlhaolaaGreatDoor

/-
  Contracts of library functions at this program, each one application of a theorem of the library: what is proved is what each says. Conditions: as each says.
-/
namespace Go.Proofs
open Go.Shelf
def Tryz.laysGg6_ren : Go.Shelf.Ren := ⟨fun | 6 => 74 | 10 => 102 | 11 => 103 | 12 => 104 | 13 => 105 | 14 => 106 | 24 => 144 | 25 => 145 | 26 => 146 | 27 => 147 | 28 => 148 | 29 => 149 | 30 => 150 | 31 => 151 | 32 => 152 | 33 => 153 | 34 => 177 | 35 => 178 | 36 => 179 | 37 => 180 | 38 => 181 | 39 => 188 | n => n, fun | 20 => 20 | 26 => 120 | 35 => 146 | 0 => 0 | 37 => 148 | 3 => 3 | 41 => 97 | 44 => 154 | 49 => 180 | 51 => 182 | 4 => 4 | 54 => 185 | 53 => 184 | 58 => 189 | 5 => 5 | 9 => 9 | 60 => 214 | 64 => 218 | 66 => 221 | 67 => 222 | 17 => 17 | 32 => 101 | 33 => 144 | 82 => 237 | 12 => 12 | 75 => 231 | 76 => 232 | 77 => 233 | 78 => 69 | 79 => 234 | 80 => 235 | n => n, fun | n => n⟩
theorem Tryz.laysGg6 : Go.Proofs.LaysGg.n6 Tryz.prog Tryz.laysGg6_ren := {
  mixed := by kernel_rfl
  f6 := Tryz.func74.trans (congrArg some (by kernel_rfl))
  f10 := Tryz.func102.trans (congrArg some (by kernel_rfl))
  f11 := Tryz.func103.trans (congrArg some (by kernel_rfl))
  f12 := Tryz.func104.trans (congrArg some (by kernel_rfl))
  f13 := Tryz.func105.trans (congrArg some (by kernel_rfl))
  f14 := Tryz.func106.trans (congrArg some (by kernel_rfl))
  f24 := Tryz.func144.trans (congrArg some (by kernel_rfl))
  f25 := Tryz.func145.trans (congrArg some (by kernel_rfl))
  f26 := Tryz.func146.trans (congrArg some (by kernel_rfl))
  f27 := Tryz.func147.trans (congrArg some (by kernel_rfl))
  f28 := Tryz.func148.trans (congrArg some (by kernel_rfl))
  f29 := Tryz.func149.trans (congrArg some (by kernel_rfl))
  f30 := Tryz.func150.trans (congrArg some (by kernel_rfl))
  f31 := Tryz.func151.trans (congrArg some (by kernel_rfl))
  f32 := Tryz.func152.trans (congrArg some (by kernel_rfl))
  f33 := Tryz.func153.trans (congrArg some (by kernel_rfl))
  f34 := Tryz.func177.trans (congrArg some (by kernel_rfl))
  f35 := Tryz.func178.trans (congrArg some (by kernel_rfl))
  f36 := Tryz.func179.trans (congrArg some (by kernel_rfl))
  f37 := Tryz.func180.trans (congrArg some (by kernel_rfl))
  f38 := Tryz.func181.trans (congrArg some (by kernel_rfl))
  f39 := Tryz.func188.trans (congrArg some (by kernel_rfl))
  t0 := Tryz.underlying0
  a0 := Tryz.isAgg0
  z0 := Tryz.sizeOf0
  v0 := Tryz.zeroValue0
  i0 := by kernel_rfl
  t3 := Tryz.underlying3
  a3 := Tryz.isAgg3
  z3 := Tryz.sizeOf3
  v3 := Tryz.zeroValue3
  i3 := by kernel_rfl
  t4 := Tryz.underlying4
  a4 := Tryz.isAgg4
  z4 := Tryz.sizeOf4
  v4 := Tryz.zeroValue4
  i4 := by kernel_rfl
  t5 := Tryz.underlying5
  a5 := Tryz.isAgg5
  z5 := Tryz.sizeOf5
  v5 := Tryz.zeroValue5
  i5 := by kernel_rfl
  t9 := Tryz.underlying9
  a9 := Tryz.isAgg9
  z9 := Tryz.sizeOf9
  v9 := Tryz.zeroValue9
  i9 := by kernel_rfl
  t12 := Tryz.underlying12
  a12 := Tryz.isAgg12
  z12 := Tryz.sizeOf12
  v12 := Tryz.zeroValue12
  i12 := by kernel_rfl
  t17 := Tryz.underlying17
  a17 := Tryz.isAgg17
  z17 := Tryz.sizeOf17
  v17 := Tryz.zeroValue17
  i17 := by kernel_rfl
  t20 := Tryz.underlying20
  a20 := Tryz.isAgg20
  z20 := Tryz.sizeOf20
  v20 := Tryz.zeroValue20
  i20 := by kernel_rfl
  t26 := Tryz.underlying120
  a26 := Tryz.isAgg120
  z26 := Tryz.sizeOf120
  v26 := Tryz.zeroValue120
  i26 := by kernel_rfl
  t32 := Tryz.underlying101
  a32 := Tryz.isAgg101
  z32 := Tryz.sizeOf101
  v32 := Tryz.zeroValue101
  i32 := by kernel_rfl
  t33 := Tryz.underlying144
  a33 := Tryz.isAgg144
  z33 := Tryz.sizeOf144
  v33 := Tryz.zeroValue144
  i33 := by kernel_rfl
  t35 := Tryz.underlying146
  a35 := Tryz.isAgg146
  z35 := Tryz.sizeOf146
  v35 := Tryz.zeroValue146
  i35 := by kernel_rfl
  t37 := Tryz.underlying148
  a37 := Tryz.isAgg148
  z37 := Tryz.sizeOf148
  v37 := Tryz.zeroValue148
  i37 := by kernel_rfl
  t41 := Tryz.underlying97
  a41 := Tryz.isAgg97
  z41 := Tryz.sizeOf97
  v41 := Tryz.zeroValue97
  i41 := by kernel_rfl
  t44 := Tryz.underlying154
  a44 := Tryz.isAgg154
  z44 := Tryz.sizeOf154
  v44 := Tryz.zeroValue154
  i44 := by kernel_rfl
  t49 := Tryz.underlying180
  a49 := Tryz.isAgg180
  z49 := Tryz.sizeOf180
  v49 := Tryz.zeroValue180
  i49 := by kernel_rfl
  t51 := Tryz.underlying182
  a51 := Tryz.isAgg182
  z51 := Tryz.sizeOf182
  v51 := Tryz.zeroValue182
  i51 := by kernel_rfl
  t53 := Tryz.underlying184
  a53 := Tryz.isAgg184
  z53 := Tryz.sizeOf184
  v53 := Tryz.zeroValue184
  i53 := by kernel_rfl
  t54 := Tryz.underlying185
  a54 := Tryz.isAgg185
  z54 := Tryz.sizeOf185
  v54 := Tryz.zeroValue185
  i54 := by kernel_rfl
  t58 := Tryz.underlying189
  a58 := Tryz.isAgg189
  z58 := Tryz.sizeOf189
  v58 := Tryz.zeroValue189
  i58 := by kernel_rfl
  t60 := Tryz.underlying214
  a60 := Tryz.isAgg214
  z60 := Tryz.sizeOf214
  v60 := Tryz.zeroValue214
  i60 := by kernel_rfl
  t64 := Tryz.underlying218
  a64 := Tryz.isAgg218
  z64 := Tryz.sizeOf218
  v64 := Tryz.zeroValue218
  i64 := by kernel_rfl
  t66 := Tryz.underlying221
  a66 := Tryz.isAgg221
  z66 := Tryz.sizeOf221
  v66 := Tryz.zeroValue221
  i66 := by kernel_rfl
  t67 := Tryz.underlying222
  a67 := Tryz.isAgg222
  z67 := Tryz.sizeOf222
  v67 := Tryz.zeroValue222
  i67 := by kernel_rfl
  t75 := Tryz.underlying231
  a75 := Tryz.isAgg231
  z75 := Tryz.sizeOf231
  v75 := Tryz.zeroValue231
  i75 := by kernel_rfl
  t76 := Tryz.underlying232
  a76 := Tryz.isAgg232
  z76 := Tryz.sizeOf232
  v76 := Tryz.zeroValue232
  i76 := by kernel_rfl
  t77 := Tryz.underlying233
  a77 := Tryz.isAgg233
  z77 := Tryz.sizeOf233
  v77 := Tryz.zeroValue233
  i77 := by kernel_rfl
  t78 := Tryz.underlying69
  a78 := Tryz.isAgg69
  z78 := Tryz.sizeOf69
  v78 := Tryz.zeroValue69
  i78 := by kernel_rfl
  t79 := Tryz.underlying234
  a79 := Tryz.isAgg234
  z79 := Tryz.sizeOf234
  v79 := Tryz.zeroValue234
  i79 := by kernel_rfl
  t80 := Tryz.underlying235
  a80 := Tryz.isAgg235
  z80 := Tryz.sizeOf235
  v80 := Tryz.zeroValue235
  i80 := by kernel_rfl
  t82 := Tryz.underlying237
  a82 := Tryz.isAgg237
  z82 := Tryz.sizeOf237
  v82 := Tryz.zeroValue237
  i82 := by kernel_rfl }
end Go.Proofs
