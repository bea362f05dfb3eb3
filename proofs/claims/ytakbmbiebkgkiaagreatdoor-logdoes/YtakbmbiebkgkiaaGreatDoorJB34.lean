/-
  The texts RefBag3, RefBag4, one behind the other; each says below what it holds and on what conditions.
-/
import Derived.Test.YtakbmbiebkgkiaaGreatDoorJB29
import Derived.Test.YtakbmbiebkgkiaaGreatDoorJB25
import Derived.Test.YtakbmbiebkgkiaaGreatDoorJB33

/-
  What slices.DeleteFunc (by the reference's own predicate) and the reference's Less return. Conditions: as each says.
-/
namespace Go.Proofs.YtakbmbiebkgkiaaGreatDoor
open Go.RowKit
open Go.Proofs
open WoolBag

def noR (x : Itm) : Bool := x.r == 0

theorem less1_in (w : World) : Pred w 110 #[] noR := by
  intro W _ x
  show Calls Tryz.prog 110 #[itV x] W _
  unfold itV noR
  generalize x.r = r
  cases d1 : (r == 0) with
  | true =>
    go_enter Tryz.func110, Tryz.ntmps110
    go_wp2_with fail
    go_ret
    exact ⟨by simp, Up.alloc _ _⟩
  | false =>
    go_enter Tryz.func110, Tryz.ntmps110
    go_wp2_with fail
    go_ret
    exact ⟨by simp, Up.alloc _ _⟩

theorem eg_less : ∀ args w, (callFunc 110 args).run Tryz.prog w = .ok (.enter 110 args) w := enters_of Tryz.func110 (by kernel_rfl) rfl

theorem zeroR_size (n : Nat) : (Builtin.zeroCells (Value.agg #[.int .i64 0, .int .i64 0, .string ⟨#[]⟩, .int .i64 0]).cells n).toList.length = n * 4 := zeroI_size n
theorem zeroR_one (n : Nat) : ∀ u ∈ (Builtin.zeroCells (Value.agg #[.int .i64 0, .int .i64 0, .string ⟨#[]⟩, .int .i64 0]).cells n).toList, u.oneCell' = true := by
  intro u hu
  unfold Builtin.zeroCells at hu
  simp at hu
  obtain ⟨i, _, rfl⟩ := hu
  have hc : (Value.agg #[.int .i64 0, .int .i64 0, .string ⟨#[]⟩, .int .i64 0]).cells = #[.int .i64 0, .int .i64 0, .string ⟨#[]⟩, .int .i64 0] := rfl
  rw [hc]
  have hm : i % 4 < 4 := Nat.mod_lt _ (by omega)
  show (#[Value.int .i64 0, .int .i64 0, .string ⟨#[]⟩, .int .i64 0][i % 4]!).oneCell' = true
  match h : i % 4, hm with
  | 0, _ => rfl
  | 1, _ => rfl
  | 2, _ => rfl
  | 3, _ => rfl

/-- clear of some items -/
theorem clear_some {w : World} {g s c n : Nat} {L : List Value} (h : RowI w g L) (h0 : 0 < n) (hs : s + n * 4 ≤ L.length) :
    ∃ Z, Z.length = n * 4 ∧ ∀ ty, (Builtin.clear_ #[22] ty #[.slice (some ⟨g, s, none⟩) n c]).run Tryz.prog w = .ok (.tuple #[]) (w.setRow g (splice L s Z).toArray) := by
  refine ⟨_, zeroR_size n, fun ty => ?_⟩
  have hst := run_storeCells_at Tryz.prog g s 66 (Builtin.zeroCells (Value.agg #[.int .i64 0, .int .i64 0, .string ⟨#[]⟩, .int .i64 0]).cells n).toList 0 L.toArray w h (by rw [zeroR_size]; simpa using hs) (zeroR_one n)
  simp only [Nat.add_zero] at hst
  obtain ⟨m, rfl⟩ : ∃ m, n = m + 1 := ⟨n - 1, by omega⟩
  simp [Builtin.clear_, run_underlying Tryz.underlying22, hst, splice]

/-- what slices.DeleteFunc leaves -/
def DelPost (l : List Itm) (g cap : Nat) (w : World) (e : Ending) (w' : World) : Prop :=
  e = .returned (.slice (some ⟨g, 0, none⟩) (l.filter fun x => !noR x).length cap) ∧ Items w' (.slice (some ⟨g, 0, none⟩) (l.filter fun x => !noR x).length cap) (l.filter fun x => !noR x) ∧ w.grownBy w' (some g)

def DelRel (l : List Itm) (g : Nat) (sp : List Value) (w : World) (i j : Value) (wr : World) : Prop :=
  ∃ (a b : Nat) (st : List Value), i = .int .i64 a ∧ j = .int .i64 b ∧ a < b ∧ b ≤ l.length ∧ ((l.take b).filter fun x => !noR x).length = a ∧ st.length = (b - a) * 4 ∧
    RowI wr g (itL ((l.take b).filter fun x => !noR x) ++ (st ++ (itL (l.drop b) ++ sp))) ∧ w.grownBy wr (some g)

theorem filter_take {l : List Itm} {b : Nat} (hb : b < l.length) : ((l.take (b + 1)).filter fun x => !noR x) = ((l.take b).filter fun x => !noR x) ++ (if noR l[b] = true then [] else [l[b]]) := by
  rw [List.take_succ_eq_append_getElem hb, List.filter_append]
  congr 1
  rw [List.filter_cons]
  cases noR l[b] <;> simp

theorem filter_all {l : List Itm} {k : Nat} (h : ∀ j (hj : j < l.length), j < k → noR l[j] = false) : ((l.take k).filter fun x => !noR x) = l.take k := by
  rw [List.filter_eq_self]
  intro x hx
  obtain ⟨j, hj, rfl⟩ := List.getElem_of_mem hx
  rw [List.length_take] at hj
  rw [List.getElem_take, h j (by omega) (by omega)]
  rfl

theorem cons4 (st : List Value) (h : 4 ≤ st.length) : ∃ v0 v1 v2 v3 r, st = v0 :: v1 :: v2 :: v3 :: r := by
  match st, h with
  | v0 :: v1 :: v2 :: v3 :: r, _ => exact ⟨v0, v1, v2, v3, r, rfl⟩

theorem Items.of_row {w : World} {g n cap : Nat} {l : List Itm} {sp : List Value} (h : RowI w g (itL l ++ sp)) (hn : l.length = n) (h1 : n ≤ cap) (h2 : cap ≤ maxLen) : Items w (.slice (some ⟨g, 0, none⟩) n cap) l := by
  subst hn
  refine ⟨_, cap, rfl, h1, h2, .inr ⟨g, 0, rfl, fun k hk => ?_⟩⟩
  obtain ⟨b1, b2, b3, b4⟩ := itL_get l k hk
  have hc : ∀ j v, (itL l)[j]? = some v → w.cell? ⟨g, 0 + j, none⟩ = some v := fun j v hv => by rw [Nat.zero_add]; exact h.cell (get_app hv)
  exact ⟨hc _ _ b1, hc _ _ b2, hc _ _ b3, hc _ _ b4⟩

set_option maxRecDepth 100000 in
set_option maxHeartbeats 2000000 in
theorem deleteF_any (l : List Itm) (g cap : Nat) (sp : List Value) (w : World) (hrow : RowI w g (itL l ++ sp)) (hl : l.length ≤ 64) (hc1 : l.length ≤ cap) (hc2 : cap ≤ maxLen) :
    Calls Tryz.prog 109 #[.slice (some ⟨g, 0, none⟩) l.length cap, .func (.func 110) #[] #[]] w (DelPost l g cap w) := by
  have hit := Items.of_row hrow rfl hc1 hc2
  have HIX := Lib.hid (indexF _ l w 110 #[] noR eg_less hit (less1_in w))
  have HROW := Lib.hid hrow
  have HC2 := Lib.hid hc2
  unfold maxLen at hc2
  have hgl := hrow.lt
  obtain ⟨n, hn⟩ : ∃ n, l.length = n := ⟨_, rfl⟩
  have HN := Lib.hid hn
  rw [hn] at HIX hl hc1 ⊢
  clear hrow hit hn
  go_enter Tryz.func109, Tryz.ntmps109
  go_wp2_with fail
  refine HIX.out.mono ?_
  rintro e w1 ⟨rfl, u1⟩
  have HR1 := Lib.hid (HROW.out.up u1)
  have HG1 : Hid (w.grownBy w1 (some g)) := ⟨u1.os, u1.tape, u1.output, u1.size, fun j hj _ => u1.block j hj⟩
  have hgl1 : g < w1.heap.size := Nat.lt_of_lt_of_le hgl u1.size
  clear u1 HIX HROW
  unfold ixI
  cases hi : idx noR l with
  | none =>
    have hall : (l.filter fun x => !noR x) = l := by rw [List.filter_eq_self]; intro x hx; rw [idx_none.1 hi x hx]; rfl
    have HALL := Lib.hid hall
    clear hi hall
    simp only
    go_wp2_with fail
    go_ret
    refine ⟨by rw [HALL.out, HN.out]; rfl, ?_, HG1.out⟩
    rw [HALL.out]
    exact Items.of_row HR1.out rfl (by rw [HN.out]; exact hc1) HC2.out
  | some k0 =>
    obtain ⟨hk0, hp0, hbef⟩ := idx_some hi
    have hfa := filter_all (l := l) (k := k0) (fun j hj hjk => hbef j hjk)
    have hf1 : ((l.take (k0 + 1)).filter fun x => !noR x) = l.take k0 := by rw [filter_take hk0, if_pos hp0, hfa, List.append_nil]
    have HST : Hid (DelRel l g sp w (.int .i64 (k0 : Int)) (.int .i64 ((k0 + 1 : Nat) : Int)) w1) := by
      refine ⟨k0, k0 + 1, itC l[k0], rfl, rfl, by omega, hk0, by rw [hf1, List.length_take]; omega, by rw [show k0 + 1 - k0 = 1 by omega]; rfl, ?_, HG1.out⟩
      rw [hf1]
      have e : itL l = itL (l.take k0) ++ (itC l[k0] ++ itL (l.drop (k0 + 1))) := by
        rw [← itL_cons, ← List.drop_eq_getElem_cons hk0, ← itL_append, List.take_append_drop]
      have hr := HR1.out
      rw [e, List.append_assoc, List.append_assoc] at hr
      exact hr
    rw [HN.out] at hk0
    have hw1 : IntKind.i64.wrap ((k0 : Int) + 1) = (k0 : Int) + 1 := IntWalk.i64_in _ (by omega)
    have hkm : ((k0 : Int) == -1) = false := by simp
    clear hi hp0 hbef hfa hf1
    simp only
    go_wp2_with fail
    go_loopw [5, 6] (fun i j wr => DelRel l g sp w i j wr) (fun _ j _ => n - (intOf j).toNat)
    case atStart => exact HST.out
    case round =>
      obtain ⟨a, b, st, rfl, rfl, hab, hbl, hfl, hsl, hr, hgr⟩ := hrel
      rw [HN.out] at hbl
      have hgr1 : g < wr.heap.size := hr.lt
      have hILf : (itL ((l.take b).filter fun x => !noR x)).length = a * 4 := by rw [itL_length, hfl]
      by_cases hlt : b < n
      · have hbL : b < l.length := by rw [HN.out]; exact hlt
        have d1 : decide (b < n) = true := decide_eq_true hlt
        have hdrop : itL (l.drop b) = itC l[b] ++ itL (l.drop (b + 1)) := by rw [List.drop_eq_getElem_cons hbL, itL_cons]
        have hpre : (itL ((l.take b).filter fun x => !noR x) ++ st).length = b * 4 := by rw [List.length_append, hILf, hsl]; omega
        have hr' : RowI wr g ((itL ((l.take b).filter fun x => !noR x) ++ st) ++ (.int .i64 l[b].s :: .int .i64 l[b].n :: .string (bs l[b].t) :: .int .i64 l[b].r :: (itL (l.drop (b + 1)) ++ sp))) := by
          have h2 := hr
          rw [hdrop, List.append_assoc, ← List.append_assoc] at h2
          exact h2
        obtain ⟨c0, c1, c2, c3⟩ := cells4 hr' hpre
        have hpred := less1_in wr (wr.alloc (.cells #[.int .i64 l[b].s, .int .i64 l[b].n, .string (bs l[b].t), .int .i64 l[b].r] 66)) (Up.alloc _ _) l[b]
        have hpred' : Calls Tryz.prog 110 #[.agg #[.int .i64 l[b].s, .int .i64 l[b].n, .string (bs l[b].t), .int .i64 l[b].r]] (wr.alloc (.cells #[.int .i64 l[b].s, .int .i64 l[b].n, .string (bs l[b].t), .int .i64 l[b].r] 66)) fun e w' => e = .returned (.bool (noR l[b])) ∧ Up (wr.alloc (.cells #[.int .i64 l[b].s, .int .i64 l[b].n, .string (bs l[b].t), .int .i64 l[b].r] 66)) w' := hpred
        have hft := filter_take hbL
        obtain ⟨P, hP⟩ : ∃ P, noR l[b] = P := ⟨_, rfl⟩
        rw [hP] at hpred' hft
        have HPR := Lib.hid hpred'
        have HFT := Lib.hid hft
        have HR' := Lib.hid hr'
        have HRW := Lib.hid hr
        have HGR := Lib.hid hgr
        have HQ := Lib.hid (heap_alloc_new wr (.cells #[.int .i64 l[b].s, .int .i64 l[b].n, .string (bs l[b].t), .int .i64 l[b].r] 66))
        have HDR := Lib.hid hdrop
        have HFL := Lib.hid hfl
        have HSL := Lib.hid hsl
        have HIL := Lib.hid hILf
        have hltA : wr.heap.size < (wr.alloc (.cells #[.int .i64 l[b].s, .int .i64 l[b].n, .string (bs l[b].t), .int .i64 l[b].r] 66)).heap.size := by simp
        have hwb : IntKind.i64.wrap ((b : Int) + 1) = (b : Int) + 1 := IntWalk.i64_in _ (by omega)
        have hwa : IntKind.i64.wrap ((a : Int) + 1) = (a : Int) + 1 := IntWalk.i64_in _ (by omega)
        clear hr hr' hgr hpred hpred' hft hP hdrop hpre hfl hsl hILf
        cases P with
        | true =>
          have HF1 : Hid (((l.take (b + 1)).filter fun x => !noR x) = ((l.take b).filter fun x => !noR x)) := by show _ = _; rw [HFT.out, if_pos rfl, List.append_nil]
          clear HFT
          go_wp2_with (go_at_call 110; refine HPR.out.mono ?_; rintro e w2 ⟨rfl, u2⟩)
          have hu := (Up.alloc wr (.cells #[.int .i64 l[b].s, .int .i64 l[b].n, .string (bs l[b].t), .int .i64 l[b].r] 66)).trans u2
          go_roundw
          case rel =>
            refine ⟨a, b + 1, st ++ itC l[b], rfl, by go_num, by omega, by omega, ?_, ?_, ?_, ?_⟩
            · rw [HF1.out]; exact HFL.out
            · rw [List.length_append, HSL.out]; show _ + 4 = _; omega
            · rw [HF1.out]
              have h2 := HRW.out.up hu
              rw [HDR.out] at h2
              simpa [List.append_assoc] using h2
            · have hg := HGR.out
              exact ⟨hu.os.trans hg.os, hu.tape.trans hg.tape, hu.output.trans hg.output, Nat.le_trans hg.size hu.size, fun j hj hne => (hu.block j (Nat.lt_of_lt_of_le hj hg.size)).trans (hg.block j hj hne)⟩
          case measure => simp only [intOf]; omega
        | false =>
          have HF2 : Hid (((l.take (b + 1)).filter fun x => !noR x) = ((l.take b).filter fun x => !noR x) ++ [l[b]]) := by show _ = _; rw [HFT.out, if_neg (by simp)]
          clear HFT
          go_wp2_with fail
          refine HPR.out.mono ?_
          rintro e w2 ⟨rfl, u2⟩
          have hu := (Up.alloc wr (.cells #[.int .i64 l[b].s, .int .i64 l[b].n, .string (bs l[b].t), .int .i64 l[b].r] 66)).trans u2
          obtain ⟨v0, v1, v2, v3, st', hst⟩ := cons4 st (by rw [HSL.out]; omega)
          have hsl' : st'.length + 4 = (b - a) * 4 := by rw [← HSL.out, hst]; simp
          have hr2 := HRW.out.up hu
          rw [hst] at hr2
          have hr3 : RowI w2 g (itL ((l.take b).filter fun x => !noR x) ++ (v0 :: v1 :: v2 :: v3 :: (st' ++ (itL (l.drop b) ++ sp)))) := hr2
          obtain ⟨s0, s1, s2, s3⟩ := cells4 hr3 HIL.out
          have f0 := hr3.frozen (a * 4)
          have f1 := hr3.frozen (a * 4 + 1)
          have f2 := hr3.frozen (a * 4 + 2)
          have f3 := hr3.frozen (a * 4 + 3)
          have hx2 := (u2.block wr.heap.size hltA).trans HQ.out
          have x0 : w2.cell? ⟨wr.heap.size, 0, none⟩ = some (.int .i64 l[b].s) := cell_of_row _ _ 0 _ _ _ hx2
          have x1 : w2.cell? ⟨wr.heap.size, 1, none⟩ = some (.int .i64 l[b].n) := cell_of_row _ _ 1 _ _ _ hx2
          have x2 : w2.cell? ⟨wr.heap.size, 2, none⟩ = some (.string (bs l[b].t)) := cell_of_row _ _ 2 _ _ _ hx2
          have x3 : w2.cell? ⟨wr.heap.size, 3, none⟩ = some (.int .i64 l[b].r) := cell_of_row _ _ 3 _ _ _ hx2
          have hset := hr3.set4 HIL.out (.int .i64 l[b].s) (.int .i64 l[b].n) (.string (bs l[b].t)) (.int .i64 l[b].r)
          have hg := HGR.out
          have hg2 : w.grownBy w2 (some g) := ⟨hu.os.trans hg.os, hu.tape.trans hg.tape, hu.output.trans hg.output, Nat.le_trans hg.size hu.size, fun j hj hne => (hu.block j (Nat.lt_of_lt_of_le hj hg.size)).trans (hg.block j hj hne)⟩
          have hg3 := grown_set4 (a := a * 4) hg2 (.int .i64 l[b].s) (.int .i64 l[b].n) (.string (bs l[b].t)) (.int .i64 l[b].r)
          obtain ⟨wn, hwn⟩ : ∃ wn, (((w2.setCell ⟨g, a * 4, none⟩ (.int .i64 l[b].s)).setCell ⟨g, a * 4 + 1, none⟩ (.int .i64 l[b].n)).setCell ⟨g, a * 4 + 2, none⟩ (.string (bs l[b].t))).setCell ⟨g, a * 4 + 3, none⟩ (.int .i64 l[b].r) = wn := ⟨_, rfl⟩
          rw [hwn] at hset hg3
          have HREL : Hid (DelRel l g sp w (.int .i64 ((a + 1 : Nat) : Int)) (.int .i64 ((b + 1 : Nat) : Int)) wn) := by
            refine ⟨a + 1, b + 1, st' ++ itC l[b], rfl, rfl, by omega, by omega, ?_, ?_, ?_, hg3⟩
            · rw [HF2.out, List.length_append, HFL.out]; rfl
            · rw [List.length_append]; show _ + 4 = _; omega
            · rw [HF2.out, itL_append]
              have h2 := hset
              rw [HDR.out] at h2
              show RowI wn g ((itL ((l.take b).filter fun x => !noR x) ++ itL [l[b]]) ++ ((st' ++ itC l[b]) ++ (itL (l.drop (b + 1)) ++ sp)))
              rw [show itL [l[b]] = itC l[b] from List.append_nil (itC l[b])]
              have e : (itL ((l.take b).filter fun x => !noR x) ++ itC l[b]) ++ ((st' ++ itC l[b]) ++ (itL (l.drop (b + 1)) ++ sp)) = itL ((l.take b).filter fun x => !noR x) ++ (.int .i64 l[b].s :: .int .i64 l[b].n :: .string (bs l[b].t) :: .int .i64 l[b].r :: (st' ++ (itC l[b] ++ itL (l.drop (b + 1)) ++ sp))) := by
                simp [itC, List.append_assoc]
              rw [e]
              exact h2
          have HW := Lib.hid hwn
          clear hr2 hr3 hset hg hg2 hg3 hx2 hwn u2 hu hst hsl'
          go_wp2_with fail
          rw [HW.out]
          go_roundw
          case rel => exact HREL.out
          case measure => simp only [intOf]; omega
      · have d1 : decide (b < n) = false := decide_eq_false hlt
        have hbn : b = n := by omega
        have htk : l.take b = l := List.take_of_length_le (by rw [HN.out]; omega)
        have hdk : l.drop b = [] := List.drop_of_length_le (by rw [HN.out]; omega)
        rw [htk] at hfl hr hILf
        rw [hdk] at hr
        have hr2 : RowI wr g (itL (l.filter fun x => !noR x) ++ (st ++ sp)) := hr
        obtain ⟨Z, hZ, hcl⟩ := clear_some (c := cap - a) hr2 (s := a * 4) (n := n - a) (by omega) (by rw [List.length_append, List.length_append, hILf, hsl]; omega)
        have hset := hr2.setRow (splice (itL (l.filter fun x => !noR x) ++ (st ++ sp)) (a * 4) Z)
        have hg3 := grown_setRow hgr (splice (itL (l.filter fun x => !noR x) ++ (st ++ sp)) (a * 4) Z).toArray
        have hsp : splice (itL (l.filter fun x => !noR x) ++ (st ++ sp)) (a * 4) Z = itL (l.filter fun x => !noR x) ++ (Z ++ (itL (l.filter fun x => !noR x) ++ (st ++ sp)).drop (a * 4 + Z.length)) := by
          unfold splice
          rw [← hILf, List.take_left]
        obtain ⟨wn, hwn⟩ : ∃ wn, wr.setRow g (splice (itL (l.filter fun x => !noR x) ++ (st ++ sp)) (a * 4) Z).toArray = wn := ⟨_, rfl⟩
        rw [hwn] at hset hg3
        simp only [hwn] at hcl
        have HRES : Hid (Items wn (.slice (some ⟨g, 0, none⟩) a cap) (l.filter fun x => !noR x)) := by
          rw [hsp] at hset
          exact Items.of_row hset hfl (by omega) HC2.out
        have HG3 := Lib.hid hg3
        have HFL := Lib.hid hfl
        have hac : ¬ cap = a := by omega
        have han : a ≤ n := by omega
        have hacp : a ≤ cap := by omega
        clear hr hr2 hset hg3 hsp hwn hgr hZ hsl hILf htk hdk hfl hbn
        go_wp2_with fail
        go_ret
        refine ⟨by rw [HFL.out]; rfl, by rw [HFL.out]; exact HRES.out, HG3.out⟩

end Go.Proofs.YtakbmbiebkgkiaaGreatDoor

/-
  What the reference's Less returns. Conditions: the row can be read and is a right bag.
-/
namespace Go.Proofs.YtakbmbiebkgkiaaGreatDoor
open Go.RowKit
open Go.Proofs
open WoolBag

/-- what Less leaves -/
def LessPost (w : World) (R : List Itm × Int) (e : Ending) (w' : World) : Prop :=
  ∃ o c, e = .returned (.tuple #[.slice o R.1.length c, .int .i64 R.2]) ∧ Items w' (.slice o R.1.length c) R.1 ∧ Up w w'

set_option maxRecDepth 100000 in
set_option maxHeartbeats 1000000 in
theorem refLess_any (v : Value) (l : List Itm) (ib : Bool) (is iN : Int) (w : World) (h : Items w v l) (hb : Bag FP l) :
    Calls Tryz.prog 68 #[v, .agg #[.bool ib, .int .i64 is, .int .i64 iN]] w (LessPost w (WoolBag.drop FP l (ib, is, iN))) := by
  obtain ⟨R, hR⟩ : ∃ R, WoolBag.drop FP l (ib, is, iN) = R := ⟨_, rfl⟩
  rw [hR]
  have hf : WoolBag.find FP l (ib, is, iN) = (match idx (idB (ib, is, iN)) l with | some k => (k, 0) | none => (0, 4)) := by
    unfold WoolBag.find
    rw [(chk_zero FP).2 hb, if_neg (fun h => h rfl)]
    cases idx (idB (ib, is, iN)) l <;> rfl
  unfold WoolBag.drop at hR
  rw [hf] at hR
  clear hf
  have hl := hb.len
  have HIT := Lib.hid (fun W (hW : Up w W) => refItem_any v l ib is iN W (h.up hW))
  have HCL := Lib.hid (fun W (hW : Up w W) => sclone_any v l W (h.up hW) hl)
  have HB := Lib.hid hb
  unfold ixI at HIT
  obtain ⟨o, c, rfl, h3⟩ := h.slice
  unfold maxLen at h3
  cases hi : idx (idB (ib, is, iN)) l with
  | none =>
    rw [hi] at hR HIT
    have HRV := Lib.hid hR
    clear hR hi h hb HCL
    go_enter Tryz.func68, Tryz.ntmps68
    go_wp2_with fail
    refine (HIT.out _ (Up.alloc _ _)).mono ?_
    rintro e w1 ⟨rfl, u1⟩
    have HU1 : Hid (Up w w1) := Up.after _ _ _ u1
    clear u1
    go_wp2_with fail
    go_ret2
    have hr := HRV.out
    rw [if_neg (show ¬ (4 : Int) = 0 by decide)] at hr
    refine ⟨none, 0, by rw [← hr]; rfl, ?_, HU1.out⟩
    rw [← hr]
    exact (OItems.nil w1 0).items
  | some k =>
    rw [hi] at hR HIT
    obtain ⟨hk, _, _⟩ := idx_some hi
    rw [if_pos rfl] at hR
    have hlf := less_filter (F := FP) hb hk
    have hok := hb.ok _ (List.getElem_mem hk)
    have r1 := hok.2.2.2.2.1
    have r2 := hok.2.2.2.2.2
    have hgets := (itL_get l k hk).2.2.2
    have hsetR := itL_setR l k hk (-1)
    obtain ⟨L', hL'⟩ : ∃ L', l.set k (more l[k] (-1)) = L' := ⟨_, rfl⟩
    have hLl : L'.length = l.length := by rw [← hL', List.length_set]
    rw [hL'] at hsetR hlf
    obtain ⟨r, hrr⟩ : ∃ r, l[k].r = r := ⟨_, rfl⟩
    rw [hrr] at r1 r2 hgets hsetR
    have HG1 := Lib.hid hgets
    have HSR := Lib.hid hsetR
    have HLL := Lib.hid hLl
    have HRV : Hid (R = (L'.filter (fun x => !noR x), 0)) := by
      show R = _
      rw [← hR]
      exact congrArg (·, (0 : Int)) hlf.symm
    clear hR hi h hb hlf hok hgets hsetR hL' hrr hLl
    go_enter Tryz.func68, Tryz.ntmps68
    go_wp2_with fail
    refine (HIT.out _ (Up.alloc _ _)).mono ?_
    rintro e w1 ⟨rfl, u1⟩
    have HU1 : Hid (Up w w1) := Up.after _ _ _ u1
    clear u1
    go_wp2_with fail
    refine (HCL.out _ HU1.out).mono ?_
    rintro e w2 ⟨v', rfl, hown, u2⟩
    rcases hown.row with ⟨_, hnil⟩ | ⟨g, cap, sp, rfl, hg, hrow, hc1, hc2, hc3⟩
    · rw [hnil] at hk; simp at hk
    have hU2 := HU1.out.trans u2
    have hgw : w.heap.size ≤ g := Nat.le_trans HU1.out.size hg
    have c3 := hrow.cell (get_app (sp := sp) HG1.out)
    have fz := hrow.frozen (k * 4 + 3)
    obtain ⟨w3, hw3⟩ : ∃ w3, w2.setCell ⟨g, k * 4 + 3, none⟩ (.int .i64 (r + -1)) = w3 := ⟨_, rfl⟩
    have hrow3 := hrow.set (k * 4 + 3) (.int .i64 (r + -1))
    rw [List.set_append_left _ _ (by rw [itL_length]; omega), HSR.out, hw3] at hrow3
    have hU3 : Up w w3 := by rw [← hw3]; exact Below.setCell hU2 (p := ⟨g, k * 4 + 3, none⟩) hgw _
    have hm : r - 1 = r + -1 := Int.sub_eq_add_neg
    have HU3 := Lib.hid hU3
    have HW3 := Lib.hid hw3
    have HDEL := Lib.hid (deleteF_any L' g cap sp w3 hrow3 (by rw [HLL.out]; exact hl) (by rw [HLL.out]; exact hc1) hc2)
    rw [HLL.out] at HDEL
    have HGW := Lib.hid hgw
    unfold maxLen at hc2
    rw [← hm] at HW3
    clear hown hrow hg u2 hU2 hrow3 hU3 hw3 hc3 HG1 HSR hgw hm
    go_wp2_with fail
    rw [HW3.out]
    refine HDEL.out.mono ?_
    rintro e w4 ⟨rfl, hi4, hg4⟩
    have HI4 := Lib.hid hi4
    have HU4 : Hid (Up w w4) := Below.grown HU3.out hg4 HU3.out.size (fun j hj => by cases hj; exact HGW.out)
    clear hi4 hg4
    go_wp2_with fail
    go_ret2
    refine ⟨some ⟨g, 0, none⟩, cap, by rw [HRV.out]; rfl, ?_, HU4.out⟩
    rw [HRV.out]
    exact HI4.out

end Go.Proofs.YtakbmbiebkgkiaaGreatDoor
