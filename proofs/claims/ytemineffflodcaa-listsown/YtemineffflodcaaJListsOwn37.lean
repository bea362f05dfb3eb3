/-
  The function that yields the tokens of a text one after another (package lz, tokens): all tokens of the greedy parse come, in their order, or its first ones, where a round says 'no more'. Conditions: as each says.
-/
import Derived.Test.YtemineffflodcaaJListsOwn36
import Derived.RangeFuncNested
import Derived.RangeFuncBound
import Derived.RangeFuncCalls
import Derived.RangeFuncLeaves
import Derived.Shelf.Abstract
import Derived.Shelf.RegionOpen
import Derived.OwnWalkIn
import Derived.TacticsInMore
import Derived.LoopNIn
import Derived.LoopIn
import Derived.Maps.AppendAt
namespace Go.Proofs.Ytemineffflodcaa
open Go.RowKit
open Go.Proofs
open WoolLz
open WoolMatch

attribute [local go_sem] Oper.semAt_some

/-- the block of the row that a variable's box holds -/
def rowAt (W : World) (B : Nat) : Option Nat := (W.cell? ⟨B, 0, none⟩).bind Value.ownBlock

/-- what a round keeps: all cells but the box B and the row that it holds; a new row is new; it lies in the heap if the old one did -/
structure Kept (B : Nat) (W W' : World) : Prop where
  size : W.heap.size ≤ W'.heap.size
  same : ∀ b o, W.heap[b]? = some o → o.isCells = true → b ≠ B → rowAt W B ≠ some b → W'.heap[b]? = some o
  new : ∀ g, rowAt W' B = some g → rowAt W B = some g ∨ W.heap.size ≤ g
  lies : (∀ g, rowAt W B = some g → g < W.heap.size) → ∀ g, rowAt W' B = some g → g < W'.heap.size

theorem Kept.trans {B : Nat} {X Y Z : World} (h : Kept B X Y) (k : Kept B Y Z) : Kept B X Z := by
  refine ⟨Nat.le_trans h.size k.size, fun b o hb ho hne hr => ?_, fun g hg => ?_, fun hx => k.lies (h.lies hx)⟩
  · refine k.same b o (h.same b o hb ho hne hr) ho hne (fun e => ?_)
    rcases h.new b e with e' | e'
    · exact hr e'
    · have := (Array.getElem?_eq_some_iff.1 hb).1; omega
  · rcases k.new g hg with e | e
    · exact h.new g e
    · have := h.size; exact .inr (by omega)

theorem rowAt_of {W W' : World} {B : Nat} (h : W'.heap[B]? = W.heap[B]?) : rowAt W' B = rowAt W B := by
  unfold rowAt
  rw [World.cell?_of_block (a := ⟨B, 0, none⟩) h]

theorem Kept.put {B : Nat} {w : World} (hB : B < w.heap.size) (W : World) (l : Nat) (o o' : Obj) (hl : w.heap.size ≤ l) (h : W.heap[l]? = some o) (hc : o.isCells = false) (_ : o.isWalk = false) : Kept B W (W.putObj l o') := by
  have hg := grownBy_putObj' W l o'
  have hlt := (Array.getElem?_eq_some_iff.1 h).1
  have hr : rowAt (W.putObj l o') B = rowAt W B := rowAt_of (hg.block B (by omega) (fun e => by cases e; omega))
  refine ⟨hg.size, fun b o2 hb ho hne hrow => ?_, fun g hg2 => .inl (by rw [hr] at hg2; exact hg2), fun hx g hg2 => ?_⟩
  · refine (hg.block b (Array.getElem?_eq_some_iff.1 hb).1 (fun e => ?_)).trans hb
    cases e
    rw [h] at hb
    cases hb
    rw [hc] at ho
    cases ho
  · rw [hr] at hg2
    have := hx g hg2
    have := hg.size
    omega

/-- nothing but new blocks -/
theorem Kept.grown {B : Nat} {W W' : World} (hB : B < W.heap.size) (hg : W.grownBy W' none) : Kept B W W' := by
  have hr : rowAt W' B = rowAt W B := rowAt_of (hg.block B hB (by simp))
  refine ⟨hg.size, fun b o hb _ _ _ => (hg.block b (Array.getElem?_eq_some_iff.1 hb).1 (by simp)).trans hb, fun g h => .inl (by rw [hr] at h; exact h), fun hx g h => ?_⟩
  rw [hr] at h
  have := hx g h
  have := hg.size
  omega

theorem Up.grown {w w' : World} (h : Up w w') : w.grownBy w' none := ⟨h.os, h.tape, h.output, h.size, fun k hk _ => h.block k hk⟩

def tokEnc (t : Tok) : Array Value := #[.agg #[.int .i64 t.d, .int .i64 t.l, .int .i64 t.b]]

def IterRel (s : ByteArray) (V B n0 bs bw : Nat) (J : List Tok → World → Prop) (i : Value) (wr : World) : Prop :=
  ∃ (k : Nat) (pre : List Tok), k ≤ s.size ∧ i = .int .i64 k ∧ par s.data.toList V 0 = pre ++ par s.data.toList V k ∧ J pre wr ∧
    Boxed wr bs 9 (.string s) ∧ Boxed wr bw 3 (.int .i64 (V : Int)) ∧ n0 ≤ wr.heap.size ∧ (∀ g, rowAt wr B = some g → n0 ≤ g ∧ g < wr.heap.size)

def IterPost (s : ByteArray) (V : Nat) (J Jx : List Tok → World → Prop) (e : Ending) (W' : World) : Prop :=
  (∃ v, e = .returned v) ∧ ((∃ ys, ys = par s.data.toList V 0 ∧ J ys W') ∨ (∃ pre, pre <+: par s.data.toList V 0 ∧ Jx pre W'))

set_option maxRecDepth 100000 in
set_option maxHeartbeats 1000000 in
theorem iter_in (n : Nat) (hn : 1 ≤ n) (s : ByteArray) (V B bs bw l : Nat) (J Jx : List Tok → World → Prop) (W : World) (hs : s.size ≤ 600) (h1 : 1 ≤ V) (h2 : V ≤ 256)
    (hJ : AbidesFrom W.heap.size J)
    (hY : ∀ pre x W1, J pre W1 → pre.length < (par s.data.toList V 0).length → YieldAt Fence.wide (n - 1) Try.prog l (tokEnc x) W1 fun e W' =>
      (e = .returned (.bool true) ∧ J (pre ++ [x]) W' ∧ Kept B W1 W') ∨ (e = .returned (.bool false) ∧ Jx (pre ++ [x]) W'))
    (h0 : J [] W) (hbs : Boxed W bs 9 (.string s)) (hbw : Boxed W bw 3 (.int .i64 (V : Int))) (hB : B < W.heap.size) (hne1 : bs ≠ B) (hne2 : bw ≠ B) (hrow : rowAt W B = none) :
    CallsIn Fence.wide n Try.prog 48 #[.func (.yield l) #[] #[], .pointer (some ⟨bs, 0, none⟩), .pointer (some ⟨bw, 0, none⟩)] W (IterPost s V J Jx) := by
  obtain ⟨n0, hn0⟩ : ∃ n0, W.heap.size = n0 := ⟨_, rfl⟩
  have hbsl := hbs.lt
  have hbwl := hbw.lt
  rw [hn0] at hB hbsl hbwl
  have HN0 := Lib.hid hn0
  have HRW := Lib.hid hrow
  have HJ := Lib.hid hJ
  have HY := Lib.hid hY
  clear hn0 hrow hJ hY
  refine callsIn_of_wp Try.func48 rfl trivial ?_ rfl
  simp only [Try.ntmps48, List.size_toArray, List.length_cons, List.length_nil, Nat.reduceAdd, Nat.reduceSub, Array.replicate_succ, Array.replicate_zero, List.push_toArray, List.append_toArray, List.nil_append, List.cons_append]
  gi_wp2
  gi_loopw [4] (fun i wr => IterRel s V B n0 bs bw J i wr) (fun i _ => s.size - (intOf i).toNat)
  case atStart => exact ⟨0, [], Nat.zero_le _, rfl, rfl, h0, hbs, hbw, by rw [HN0.out]; exact Nat.le_refl _, fun g hg => by rw [HRW.out] at hg; cases hg⟩
  case round =>
    obtain ⟨k, pre, hk, rfl, hp, hj, hb1, hb2, hsz, hr⟩ := hrel
    have cs := hb1.cell
    have cw := hb2.cell
    have HB1 := Lib.hid hb1
    have HB2 := Lib.hid hb2
    have HP := Lib.hid hp
    have HJP := Lib.hid hj
    have HR := Lib.hid hr
    clear hb1 hb2 hp hj hr
    by_cases hlt : k < s.size
    · have d1 : decide (k < s.size) = true := decide_eq_true hlt
      obtain ⟨T, hT⟩ : ∃ T, tokAt s.data.toList k V = T := ⟨_, rfl⟩
      have HT := Lib.hid hT
      clear hT
      gi_wp2_with fail
      refine ⟨trivial, ?_⟩
      refine (callsIn_wide.2 (tokenAt_any s k V _ hs hlt h1 h2)).mono ?_
      rintro e w1 ⟨rfl, u1⟩
      rw [HT.out]
      have hg2 : wr.grownBy (w1.alloc (.cells #[.int .i64 T.d, .int .i64 T.l, .int .i64 T.b] 49)) none := (u1.trans (Up.alloc _ _)).grown
      have hj2 := HJ.out pre wr _ none HJP.out hg2 (fun r e => by cases e)
      have hpl : pre.length < (par s.data.toList V 0).length := by
        rw [HP.out, par_step _ _ _ (by rw [ba_length]; exact hlt), List.length_append, List.length_cons]
        omega
      obtain ⟨fn, tmps, assign, body, hy, hR⟩ := HY.out pre T _ hj2 hpl
      unfold tokEnc at hy
      have HG2 := Lib.hid hg2
      clear hj2 hg2 hpl
      gi_wp2_with fail
      refine hR.mono ?_
      clear hy hR
      rintro e W3 (⟨rfl, hJ3, hk3⟩ | ⟨rfl, hJx3⟩)
      · obtain ⟨w2, hw2⟩ : ∃ w2, w1.alloc (.cells #[.int .i64 T.d, .int .i64 T.l, .int .i64 T.b] 49) = w2 := ⟨_, rfl⟩
        have hbx : Box3 w2 w1.heap.size 49 (.int .i64 T.d) (.int .i64 T.l) (.int .i64 T.b) := by rw [← hw2]; exact Box3.new _ _ _ _ _
        rw [hw2] at hk3 HG2
        have hg2 := HG2.out
        have hu1 := u1.size
        clear hw2
        have hrow2 : rowAt w2 B = rowAt wr B := rowAt_of (hg2.block B (by omega) (by simp))
        have hr := HR.out
        have hbx3 : Box3 W3 w1.heap.size 49 (.int .i64 T.d) (.int .i64 T.l) (.int .i64 T.b) := hk3.same _ _ hbx rfl (by omega) (fun e => by rw [hrow2] at e; have := hr _ e; omega)
        have hs3 : Boxed W3 bs 9 (.string s) := hk3.same _ _ (HB1.out.kept hg2 (by simp)) rfl hne1 (fun e => by rw [hrow2] at e; have := hr _ e; omega)
        have hw3 : Boxed W3 bw 3 (.int .i64 (V : Int)) := hk3.same _ _ (HB2.out.kept hg2 (by simp)) rfl hne2 (fun e => by rw [hrow2] at e; have := hr _ e; omega)
        have hsz2 := hg2.size
        have hsz3 := hk3.size
        have hr3 : ∀ g, rowAt W3 B = some g → n0 ≤ g ∧ g < W3.heap.size := by
          intro g hg
          refine ⟨?_, hk3.lies (fun g' h' => by rw [hrow2] at h'; have := hr _ h'; omega) g hg⟩
          rcases hk3.new g hg with e | e
          · rw [hrow2] at e; exact (hr _ e).1
          · omega
        obtain ⟨c0, c1, c2⟩ := hbx3.cells
        have HS3 := Lib.hid hs3
        have HW3 := Lib.hid hw3
        have HR3 := Lib.hid hr3
        have HJ3 := Lib.hid hJ3
        have hst := siz_tokAt s.data.toList k V
        rw [HT.out] at hst
        have hsle := stp_le s.data.toList k V (by rw [ba_length]; exact hlt)
        rw [ba_length] at hsle
        have hps := par_step s.data.toList V k (by rw [ba_length]; exact hlt)
        rw [HT.out] at hps
        have hpp : par s.data.toList V 0 = (pre ++ [T]) ++ par s.data.toList V (k + stp s.data.toList k V) := by rw [HP.out, hps, List.append_assoc]; rfl
        have hspos := stp_pos s.data.toList k V
        obtain ⟨S, hS⟩ : ∃ S, stp s.data.toList k V = S := ⟨_, rfl⟩
        rw [hS] at hst hsle hpp hspos
        have hmx : max T.l 1 = (S : Int) := by unfold siz at hst; omega
        have HPP := Lib.hid hpp
        have HMX := Lib.hid hmx
        clear hpp hmx hst hS hps hbx hbx3 hs3 hw3 hr3 hJ3 hr hk3 hrow2 HG2 hg2 u1
        gi_wp2_with fail
        refine ⟨trivial, ?_⟩
        refine (callsIn_wide.2 (size_any T.d T.l T.b _)).mono ?_
        rintro e W4 ⟨rfl, u4⟩
        rw [HMX.out]
        have hs4 := HS3.out.kept u4.grown (by simp)
        have hw4 := HW3.out.kept u4.grown (by simp)
        have hj4 := HJ.out _ _ _ none HJ3.out u4.grown (fun r e => by cases e)
        have hz4 := u4.size
        have hB3 : B < W3.heap.size := by omega
        have hr4 : ∀ g, rowAt W4 B = some g → n0 ≤ g ∧ g < W4.heap.size := by
          intro g hg
          rw [rowAt_of (u4.block B hB3)] at hg
          have := HR3.out g hg
          omega
        have H1 := Lib.hid hs4
        have H2 := Lib.hid hw4
        have H3 := Lib.hid hj4
        have H4 := Lib.hid hr4
        clear hs4 hw4 hj4 hr4 u4
        gi_wp2_with fail
        go_roundw
        case rel => exact ⟨k + S, pre ++ [T], hsle, by go_num, HPP.out, H3.out, H1.out, H2.out, by omega, H4.out⟩
        case measure => simp only [intOf]; omega
      · have hps := par_step s.data.toList V k (by rw [ba_length]; exact hlt)
        rw [HT.out] at hps
        have hpf : pre ++ [T] <+: par s.data.toList V 0 := by
          rw [HP.out, hps]
          exact ⟨par s.data.toList V (k + stp s.data.toList k V), by rw [List.append_assoc]; rfl⟩
        have H1 := Lib.hid hpf
        clear hpf hps
        gi_wp2_with fail
        refine bodyPost_ret (results_none rfl _ _ _) rfl ?_
        exact ⟨⟨_, rfl⟩, .inr ⟨pre ++ [T], H1.out, hJx3⟩⟩
    · have d1 : decide (k < s.size) = false := decide_eq_false hlt
      have he : pre = par s.data.toList V 0 := by
        rw [HP.out, par_end _ _ _ (by rw [ba_length]; omega), List.append_nil]
      have H1 := Lib.hid he
      clear he
      gi_wp2_with fail
      go_end0
      exact ⟨⟨_, rfl⟩, .inl ⟨pre, H1.out, HJP.out⟩⟩

end Go.Proofs.Ytemineffflodcaa
