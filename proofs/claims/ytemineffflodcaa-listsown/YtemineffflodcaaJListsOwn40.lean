/-
  What Parse of package lz returns, for every text and every window: the error that the document lists first, else the tokens of the greedy parse, in new memory. Conditions: as each says.
-/
import Derived.Test.YtemineffflodcaaJListsOwn37
import Derived.Test.YtemineffflodcaaJListsOwn39
import Derived.Maps.OwnIn
namespace Go.Proofs.Ytemineffflodcaa
open Go.RowKit
open Go.Proofs
open WoolLz
open WoolMatch

attribute [local go_sem] Oper.semAt_some

theorem iter_stops (n : Nat) (hn : 1 ≤ n) (s : ByteArray) (V B bs bw : Nat) (w : World) (hs : s.size ≤ 600) (h1 : 1 ≤ V) (h2 : V ≤ 256)
    (hbs : Boxed w bs 9 (.string s)) (hbw : Boxed w bw 3 (.int .i64 (V : Int))) (hB : Boxed w B 34 (.slice none 0 0)) (hne1 : bs ≠ B) (hne2 : bw ≠ B) :
    SeqStopsK Fence.wide n Try.prog 48 #[.pointer (some ⟨bs, 0, none⟩), .pointer (some ⟨bw, 0, none⟩)] tokEnc (Kept B) (fun ys => ys = par s.data.toList V 0) (fun pre => pre <+: par s.data.toList V 0) (par s.data.toList V 0).length w := by
  intro l J Jx W hW hJ _ hY h0
  have hB' : Boxed W B 34 (.slice none 0 0) := (hW.block B hB.lt).trans hB
  refine (iter_in n hn s V B bs bw l J Jx W hs h1 h2 hJ hY h0 ((hW.block bs hbs.lt).trans hbs) ((hW.block bw hbw.lt).trans hbw) hB'.lt hne1 hne2 ?_).mono (fun e W' h => h)
  unfold rowAt
  rw [hB'.cell]
  rfl

set_option maxRecDepth 100000 in
theorem tokens_in (n : Nat) (s : ByteArray) (V : Int) (w : World) :
    CallsIn Fence.wide n Try.prog 35 #[.string s, .int .i64 V] w fun e w' => e = .returned (.func (.func 48) #[] #[.pointer (some ⟨w.heap.size, 0, none⟩), .pointer (some ⟨w.heap.size + 1, 0, none⟩)]) ∧
      w' = (w.alloc (.cells #[.string s] 9)).alloc (.cells #[.int .i64 V] 3) := by
  refine callsIn_of_wp Try.func35 rfl trivial ?_ rfl
  simp only [Try.ntmps35, List.size_toArray, List.length_cons, List.length_nil, Nat.reduceAdd, Nat.reduceSub, Array.replicate_succ, Array.replicate_zero, List.push_toArray, List.append_toArray, List.nil_append, List.cons_append]
  gi_wp2
  go_ret
  exact ⟨rfl, rfl⟩

/-- what an append to the variable in a box keeps -/
theorem Kept.appended {W w1 : World} {n0 B : Nat} {t e : TypeId} {size m k : Nat} {v v' : Value} {xs ys : List Value} {tmp : Obj}
    (hv : Boxed W B t v) (hte : t ≠ e) (hrow : W.ownsRow n0 e size v k xs) (hown' : w1.ownsRow n0 e size v' m ys) (hgrow : (W.alloc tmp).grownBy w1 v.ownBlock)
    (hat : v'.ownBlock = v.ownBlock ∨ v'.ownBlock = some (W.heap.size + 1)) : Kept B W (w1.setCell ⟨B, 0, none⟩ v') := by
  have hv1 : Boxed w1 B t v := (hv.alloc tmp).kept hgrow (hv.not_row hte hrow)
  have hv2 := hv1.set v'
  have hg2 := grownBy_setCell' w1 B v'
  have r0 : rowAt W B = v.ownBlock := by unfold rowAt; rw [hv.cell]; rfl
  have r1 : rowAt (w1.setCell ⟨B, 0, none⟩ v') B = v'.ownBlock := by unfold rowAt; rw [hv2.cell]; rfl
  have hs1 := hgrow.size
  have hs2 := hg2.size
  rw [World.size_alloc] at hs1
  refine ⟨by omega, fun b o hb ho hne hr => ?_, fun g hg => ?_, fun _ g hg => ?_⟩
  · have hlt := (Array.getElem?_eq_some_iff.1 hb).1
    rw [r0] at hr
    refine (hg2.block b (by omega) (fun e' => hne (by cases e'; rfl))).trans ((hgrow.block b (by rw [World.size_alloc]; omega) (fun e' => hr e'.symm)).trans ?_)
    exact (Below.heap_alloc W tmp b hlt).trans hb
  · rw [r1] at hg
    rw [r0]
    rcases hat with h | h
    · left; rw [← h]; exact hg
    · right; rw [h] at hg; cases hg; omega
  · rw [r1] at hg
    rcases hown'.2 with ⟨rfl, _⟩ | ⟨g', cap, cur, rfl, _, hgb, _⟩
    · simp [Value.ownBlock] at hg
    · obtain rfl : g' = g := by simpa [Value.ownBlock] using hg
      have := (Array.getElem?_eq_some_iff.1 hgb).1
      omega

def ParsePost (s : ByteArray) (V : Nat) (w : World) (e : Ending) (w' : World) : Prop :=
  ∃ v, e = .returned (.tuple #[v, .int .i64 0]) ∧ OToks w' w.heap.size v (par s.data.toList V 0) ∧ Up w w'

set_option maxRecDepth 100000 in
set_option maxHeartbeats 2000000 in
theorem parse_ok (s : ByteArray) (V : Nat) (w : World) (hs : s.size ≤ 600) (h1 : 1 ≤ V) (h2 : V ≤ 256) :
    Calls Try.prog 11 #[.string s, .int .i64 (V : Int)] w (ParsePost s V w) := by
  obtain ⟨i0, hi, hz0, hz1, hz2⟩ := info_parts tokInfo
  have HI := Lib.hid hi
  have HZ0 := Lib.hid hz0
  have HZ1 := Lib.hid hz1
  have HZ2 := Lib.hid hz2
  have hpl := par_len s.data.toList V s.data.toList.length 0 (by omega)
  rw [ba_length] at hpl
  have hlg := long_start s.data.toList V
  have HLG := Lib.hid hlg
  clear hi hz0 hz1 hz2 hlg
  refine (callsIn_wide (n := 5)).1 ?_
  refine callsIn_of_wp_marks Try.func11 rfl trivial ?_ rfl
  simp only [Try.ntmps11, List.size_toArray, List.length_cons, List.length_nil, Nat.reduceAdd, Nat.reduceSub, Array.replicate_succ, Array.replicate_zero, List.push_toArray, List.append_toArray, List.nil_append, List.cons_append]
  gi_wp2_with fail
  refine ⟨trivial, ?_⟩
  refine (callsIn_wide.2 (longest_ok s 0 V _ hs (by omega) h1 h2)).mono ?_
  rintro e w1 ⟨rfl, u1⟩
  rw [HLG.out]
  gi_wp2_with fail
  refine ⟨trivial, ?_⟩
  refine (tokens_in _ s (V : Int) _).mono ?_
  rintro e w2 ⟨rfl, rfl⟩
  gi_wp2_with fail
  have bO := ((Boxed.new w1 34 (.slice none 0 0)).alloc (.cells #[.string s] 9)).alloc (.cells #[.int .i64 (V : Int)] 3)
  have bS := (Boxed.new (w1.alloc (.cells #[.slice none 0 0] 34)) 9 (.string s)).alloc (.cells #[.int .i64 (V : Int)] 3)
  have bV := Boxed.new ((w1.alloc (.cells #[.slice none 0 0] 34)).alloc (.cells #[.string s] 9)) 3 (.int .i64 (V : Int))
  simp only [World.size_alloc] at bS bV
  have hB0 : Below w1.heap.size w1 (((w1.alloc (.cells #[.slice none 0 0] 34)).alloc (.cells #[.string s] 9)).alloc (.cells #[.int .i64 (V : Int)] 3)) := (((Below.refl _ w1).alloc (Nat.le_refl _) _).alloc (by simp) _).alloc (by simp; omega) _
  have hsz : (((w1.alloc (.cells #[.slice none 0 0] 34)).alloc (.cells #[.string s] 9)).alloc (.cells #[.int .i64 (V : Int)] 3)).heap.size = w1.heap.size + 3 := by simp
  obtain ⟨W0, hW0⟩ : ∃ W0, ((w1.alloc (.cells #[.slice none 0 0] 34)).alloc (.cells #[.string s] 9)).alloc (.cells #[.int .i64 (V : Int)] 3) = W0 := ⟨_, rfl⟩
  rw [hW0] at bO bS bV hB0 hsz ⊢
  clear hW0
  refine wpIn_rangeFunc_ownH rfl (by omega) (gf := 48) (lb := #[.pointer (some ⟨w1.heap.size + 1, 0, none⟩), .pointer (some ⟨w1.heap.size + 1 + 1, 0, none⟩)]) rfl trivial (enters_of Try.func48 (by kernel_rfl) rfl)
    (iter_stops _ (by omega) s V w1.heap.size (w1.heap.size + 1) (w1.heap.size + 1 + 1) W0 hs h1 h2 bS bV bO (by omega) (by omega)) (fun h k => h.trans k) (Kept.put (by omega)) (Below.refl _ _) (fun _ => rfl)
    (fun pre W => (∃ v, Boxed W w1.heap.size 34 v ∧ W.ownsRow w1.heap.size 49 3 v pre.length (tokL pre) ∧ True) ∧ Below w1.heap.size w1 W)
    (fun _ _ _ => False)
    (OwnFrom.and (Own.from (holdsRow_own w1.heap.size w1.heap.size 34 49 3 (fun pre => pre.length) tokL (fun _ _ => True)) _) (ownFrom_below (Nat.le_refl _) (by omega)))
    (fun _ _ _ _ _ hs _ _ => hs)
    ⟨⟨_, bO, World.ownsRow_nil _ _ _ _, trivial⟩, hB0⟩
    (fun x a' W => ∃ Bx, Box3 W Bx 49 (.int .i64 x.d) (.int .i64 x.l) (.int .i64 x.b) ∧ a' = { tmps := #[.string s, .int .i64 (V : Int), undef, undef, .slice none 0 0, .int .i64 0, .int .i64 0, .int .i64 0, .int .i64 0, .pointer (some ⟨w1.heap.size, 0, none⟩), .pointer (some ⟨Bx, 0, none⟩), .tuple #[.int .i64 0, .int .i64 0, .int .i64 0], .string s, .int .i64 (V : Int), .tuple #[.int .i64 0, .int .i64 0, .int .i64 0], .int .i64 0, .int .i64 0, .int .i64 0, .int .i64 0, .bool false, undef, .string s, .int .i64 (V : Int), .func (.func 48) #[] #[.pointer (some ⟨w1.heap.size + 1, 0, none⟩), .pointer (some ⟨w1.heap.size + 1 + 1, 0, none⟩)], .agg #[.int .i64 x.d, .int .i64 x.l, .int .i64 x.b], undef, undef, undef, undef, undef], defers := [] })
    (fun x a' _ X Y row hs hg hr => by
      obtain ⟨Bx, g1, g2⟩ := hs
      refine ⟨Bx, g1.kept hg (fun e' => ?_), g2⟩
      obtain ⟨_, o, ho, hc⟩ := hr Bx e'.symm
      rw [show X.heap[Bx]? = _ from g1] at ho; cases ho; cases hc)
    ?assign ?body ?done ?stop
  case assign =>
    rintro l pre x W K ⟨⟨v, hv, hrow, _⟩, hB⟩ hK
    dsimp only [tokEnc]
    gi_wp2
    exact hK _ _ ((KeepsOthers.alloc _ _).from _) (Kept.grown hv.lt (World.grownBy_alloc _ _ _)) ⟨⟨v, hv.alloc _, hrow.alloc _, trivial⟩, hB.alloc hB.size _⟩ ⟨W.heap.size, Box3.new W _ _ _ _, rfl⟩
  case body =>
    rintro l pre x a' W hl ⟨r, hr⟩ ⟨⟨v, hv, hrow, _⟩, hB⟩ ⟨Bx, bX, rfl⟩ hlt
    have hc := hv.cell
    obtain ⟨c0, c1, c2⟩ := bX.cells
    gi_wp2_with (gi_at_builtin; refine wpListIn_append_own_at _ rfl _ _ 34 rfl w1.heap.size 49 i0 (.agg #[.int .i64 0, .int .i64 0, .int .i64 0]) 3 24 Try.underlying34 HI.out HZ0.out HZ1.out HZ2.out rfl (by decide) _ _ _ rfl (hrow.alloc _) ⟨W.heap.size, 0, none⟩ 1 1 [.int .i64 x.d, .int .i64 x.l, .int .i64 x.b] rfl rfl (cell_three_new _ _ _ _ _) (by simp [Value.oneCell']) (by unfold maxLen; omega) (by omega) (by have := hB.size; simp; omega) ?_; intro v' w3 hown' hgrow _ hat; obtain ⟨g', cap', rfl⟩ := ownsRow_succ hown'; obtain ⟨hv1, hv2, hr2, hk2, hb2⟩ := hv.appended (by decide) hrow hB.size (Nat.le_refl _) hown' hgrow; have hc1 := hv1.cell; have hf1 := hv1.frozen)
    rw [World.size_alloc] at hat
    exact ⟨hk2.from _, Kept.appended hv (by decide) hrow hown' hgrow hat, ⟨_, hv2, by rw [tokL_snoc, List.length_append]; exact hr2, trivial⟩, hB.trans hb2⟩
  case done =>
    rintro D ys W hD rfl ⟨⟨v, hv, hrow, _⟩, hB⟩ hK
    have hc := hv.cell
    gi_wp2
    refine ⟨by simp, .inl ⟨_, _, rfl, run_takeDeferred hK, ?_⟩⟩
    have hbb := hB.trans (belowK_b (w := w1) (Nat.le_refl _) W D _ (.deferred none) (by omega) hK rfl rfl)
    have hrr := ownsRow_putObj hrow (.deferred none) hK rfl
    exact ⟨_, results_tmp2 rfl _ _ _, v, rfl, ⟨hrr.1, by
      rcases hrr.2 with h | ⟨g, cap, cur, g1, g2, g3⟩
      · exact .inl h
      · exact .inr ⟨g, cap, cur, g1, Nat.le_trans u1.size g2, g3⟩⟩, u1.trans hbb⟩
  case stop =>
    rintro D c pre W _ _ h _
    exact h.elim

end Go.Proofs.Ytemineffflodcaa
