/-
  What slices.Grow (of nil) and slices.Concat return at rows of records: one new row of all, one behind the other. Conditions: the rows can be read.
-/
import Derived.Test.YtabhalajelbfoaaSegD
import Derived.Lib.AppendZerosOnto
import Derived.Lib.SliceRun
namespace Go.Proofs.Ytabhalajelbfoaa
open Go.RowKit
open Go.Proofs
open WoolBag
open WoolSeg

theorem Recs.news {w : World} {o : Option Addr} {n c : Nat} {l : List Rc} (h : Recs w (.slice o n c) l) (h0 : 0 < l.length) : ∃ ad : Addr, o = some ad ∧ ∀ j u, (fl rcC l)[j]? = some u → w.cell? (ad.add j) = some u := by
  obtain ⟨b, off, h1, h2⟩ := Sl.cells h (by omega)
  exact ⟨⟨b, off, none⟩, h1, fun j u hj => by rw [add_offS]; exact h2 j u hj⟩

/-- an append whose run is known -/
theorem wpList_append_runR {P : Program} (w : World) {ops : Array Oper} {rest : List Oper} {o : Oper} {a : Act} {Q : Exit → Act → World → Prop} (hgd : o.guard = none) (s x : Operand) (ts : Array TypeId)
    (ho : o.op = .call { callee := .builtin .append, args := #[s, x], argTypes := ts }) (v1 v2 v' : Value) (w' : World) (hs : a.eval s = v1) (hx : a.eval x = v2)
    (hrun : (Builtin.append_ ts o.type #[v1, v2]).run P w = .ok v' w') (h : wpList P ops Q rest (a.put o.dst v') w') : wpList P ops Q (o :: rest) a w := by
  refine wpList_plain hgd fun K hK => ?_
  unfold Oper.wp execOp
  simp only [ho, resolve, invoke, builtin, Sem.run_bind, Sem.run_pure, Result.andThen_ok, List.map_toArray, List.map_cons, List.map_nil, hs, hx, hrun]
  exact hK _ _ h

theorem grown_upR {w wr w' : World} {g k G n : Nat} {xs : List Value} {e : TypeId} {size : Nat} (hu : Up w wr) (hown : wr.ownsRow w.heap.size e size (.slice (some ⟨g, 0, none⟩) k G) n xs) (hg : wr.grownBy w' (some g)) : Up w w' :=
  Below.grown hu hg hu.size (fun q hq => (World.ownsRow.lt hown q hq).1)

def GrowPostR (n : Nat) (w : World) (e : Ending) (w' : World) : Prop :=
  ∃ G, e = .returned (.slice (some ⟨w.heap.size, 0, none⟩) 0 G) ∧ n ≤ G ∧ w'.ownsRow w.heap.size 36 4 (.slice (some ⟨w.heap.size, 0, none⟩) 0 G) 0 [] ∧ Up w w'

theorem zero_sizeR (n : Nat) : (Builtin.zeroCells (Value.agg #[.bool false, .int .i64 0, .int .i64 0, .string ⟨#[]⟩]).cells n).size = n * 4 := by
  unfold Builtin.zeroCells
  rw [Array.size_map, Array.size_range]
  rfl

set_option maxRecDepth 100000 in
set_option maxHeartbeats 400000 in
theorem grow_nilR (n : Nat) (w : World) (h0 : 0 < n) (h : n * 40 ≤ 281474976710656) :
    Calls Try.prog 61 #[.slice none 0 0, .int .i64 (n : Int)] w (GrowPostR n w) := by
  obtain ⟨i0, hi, hz0, hz1, hz2⟩ := rcInfo'
  have hold : (Builtin.firstCells i0.size 0 (.slice none 0 0)).run Try.prog w.drew = .ok ([] : List Value).toArray w.drew := by simp [Builtin.firstCells]
  have hnx : Builtin.nextslicecap (0 + n) 0 = n := by unfold Builtin.nextslicecap; rw [if_pos (by omega)]; omega
  have hrun := fun ty => Lib.run_append_grow_zeros (P := Try.prog) w 45 3 ty 36 i0 _ .i64 .i64 Try.underlying45 Try.underlying3 hi hz0 none 0 0 [] hold n h0 (by rw [hz1]; omega) (by omega) (by omega) (by rw [hz2]; exact h) (by rw [hz2, hnx]; exact h)
  have hG1 := grownCap_ge w (0 + n) 0 36
  have hG2 := grownCap_le_maxLen w (0 + n) 0 36 (by unfold maxLen; omega)
  obtain ⟨G, hG⟩ : ∃ G, grownCap w (0 + n) 0 36 = G := ⟨_, rfl⟩
  rw [hG] at hG1 hG2
  simp only [hG] at hrun
  obtain ⟨cs, hcs⟩ : ∃ cs, (([] : List Value).toArray ++ Builtin.zeroCells (Value.agg #[.bool false, .int .i64 0, .int .i64 0, .string ⟨#[]⟩]).cells n ++ Builtin.zeroCells (Value.agg #[.bool false, .int .i64 0, .int .i64 0, .string ⟨#[]⟩]).cells (G - (0 + n))) = cs := ⟨_, rfl⟩
  have hsz : cs.size = G * 4 := by rw [← hcs, Array.size_append, Array.size_append, zero_sizeR, zero_sizeR]; simp; omega
  simp only [hcs] at hrun
  have HSZ := Lib.hid hsz
  unfold maxLen at hG2
  clear hcs hsz hG hold hnx hi hz0 hz1 hz2
  have d1 : decide ((n : Int) < 0) = false := by rw [decide_eq_false_iff_not]; omega
  have d2 : decide (0 < n) = true := decide_eq_true h0
  rw [Nat.zero_add] at hrun
  go_enter Try.func61, Try.ntmps61
  go_wp2_with (at_builtin; refine wpList_append_runR _ rfl _ _ #[45, 3] rfl _ _ _ _ rfl rfl (hrun _) ?_)
  go_ret
  refine ⟨G, rfl, by omega, ⟨rfl, .inr ⟨w.heap.size, G, cs, rfl, Nat.le_refl _, heap_alloc_new _ _, Nat.zero_le _, by unfold maxLen; omega, HSZ.out, rfl⟩⟩, (Up.drew _).trans (Up.alloc _ _)⟩

set_option maxRecDepth 100000 in
theorem grow_noneR (w : World) :
    Calls Try.prog 61 #[.slice none 0 0, .int .i64 0] w fun e w' => e = .returned (.slice none 0 0) ∧ w = w' := by
  go_enter Try.func61, Try.ntmps61
  go_wp2_with fail
  go_ret
  exact ⟨rfl, rfl⟩

/-- an append into a row that has room -/
theorem run_catR {w : World} {base g k G n c : Nat} {o : Option Addr} {xs l : List Rc} (ty : TypeId) (hown : w.ownsRow base 36 4 (.slice (some ⟨g, 0, none⟩) k G) k (fl rcC xs)) (hs : Recs w (.slice o n c) l) (hroom : k + l.length ≤ G) (h1l : ∀ u ∈ fl rcC l, u.oneCell' = true) :
    ∃ w', (Builtin.append_ #[45, 45] ty #[.slice (some ⟨g, 0, none⟩) k G, .slice o n c]).run Try.prog w = .ok (.slice (some ⟨g, 0, none⟩) (k + l.length) G) w' ∧
      w'.ownsRow base 36 4 (.slice (some ⟨g, 0, none⟩) (k + l.length) G) (k + l.length) (fl rcC (xs ++ l)) ∧ w.grownBy w' (some g) := by
  obtain ⟨i0, hi, hz0, hz1, hz2⟩ := rcInfo'
  have hn : n = l.length := by
    obtain ⟨o', c', hv, _⟩ := Sl.slice hs
    simp only [Value.slice.injEq] at hv
    exact hv.2.1
  subst hn
  rcases Nat.eq_zero_or_pos l.length with h0 | h0
  · have hl : l = [] := List.eq_nil_of_length_eq_zero h0
    subst hl
    refine ⟨w, ?_, by rw [List.append_nil]; exact hown, World.grownBy.refl _ _⟩
    have hkG : k ≤ G := hroom
    cases o with
    | none => simp [Builtin.append_, run_underlying Try.underlying45, sizeOf, typeInfo, hi, Builtin.lenOf, Builtin.firstCells, storeCells, hkG]
    | some a => simp [Builtin.append_, run_underlying Try.underlying45, sizeOf, typeInfo, hi, Builtin.lenOf, Builtin.firstCells, storeCells, loadCells, loadCellsFrom, hkG]
  · obtain ⟨ad, rfl, hnews⟩ := Recs.news hs h0
    obtain ⟨w', hrun, r1, r2⟩ := run_append_fits (P := Try.prog) w base 45 ty 36 i0 4 Try.underlying45 hi hz1 g k G (fl rcC xs) hown ad l.length c (fl rcC l) (fl_length rcC_len l) hnews h1l hroom
    exact ⟨w', hrun, by rw [fl_append]; exact r1, r2⟩

/-- an append of nothing to nil -/
theorem run_cat_noneR {w : World} {n c : Nat} {o : Option Addr} {l : List Rc} (ty : TypeId) (hs : Recs w (.slice o n c) l) (h0 : l.length = 0) :
    (Builtin.append_ #[45, 45] ty #[.slice none 0 0, .slice o n c]).run Try.prog w = .ok (.slice none 0 0) w := by
  obtain ⟨i0, hi, hz0, hz1, hz2⟩ := rcInfo'
  have hn : n = 0 := by
    obtain ⟨o', c', hv, _⟩ := Sl.slice hs
    simp only [Value.slice.injEq] at hv
    rw [hv.2.1, h0]
  subst hn
  cases o with
  | none => simp [Builtin.append_, run_underlying Try.underlying45, sizeOf, typeInfo, hi, Builtin.lenOf, Builtin.firstCells]
  | some a => simp [Builtin.append_, run_underlying Try.underlying45, sizeOf, typeInfo, hi, Builtin.lenOf, Builtin.firstCells, loadCells, loadCellsFrom]

/-- what has been put together -/
def CatRowR (w : World) (base N : Nat) (v : Value) (xs : List Rc) : Prop :=
  (N = 0 ∧ xs = [] ∧ v = .slice none 0 0) ∨ ∃ g G, v = .slice (some ⟨g, 0, none⟩) xs.length G ∧ N ≤ G ∧ w.ownsRow base 36 4 v xs.length (fl rcC xs)

theorem CatRowR.recs {w : World} {base N : Nat} {v : Value} {xs : List Rc} (h : CatRowR w base N v xs) : Recs w v xs := by
  rcases h with ⟨_, rfl, rfl⟩ | ⟨g, G, rfl, _, h⟩
  · exact Sl.nil w 4
  · exact Sl.of_own h

/-- one more row behind what has been put together -/
theorem CatRowR.more {w wr : World} {N : Nat} {v : Value} {xs l : List Rc} {o : Option Addr} {n c : Nat} (ty : TypeId) (h : CatRowR wr w.heap.size N v xs) (hu : Up w wr) (hs : Recs wr (.slice o n c) l) (hN : xs.length + l.length ≤ N) (h1l : ∀ u ∈ fl rcC l, u.oneCell' = true) :
    ∃ v' w', (Builtin.append_ #[45, 45] ty #[v, .slice o n c]).run Try.prog wr = .ok v' w' ∧ CatRowR w' w.heap.size N v' (xs ++ l) ∧ Up w w' := by
  rcases h with ⟨h0, rfl, rfl⟩ | ⟨g, G, rfl, hG, hown⟩
  · have hl : l.length = 0 := by omega
    refine ⟨_, _, run_cat_noneR ty hs hl, ?_, hu⟩
    rw [List.eq_nil_of_length_eq_zero hl]
    exact .inl ⟨h0, rfl, rfl⟩
  · obtain ⟨w', hrun, r1, r2⟩ := run_catR ty hown hs (by omega) h1l
    refine ⟨_, w', hrun, .inr ⟨g, G, by rw [List.length_append], hG, by rw [List.length_append]; exact r1⟩, ?_⟩
    exact grown_upR hu hown r2


def GrewPostR (n : Nat) (w : World) (e : Ending) (w' : World) : Prop := ∃ v, e = .returned v ∧ CatRowR w' w.heap.size n v [] ∧ Up w w'

theorem grow_anyR (n : Nat) (i : Int) (w : World) (hi : i = (n : Int)) (h : n * 40 ≤ 281474976710656) :
    Calls Try.prog 61 #[.slice none 0 0, .int .i64 i] w (GrewPostR n w) := by
  subst hi
  rcases Nat.eq_zero_or_pos n with h0 | h0
  · subst h0
    refine (grow_noneR w).mono ?_
    rintro e w' ⟨rfl, rfl⟩
    exact ⟨_, rfl, .inl ⟨rfl, rfl, rfl⟩, Up.refl _⟩
  · refine (grow_nilR n w h0 h).mono ?_
    rintro e w' ⟨G, rfl, hG, hown, hu⟩
    exact ⟨_, rfl, .inr ⟨_, G, rfl, hG, hown⟩, hu⟩

theorem CatRowR.shape {w : World} {base N : Nat} {v : Value} {xs : List Rc} (h : CatRowR w base N v xs) : ∃ o c, v = .slice o xs.length c := by
  rcases h with ⟨_, rfl, rfl⟩ | ⟨g, G, rfl, _⟩
  · exact ⟨_, _, rfl⟩
  · exact ⟨_, _, rfl⟩

theorem CatRowR.fresh {w : World} {base N : Nat} {v : Value} {xs : List Rc} (h : CatRowR w base N v xs) : ∀ b, v.ownBlock = some b → base ≤ b ∧ b < w.heap.size := by
  rcases h with ⟨_, _, rfl⟩ | ⟨g, G, rfl, _, h⟩
  · intro b e; cases e
  · intro b e
    exact World.ownsRow.lt h b e

def SumRelR (l : List (List Rc)) (w : World) (s i : Value) (wr : World) : Prop :=
  ∃ k : Nat, k ≤ l.length ∧ i = .int .i64 (k : Int) ∧ s = .int .i64 (((l.take k).flatten.length : Nat) : Int) ∧ w = wr

def CatRelR (l : List (List Rc)) (w : World) (T : Nat) (v i : Value) (wr : World) : Prop :=
  ∃ k : Nat, k ≤ l.length ∧ i = .int .i64 (k : Int) ∧ Up w wr ∧ CatRowR wr w.heap.size T v (l.take k).flatten

theorem flat_step {l : List (List Rc)} {k : Nat} (h : k < l.length) : (l.take (k + 1)).flatten = (l.take k).flatten ++ l[k] := by
  rw [List.take_succ_eq_append_getElem h, List.flatten_append]
  simp
theorem flat_le (l : List (List Rc)) (k : Nat) : (l.take k).flatten.length ≤ l.flatten.length := by
  conv => rhs; rw [← List.take_append_drop k l, List.flatten_append, List.length_append]
  omega

def CatPostR (l : List (List Rc)) (w : World) (e : Ending) (w' : World) : Prop := ∃ v, e = .returned v ∧ Recs w' v l.flatten ∧ Up w w' ∧ ∀ b, v.ownBlock = some b → w.heap.size ≤ b ∧ b < w'.heap.size

set_option maxRecDepth 100000 in
set_option maxHeartbeats 2000000 in
theorem concatR_any (v : Value) (l : List (List Rc)) (w : World) (h : Sgs w v l) (hT : l.flatten.length ≤ 1000000) :
    Calls Try.prog 51 #[v] w (CatPostR l w) := by
  have HX := Lib.hid h
  obtain ⟨o, c, rfl, h2, h3⟩ := h.slice
  unfold maxLen at h3
  obtain ⟨T, hTT⟩ : ∃ T, l.flatten.length = T := ⟨_, rfl⟩
  rw [hTT] at hT
  have HT := Lib.hid hTT
  obtain ⟨N, hN⟩ : ∃ N, l.length = N := ⟨_, rfl⟩
  rw [hN] at h2 HX ⊢
  have HN := Lib.hid hN
  clear h hTT hN
  go_enter Try.func51, Try.ntmps51
  go_wp2_with fail
  go_loopw [3, 11] (fun s i wr => SumRelR l w s i wr) (fun _ i _ => N - (intOf i).toNat)
  case atStart => exact ⟨0, Nat.zero_le _, rfl, rfl, rfl⟩
  case round =>
    obtain ⟨k, hk, rfl, rfl, rfl⟩ := hrel
    rw [HN.out] at hk
    by_cases hlt : k < N
    · have hkl : k < l.length := by rw [HN.out]; exact hlt
      obtain ⟨b, off, rfl, hat⟩ := HX.out.at (by rintro rfl; simp at hkl)
      obtain ⟨x, a0, hx⟩ := hat k hkl
      obtain ⟨o', c', hxe, _, _⟩ := hx.slice
      have hst := flat_step hkl
      have hle := flat_le l (k + 1)
      rw [HT.out] at hle
      have hsl : (l.take (k + 1)).flatten.length = (l.take k).flatten.length + l[k].length := by rw [hst, List.length_append]
      obtain ⟨q, hq⟩ : ∃ q, (l.take k).flatten.length = q := ⟨_, rfl⟩
      obtain ⟨q1, hq1⟩ : ∃ q1, (l.take (k + 1)).flatten.length = q1 := ⟨_, rfl⟩
      have HQ1 := Lib.hid hq1
      rw [hq1] at hle hsl
      rw [hq] at hsl ⊢
      obtain ⟨m, hm⟩ : ∃ m, l[k].length = m := ⟨_, rfl⟩
      rw [hm] at hsl hxe
      subst hxe
      have p1 : IntKind.i64.wrap ((q : Int) + (m : Int)) = (q1 : Int) := by rw [show (q : Int) + (m : Int) = (q1 : Int) by omega]; exact IntWalk.i64_in _ (by omega)
      have p2 : decide ((q1 : Int) < 0) = false := decide_eq_false (by omega)
      have p3 : decide ((q : Int) + (m : Int) < 0) = false := decide_eq_false (by omega)
      have d1 : decide (k < N) = true := decide_eq_true hlt
      clear hat hx hst hq hq1 hm
      go_wp2_with fail
      go_roundw
      case rel => exact ⟨k + 1, by omega, by go_num, congrArg (Value.int IntKind.i64) (by rw [HQ1.out]; omega), rfl⟩
      case measure => simp only [intOf]; omega
    · have d1 : decide (k < N) = false := decide_eq_false hlt
      have hks : l.take k = l := List.take_of_length_le (by rw [HN.out]; omega)
      rw [hks, HT.out]
      clear hks
      go_wp2_with fail
      refine (grow_anyR T _ _ rfl (by omega)).mono ?_
      rintro e w1 ⟨v1, rfl, hr1, u1⟩
      have HR1 := Lib.hid hr1
      have U1 := Lib.hid u1
      clear hr1 u1 d1 hlt hk
      go_wp2_with fail
      go_loopw [6, 27] (fun v i wr => CatRelR l w T v i wr) (fun _ i _ => N - (intOf i).toNat)
      case atStart => exact ⟨0, Nat.zero_le _, rfl, U1.out, HR1.out⟩
      case round =>
        obtain ⟨j, hj, rfl, hu, hr⟩ := hrel
        rw [HN.out] at hj
        by_cases hlt2 : j < N
        · have hkl : j < l.length := by rw [HN.out]; exact hlt2
          obtain ⟨b, off, rfl, hat⟩ := HX.out.at (by rintro rfl; simp at hkl)
          obtain ⟨x, a0, hx⟩ := hat j hkl
          rw [← hu.cell (World.block_lt_of_cell? w _ a0)] at a0
          obtain ⟨o', c', hxe, _, _⟩ := hx.slice
          have hle := flat_le l (j + 1)
          rw [HT.out, flat_step hkl, List.length_append] at hle
          rw [hxe] at a0 hx
          obtain ⟨v', w', hrun, hr', hu'⟩ := hr.more 45 hu (hx.up hu) hle (fl_one rcC_one _)
          rw [← flat_step hkl] at hr'
          have HR := Lib.hid hr'
          have HU' := Lib.hid hu'
          have d2 : decide (j < N) = true := decide_eq_true hlt2
          clear hr hu hr' hu' hat hx hxe hle
          generalize l[j].length = m at a0 hrun
          go_wp2_with (at_builtin; refine wpList_append_runR _ rfl _ _ #[45, 45] rfl _ _ _ _ rfl rfl hrun ?_)
          go_roundw
          case rel => exact ⟨j + 1, by omega, by go_num, HU'.out, HR.out⟩
          case measure => simp only [intOf]; omega
        · have d2 : decide (j < N) = false := decide_eq_false hlt2
          have hks : l.take j = l := List.take_of_length_le (by rw [HN.out]; omega)
          rw [hks] at hr
          have HR := Lib.hid hr.recs
          have HL := Lib.hid hr.fresh
          have HU := Lib.hid hu
          clear hr hu hks
          go_wp2_with fail
          go_ret
          exact ⟨_, rfl, HR.out, HU.out, HL.out⟩

end Go.Proofs.Ytabhalajelbfoaa
