/-
  What slices.Grow (of nil) and slices.Concat (of two) return at rows of deeds: a new row of the two, one behind the other. Conditions: both rows can be read.
-/
import Derived.Test.YtkkecgamaahniaaGreatJB46
import Derived.Test.YtkkecgamaahniaaGreatJB22
import Derived.Lib.AppendZerosOnto
import Derived.Lib.SliceRun
namespace Go.Proofs.YtkkecgamaahniaaGreat
open Go.RowKit
open Go.Proofs
open WoolBag
open WoolVol

def OCs (w : World) (v : Value) (l : List Opn) : Prop := Sl w 5 v l.length (fl opC l)

theorem OCs.news {w : World} {o : Option Addr} {n c : Nat} {l : List Opn} (h : OCs w (.slice o n c) l) (h0 : 0 < l.length) : ∃ ad : Addr, o = some ad ∧ ∀ j u, (fl opC l)[j]? = some u → w.cell? (ad.add j) = some u := by
  obtain ⟨b, off, h1, h2⟩ := Sl.cells h (by omega)
  exact ⟨⟨b, off, none⟩, h1, fun j u hj => by rw [add_off]; exact h2 j u hj⟩

/-- an append whose run is known -/
theorem wpList_append_runP {P : Program} (w : World) {ops : Array Oper} {rest : List Oper} {o : Oper} {a : Act} {Q : Exit → Act → World → Prop} (hgd : o.guard = none) (s x : Operand) (ts : Array TypeId)
    (ho : o.op = .call { callee := .builtin .append, args := #[s, x], argTypes := ts }) (v1 v2 v' : Value) (w' : World) (hs : a.eval s = v1) (hx : a.eval x = v2)
    (hrun : (Builtin.append_ ts o.type #[v1, v2]).run P w = .ok v' w') (h : wpList P ops Q rest (a.put o.dst v') w') : wpList P ops Q (o :: rest) a w := by
  refine wpList_plain hgd fun K hK => ?_
  unfold Oper.wp execOp
  simp only [ho, resolve, invoke, builtin, Sem.run_bind, Sem.run_pure, Result.andThen_ok, List.map_toArray, List.map_cons, List.map_nil, hs, hx, hrun]
  exact hK _ _ h

theorem grown_upP {w wr w' : World} {g k G n : Nat} {xs : List Value} {e : TypeId} {size : Nat} (hu : Up w wr) (hown : wr.ownsRow w.heap.size e size (.slice (some ⟨g, 0, none⟩) k G) n xs) (hg : wr.grownBy w' (some g)) : Up w w' :=
  Below.grown hu hg hu.size (fun q hq => (World.ownsRow.lt hown q hq).1)

def GrowPostP (n : Nat) (w : World) (e : Ending) (w' : World) : Prop :=
  ∃ G, e = .returned (.slice (some ⟨w.heap.size, 0, none⟩) 0 G) ∧ n ≤ G ∧ w'.ownsRow w.heap.size 27 5 (.slice (some ⟨w.heap.size, 0, none⟩) 0 G) 0 [] ∧ Up w w'

theorem zero_sizeP (n : Nat) : (Builtin.zeroCells (Value.agg #[.int .i64 0, .string ⟨#[]⟩, .string ⟨#[]⟩, .int .i64 0, .string ⟨#[]⟩]).cells n).size = n * 5 := by
  unfold Builtin.zeroCells
  rw [Array.size_map, Array.size_range]
  rfl

set_option maxRecDepth 100000 in
set_option maxHeartbeats 400000 in
theorem grow_nilP (n : Nat) (w : World) (h0 : 0 < n) (h : n * 64 ≤ 281474976710656) :
    Calls Tryz.prog 37 #[.slice none 0 0, .int .i64 (n : Int)] w (GrowPostP n w) := by
  obtain ⟨i0, hi, hz0, hz1, hz2⟩ := info_parts opInfoG
  have hold : (Builtin.firstCells i0.size 0 (.slice none 0 0)).run Tryz.prog w.drew = .ok ([] : List Value).toArray w.drew := by simp [Builtin.firstCells]
  have hnx : Builtin.nextslicecap (0 + n) 0 = n := by unfold Builtin.nextslicecap; rw [if_pos (by omega)]; omega
  have hrun := fun ty => Lib.run_append_grow_zeros (P := Tryz.prog) w 22 3 ty 27 i0 _ .i64 .i64 Tryz.underlying22 Tryz.underlying3 hi hz0 none 0 0 [] hold n h0 (by rw [hz1]; omega) (by omega) (by omega) (by rw [hz2]; exact h) (by rw [hz2, hnx]; exact h)
  have hG1 := grownCap_ge w (0 + n) 0 27
  have hG2 := grownCap_le_maxLen w (0 + n) 0 27 (by unfold maxLen; omega)
  obtain ⟨G, hG⟩ : ∃ G, grownCap w (0 + n) 0 27 = G := ⟨_, rfl⟩
  rw [hG] at hG1 hG2
  simp only [hG] at hrun
  obtain ⟨cs, hcs⟩ : ∃ cs, (([] : List Value).toArray ++ Builtin.zeroCells (Value.agg #[.int .i64 0, .string ⟨#[]⟩, .string ⟨#[]⟩, .int .i64 0, .string ⟨#[]⟩]).cells n ++ Builtin.zeroCells (Value.agg #[.int .i64 0, .string ⟨#[]⟩, .string ⟨#[]⟩, .int .i64 0, .string ⟨#[]⟩]).cells (G - (0 + n))) = cs := ⟨_, rfl⟩
  have hsz : cs.size = G * 5 := by rw [← hcs, Array.size_append, Array.size_append, zero_sizeP, zero_sizeP]; simp; omega
  simp only [hcs] at hrun
  have HSZ := Lib.hid hsz
  unfold maxLen at hG2
  clear hcs hsz hG hold hnx hi hz0 hz1 hz2
  have d1 : decide ((n : Int) < 0) = false := by rw [decide_eq_false_iff_not]; omega
  have d2 : decide (0 < n) = true := decide_eq_true h0
  rw [Nat.zero_add] at hrun
  go_enter Tryz.func37, Tryz.ntmps37
  go_wp2_with (at_builtin; refine wpList_append_runP _ rfl _ _ #[22, 3] rfl _ _ _ _ rfl rfl (hrun _) ?_)
  go_ret
  refine ⟨G, rfl, by omega, ⟨rfl, .inr ⟨w.heap.size, G, cs, rfl, Nat.le_refl _, heap_alloc_new _ _, Nat.zero_le _, by unfold maxLen; omega, HSZ.out, rfl⟩⟩, (Up.drew _).trans (Up.alloc _ _)⟩

set_option maxRecDepth 100000 in
theorem grow_noneP (w : World) :
    Calls Tryz.prog 37 #[.slice none 0 0, .int .i64 0] w fun e w' => e = .returned (.slice none 0 0) ∧ w = w' := by
  go_enter Tryz.func37, Tryz.ntmps37
  go_wp2_with fail
  go_ret
  exact ⟨rfl, rfl⟩

/-- an append into a row that has room -/
theorem run_catP {w : World} {base g k G n c : Nat} {o : Option Addr} {xs l : List Opn} (ty : TypeId) (hown : w.ownsRow base 27 5 (.slice (some ⟨g, 0, none⟩) k G) k (fl opC xs)) (hs : OCs w (.slice o n c) l) (hroom : k + l.length ≤ G) (h1l : ∀ u ∈ fl opC l, u.oneCell' = true) :
    ∃ w', (Builtin.append_ #[22, 22] ty #[.slice (some ⟨g, 0, none⟩) k G, .slice o n c]).run Tryz.prog w = .ok (.slice (some ⟨g, 0, none⟩) (k + l.length) G) w' ∧
      w'.ownsRow base 27 5 (.slice (some ⟨g, 0, none⟩) (k + l.length) G) (k + l.length) (fl opC (xs ++ l)) ∧ w.grownBy w' (some g) := by
  obtain ⟨i0, hi, hz0, hz1, hz2⟩ := info_parts opInfoG
  have hn : n = l.length := by
    obtain ⟨o', c', hv, _⟩ := Sl.slice hs
    simp only [Value.slice.injEq] at hv
    exact hv.2.1
  subst hn
  rcases Nat.eq_zero_or_pos l.length with h0 | h0
  · have hl : l = [] := List.eq_nil_of_length_eq_zero h0
    subst hl
    refine ⟨w, ?_, by rw [List.append_nil]; exact hown, World.grownBy.refl _ _⟩
    have hkG : k ≤ G := hroom
    cases o with
    | none => simp [Builtin.append_, run_underlying Tryz.underlying22, sizeOf, typeInfo, hi, Builtin.lenOf, Builtin.firstCells, storeCells, hkG]
    | some a => simp [Builtin.append_, run_underlying Tryz.underlying22, sizeOf, typeInfo, hi, Builtin.lenOf, Builtin.firstCells, storeCells, loadCells, loadCellsFrom, hkG]
  · obtain ⟨ad, rfl, hnews⟩ := OCs.news hs h0
    obtain ⟨w', hrun, r1, r2⟩ := run_append_fits (P := Tryz.prog) w base 22 ty 27 i0 5 Tryz.underlying22 hi hz1 g k G (fl opC xs) hown ad l.length c (fl opC l) (fl_length opC_len l) hnews h1l hroom
    exact ⟨w', hrun, by rw [fl_append]; exact r1, r2⟩

/-- an append of nothing to nil -/
theorem run_cat_noneP {w : World} {n c : Nat} {o : Option Addr} {l : List Opn} (ty : TypeId) (hs : OCs w (.slice o n c) l) (h0 : l.length = 0) :
    (Builtin.append_ #[22, 22] ty #[.slice none 0 0, .slice o n c]).run Tryz.prog w = .ok (.slice none 0 0) w := by
  obtain ⟨i0, hi, hz0, hz1, hz2⟩ := info_parts opInfoG
  have hn : n = 0 := by
    obtain ⟨o', c', hv, _⟩ := Sl.slice hs
    simp only [Value.slice.injEq] at hv
    rw [hv.2.1, h0]
  subst hn
  cases o with
  | none => simp [Builtin.append_, run_underlying Tryz.underlying22, sizeOf, typeInfo, hi, Builtin.lenOf, Builtin.firstCells]
  | some a => simp [Builtin.append_, run_underlying Tryz.underlying22, sizeOf, typeInfo, hi, Builtin.lenOf, Builtin.firstCells, loadCells, loadCellsFrom]

def SumRelP (n m : Nat) (s i : Value) : Prop := (s = .int .i64 0 ∧ i = .int .i64 0) ∨ (s = .int .i64 (n : Int) ∧ i = .int .i64 1) ∨ (s = .int .i64 ((n : Int) + (m : Int)) ∧ i = .int .i64 2)

/-- what has been put together -/
def CatRowP (w : World) (base N : Nat) (v : Value) (xs : List Opn) : Prop :=
  (N = 0 ∧ xs = [] ∧ v = .slice none 0 0) ∨ ∃ g G, v = .slice (some ⟨g, 0, none⟩) xs.length G ∧ N ≤ G ∧ w.ownsRow base 27 5 v xs.length (fl opC xs)

theorem CatRowP.ocs {w : World} {base N : Nat} {v : Value} {xs : List Opn} (h : CatRowP w base N v xs) : OCs w v xs := by
  rcases h with ⟨_, rfl, rfl⟩ | ⟨g, G, rfl, _, h⟩
  · exact Sl.nil w 5
  · exact Sl.of_own h

def CatRelP (l m : List Opn) (w : World) (v i : Value) (wr : World) : Prop :=
  Up w wr ∧ ((i = .int .i64 0 ∧ CatRowP wr w.heap.size (l.length + m.length) v []) ∨ (i = .int .i64 1 ∧ CatRowP wr w.heap.size (l.length + m.length) v l) ∨ (i = .int .i64 2 ∧ CatRowP wr w.heap.size (l.length + m.length) v (l ++ m)))

def CatPostP (l m : List Opn) (w : World) (e : Ending) (w' : World) : Prop := ∃ v, e = .returned v ∧ OCs w' v (l ++ m) ∧ Up w w'

/-- one more row behind what has been put together -/
theorem CatRowP.more {w wr : World} {N : Nat} {v : Value} {xs l : List Opn} {o : Option Addr} {n c : Nat} (ty : TypeId) (h : CatRowP wr w.heap.size N v xs) (hu : Up w wr) (hs : OCs wr (.slice o n c) l) (hN : xs.length + l.length ≤ N) (h1l : ∀ u ∈ fl opC l, u.oneCell' = true) :
    ∃ v' w', (Builtin.append_ #[22, 22] ty #[v, .slice o n c]).run Tryz.prog wr = .ok v' w' ∧ CatRowP w' w.heap.size N v' (xs ++ l) ∧ Up w w' := by
  rcases h with ⟨h0, rfl, rfl⟩ | ⟨g, G, rfl, hG, hown⟩
  · have hl : l.length = 0 := by omega
    refine ⟨_, _, run_cat_noneP ty hs hl, ?_, hu⟩
    rw [List.eq_nil_of_length_eq_zero hl]
    exact .inl ⟨h0, rfl, rfl⟩
  · obtain ⟨w', hrun, r1, r2⟩ := run_catP ty hown hs (by omega) h1l
    refine ⟨_, w', hrun, .inr ⟨g, G, by rw [List.length_append], hG, by rw [List.length_append]; exact r1⟩, ?_⟩
    exact grown_upP hu hown r2


def GrewPostP (n : Nat) (w : World) (e : Ending) (w' : World) : Prop := ∃ v, e = .returned v ∧ CatRowP w' w.heap.size n v [] ∧ Up w w'

theorem grow_anyP (n : Nat) (i : Int) (w : World) (hi : i = (n : Int)) (h : n * 64 ≤ 281474976710656) :
    Calls Tryz.prog 37 #[.slice none 0 0, .int .i64 i] w (GrewPostP n w) := by
  subst hi
  rcases Nat.eq_zero_or_pos n with h0 | h0
  · subst h0
    refine (grow_noneP w).mono ?_
    rintro e w' ⟨rfl, rfl⟩
    exact ⟨_, rfl, .inl ⟨rfl, rfl, rfl⟩, Up.refl _⟩
  · refine (grow_nilP n w h0 h).mono ?_
    rintro e w' ⟨G, rfl, hG, hown, hu⟩
    exact ⟨_, rfl, .inr ⟨_, G, rfl, hG, hown⟩, hu⟩

theorem CatRowP.shape {w : World} {base N : Nat} {v : Value} {xs : List Opn} (h : CatRowP w base N v xs) : ∃ o c, v = .slice o xs.length c := by
  rcases h with ⟨_, rfl, rfl⟩ | ⟨g, G, rfl, _⟩
  · exact ⟨_, _, rfl⟩
  · exact ⟨_, _, rfl⟩

set_option maxRecDepth 100000 in
set_option maxHeartbeats 1000000 in
theorem concat_anyP (B : Nat) (o1 o2 : Option Addr) (n1 c1 n2 c2 : Nat) (l m : List Opn) (w : World) (h1 : OCs w (.slice o1 n1 c1) l) (h2 : OCs w (.slice o2 n2 c2) m)
    (e1 : w.cell? ⟨B, 0, none⟩ = some (.slice o1 n1 c1)) (e2 : w.cell? ⟨B, 1, none⟩ = some (.slice o2 n2 c2)) (hb : (l.length + m.length) * 64 ≤ 281474976710656) (o1l : ∀ u ∈ fl opC l, u.oneCell' = true) (o2l : ∀ u ∈ fl opC m, u.oneCell' = true) :
    Calls Tryz.prog 16 #[.slice (some ⟨B, 0, none⟩) 2 2] w (CatPostP l m w) := by
  have hn1 : n1 = l.length := by
    obtain ⟨_, _, hv, _⟩ := Sl.slice h1
    simp only [Value.slice.injEq] at hv
    exact hv.2.1
  have hn2 : n2 = m.length := by
    obtain ⟨_, _, hv, _⟩ := Sl.slice h2
    simp only [Value.slice.injEq] at hv
    exact hv.2.1
  subst hn1 hn2
  have H1 := Lib.hid h1
  have O1 := Lib.hid o1l
  have O2 := Lib.hid o2l
  have H2 := Lib.hid h2
  have E1 := Lib.hid e1
  have E2 := Lib.hid e2
  obtain ⟨a, ha⟩ : ∃ a, l.length = a := ⟨_, rfl⟩
  obtain ⟨b, hbb⟩ : ∃ b, m.length = b := ⟨_, rfl⟩
  have HA := Lib.hid ha
  have HB := Lib.hid hbb
  rw [ha] at e1 hb
  rw [hbb] at e2 hb
  rw [ha] at H1 E1
  rw [hbb] at H2 E2
  clear h1 h2 ha hbb o1l o2l
  go_enter Tryz.func16, Tryz.ntmps16
  go_wp2_with fail
  go_loop [3, 11] (fun s i => SumRelP a b s i) (fun _ i => 2 - (intOf i).toNat)
  case atStart => exact .inl ⟨rfl, rfl⟩
  case round =>
    rcases hrel with ⟨rfl, rfl⟩ | ⟨rfl, rfl⟩ | ⟨rfl, rfl⟩
    · go_wp2_with fail
      go_round
      case rel => exact .inr (.inl ⟨rfl, rfl⟩)
      case measure => simp only [intOf]; omega
    · go_wp2_with fail
      go_round
      case rel => exact .inr (.inr ⟨rfl, rfl⟩)
      case measure => simp only [intOf]; omega
    · go_wp2_with fail
      clear e1 e2
      refine (grow_anyP (a + b) _ _ (by omega) hb).mono ?_
      rintro e w1 ⟨v1, rfl, hr1, u1⟩
      have HR1 := Lib.hid hr1
      have U1 := Lib.hid u1
      clear hr1 u1
      go_wp2_with fail
      go_loopw [6, 27] (fun v i wr => CatRelP l m w v i wr) (fun _ i _ => 2 - (intOf i).toNat)
      case atStart => exact ⟨U1.out, .inl ⟨rfl, by rw [HA.out, HB.out]; exact HR1.out⟩⟩
      case round =>
        obtain ⟨hu, hrel⟩ := hrel
        have f1 := E1.out
        have f2 := E2.out
        rw [← hu.cell (World.block_lt_of_cell? w _ f1)] at f1
        rw [← hu.cell (World.block_lt_of_cell? w _ f2)] at f2
        have HU := Lib.hid hu
        rcases hrel with ⟨rfl, hr⟩ | ⟨rfl, hr⟩ | ⟨rfl, hr⟩
        · obtain ⟨v', w', hrun, hr', hu'⟩ := hr.more 22 hu (Sl.up H1.out hu) (by rw [List.length_nil]; omega) O1.out
          have HR := Lib.hid hr'
          have HU' := Lib.hid hu'
          clear hr hu hr' hu'
          go_wp2_with (at_builtin; refine wpList_append_runP _ rfl _ _ #[22, 22] rfl _ _ _ _ rfl rfl hrun ?_)
          go_roundw
          case rel => exact ⟨HU'.out, .inr (.inl ⟨rfl, by have := HR.out; rw [List.nil_append] at this; exact this⟩)⟩
          case measure => simp only [intOf]; omega
        · obtain ⟨v', w', hrun, hr', hu'⟩ := hr.more 22 hu (Sl.up H2.out hu) (Nat.le_refl _) O2.out
          have HR := Lib.hid hr'
          have HU' := Lib.hid hu'
          clear hr hu hr' hu'
          go_wp2_with (at_builtin; refine wpList_append_runP _ rfl _ _ #[22, 22] rfl _ _ _ _ rfl rfl hrun ?_)
          go_roundw
          case rel => exact ⟨HU'.out, .inr (.inr ⟨rfl, HR.out⟩)⟩
          case measure => simp only [intOf]; omega
        · have HR := Lib.hid hr.ocs
          clear hr hu
          go_wp2_with fail
          go_ret
          exact ⟨_, rfl, HR.out, HU.out⟩

end Go.Proofs.YtkkecgamaahniaaGreat
