/-
  The texts OpOne, OpRow, Items, VolV, one behind the other; each says below what it holds and on what conditions.
-/
import Derived.Test.YtnmdfdkagkpcaaaJVolOwn12
import Derived.Deep.Slices
import Derived.Deep.Fields
import Derived.ChangeSame
import Derived.SizedLaws
import Derived.ChangeOld
import Derived.Test.YtnmdfdkagkpcaaaJVolOwn07
import Derived.Test.YtnmdfdkagkpcaaaJVolOwn01
import Derived.Test.YtnmdfdkagkpcaaaJVolOwn08
import Derived.Lib.SliceRun
import Derived.Maps.AppendAt

/-
  A deed that came in reads as a deed. Conditions: it can be read as data.
-/
namespace Go.Proofs.Ytnmdfdkagkpcaaa
open Go.RowKit
open Go.Proofs
open Go.ChangeShapes Go.WideShapes Go.Deep
open WoolVol

theorem cellsOp : Try.prog.cellsOf 44 = 5 := by kernel_rfl
theorem cellsIntO : Try.prog.cellsOf 3 = 1 := by kernel_rfl
theorem cellsStrO : Try.prog.cellsOf 9 = 1 := by kernel_rfl
theorem bytesOp : Try.prog.bytesOf 44 = 64 := by kernel_rfl

section
variable {H : Type} {enc : TypeId × Value → H} {w : World} {base : Nat} {spare : Nat → Bool} {held : Bool}

set_option maxRecDepth 100000 in
theorem op_cells {n : Nat} {cs : List Value} {y : DataW H × List MemPlace} (h : DataW.trod enc Try.prog w base spare held n 44 cs = some y) : ∃ x : Opn, cs = opC x ∧ OpWf x := by
  obtain ⟨xs, m, _, _, hl, hxl, hf⟩ := DataW.trod_struct Try.underlying44 h
  rw [cellsOp] at hl
  match cs, hl with
  | [c0, c1, c2, c3, c4], _ =>
    match xs, hxl with
    | [x0, x1, x2, x3, x4], _ =>
      have f0 : DataW.trod enc Try.prog w base spare held m 3 [c0] = some x0 := by simpa [cellsIntO, cellsStrO] using hf 0 _ rfl
      have f1 : DataW.trod enc Try.prog w base spare held m 9 [c1] = some x1 := by simpa [cellsIntO, cellsStrO] using hf 1 _ rfl
      have f2 : DataW.trod enc Try.prog w base spare held m 9 [c2] = some x2 := by simpa [cellsIntO, cellsStrO] using hf 2 _ rfl
      have f3 : DataW.trod enc Try.prog w base spare held m 3 [c3] = some x3 := by simpa [cellsIntO, cellsStrO] using hf 3 _ rfl
      have f4 : DataW.trod enc Try.prog w base spare held m 9 [c4] = some x4 := by simpa [cellsIntO, cellsStrO] using hf 4 _ rfl
      obtain ⟨k, hk, _, hw0⟩ := DataW.trod_int Try.underlying3 f0
      obtain ⟨t1, ht1, _, hw1⟩ := DataW.trod_string Try.underlying9 f1
      obtain ⟨t2, ht2, _, hw2⟩ := DataW.trod_string Try.underlying9 f2
      obtain ⟨k3, hk3, _, hw3⟩ := DataW.trod_int Try.underlying3 f3
      obtain ⟨t4, ht4, _, hw4⟩ := DataW.trod_string Try.underlying9 f4
      simp at hk ht1 ht2 hk3 ht4
      unfold maxLen at hw1 hw2 hw4
      refine ⟨⟨k, t1.data.toList, t2.data.toList, k3, t4.data.toList⟩, ?_, hw0, ?_, ?_, hw3, ?_⟩
      · unfold opC; rw [hk, ht1, ht2, hk3, ht4, bs_of, bs_of, bs_of]
      · show t1.data.toList.length ≤ _; rw [ba_length]; omega
      · show t2.data.toList.length ≤ _; rw [ba_length]; omega
      · show t4.data.toList.length ≤ _; rw [ba_length]; omega

set_option maxRecDepth 100000 in
theorem open_op {r : Reach} {b0 : Nat} {v : Value} {d : DataW H} {ps : List MemPlace} (hval : Value.okWide Try.prog w r b0 44 v) (hd : DataW.Trod enc Try.prog w base spare held 44 v d ps) :
    ∃ o : Opn, v = opA o ∧ OpWf o := by
  simp only [Value.okWide, Try.underlying44] at hval
  obtain ⟨cs, rfl, hsz, _⟩ := hval
  obtain ⟨fuel, hf⟩ := hd
  obtain ⟨o, ho, hw⟩ := op_cells hf
  refine ⟨o, ?_, hw⟩
  obtain ⟨l, hcl⟩ : ∃ l, cs = l.toArray := ⟨cs.toList, by simp⟩
  subst hcl
  have e : l = opC o := by simpa [Value.cells] using ho
  subst e
  rfl

end

end Go.Proofs.Ytnmdfdkagkpcaaa

/-
  A slice of deeds that came in reads as deeds. Conditions: it can be read as data.
-/
namespace Go.Proofs.Ytnmdfdkagkpcaaa
open Go.RowKit
open Go.Proofs
open Go.ChangeShapes Go.WideShapes Go.Deep
open WoolVol

section
variable {H : Type} {enc : TypeId × Value → H} {w : World} {base : Nat} {spare : Nat → Bool} {held : Bool}

theorem open_ops {fuel : Nat} {cs : List Value} {x : DataW H × List MemPlace} (h : DataW.trod enc Try.prog w base (fun _ => true) held fuel 22 cs = some x) :
    ∃ (o : Option Addr) (len cap : Nat) (l : List Opn), cs = [.slice o len cap] ∧ Ops w (.slice o len cap) l := by
  obtain ⟨o, len, cap, l, h1, h2, h3, h4⟩ := open_rowT opC OpWf opC_len (by omega) Try.underlying22 cellsOp (fun n cs y hy => op_cells hy) h
  exact ⟨o, len, cap, l, h1, h3, h4⟩

/-- how many places were read -/
theorem ops_data {fuel : Nat} {cs : List Value} {x : DataW H × List MemPlace} (h : DataW.trod enc Try.prog w base (fun _ => true) held fuel 22 cs = some x) :
    ∃ (o : Option Addr) (len cap : Nat), cs = [.slice o len cap] ∧ (cap = 0 ∨ ∃ es sp, x.1 = .slice es sp ∧ es.length + sp.length = cap) := by
  rcases open_slice Try.underlying22 h with ⟨rfl, _⟩ | ⟨a, len, cap, m, n, D, Pl, rfl, _, hl, hm, hmm, hx, hi⟩
  · exact ⟨none, 0, 0, rfl, .inl rfl⟩
  · rw [if_pos rfl] at hmm
    refine ⟨some a, len, cap, rfl, .inr ⟨_, _, congrArg Prod.fst hx, ?_⟩⟩
    rw [List.length_map, List.length_map, List.length_range, List.length_range, hmm]
    omega

end

end Go.Proofs.Ytnmdfdkagkpcaaa

/-
  Slices of items of a bag: that read as a list of items (Items), and that the call owns (OItems); their cells. Conditions: as each says.
-/
namespace Go.Proofs.Ytnmdfdkagkpcaaa
open Go.RowKit
open Go.Proofs
open WoolBag

/-- an item's cells -/
def itC (x : Itm) : List Value := [.int .i64 x.s, .int .i64 x.n, .string (bs x.t), .int .i64 x.r]
/-- an item as a value -/
def itV (x : Itm) : Value := .agg #[.int .i64 x.s, .int .i64 x.n, .string (bs x.t), .int .i64 x.r]
/-- an identifier as a value -/
def idV (i : Bool × Int × Int) : Value := .agg #[.bool i.1, .int .i64 i.2.1, .int .i64 i.2.2]

/-- items as cells -/
def itL : List Itm → List Value
  | [] => []
  | x :: r => .int .i64 x.s :: .int .i64 x.n :: .string (bs x.t) :: .int .i64 x.r :: itL r

theorem itL_cons (x : Itm) (r : List Itm) : itL (x :: r) = itC x ++ itL r := rfl

theorem itL_append : ∀ a b : List Itm, itL (a ++ b) = itL a ++ itL b
  | [], _ => rfl
  | x :: r, b => by rw [List.cons_append, itL_cons, itL_cons, itL_append r b, List.append_assoc]

theorem itL_length : ∀ l : List Itm, (itL l).length = l.length * 4
  | [] => rfl
  | x :: r => by rw [itL_cons, List.length_append, itL_length r, List.length_cons]; unfold itC; simp; omega

theorem itL_take : ∀ (l : List Itm) (k : Nat), itL (l.take k) = (itL l).take (k * 4)
  | [], k => by simp [itL]
  | x :: r, 0 => by simp [itL]
  | x :: r, k + 1 => by
    rw [List.take_succ_cons, itL_cons, itL_cons, itL_take r k, List.take_append]
    have h4 : (itC x).length = 4 := rfl
    rw [h4, List.take_of_length_le (l := itC x) (by rw [h4]; omega), show (k + 1) * 4 - 4 = k * 4 by omega]

theorem itL_drop : ∀ (l : List Itm) (k : Nat), itL (l.drop k) = (itL l).drop (k * 4)
  | [], k => by simp [itL]
  | x :: r, 0 => by simp
  | x :: r, k + 1 => by
    rw [List.drop_succ_cons, itL_cons, itL_drop r k, List.drop_append]
    have h4 : (itC x).length = 4 := rfl
    rw [h4, List.drop_of_length_le (l := itC x) (by rw [h4]; omega), show (k + 1) * 4 - 4 = k * 4 by omega, List.nil_append]

theorem itL_get : ∀ (l : List Itm) (k : Nat) (h : k < l.length), (itL l)[k * 4]? = some (.int .i64 l[k].s) ∧ (itL l)[k * 4 + 1]? = some (.int .i64 l[k].n) ∧ (itL l)[k * 4 + 2]? = some (.string (bs l[k].t)) ∧ (itL l)[k * 4 + 3]? = some (.int .i64 l[k].r)
  | [], k, h => by simp at h
  | x :: r, 0, h => ⟨rfl, rfl, rfl, rfl⟩
  | x :: r, k + 1, h => by
    have ih := itL_get r k (by rw [List.length_cons] at h; omega)
    unfold itL
    rw [show (k + 1) * 4 = k * 4 + 1 + 1 + 1 + 1 by omega, show k * 4 + 1 + 1 + 1 + 1 + 1 = (k * 4 + 1) + 1 + 1 + 1 + 1 by omega, show k * 4 + 1 + 1 + 1 + 1 + 2 = (k * 4 + 2) + 1 + 1 + 1 + 1 by omega, show k * 4 + 1 + 1 + 1 + 1 + 3 = (k * 4 + 3) + 1 + 1 + 1 + 1 by omega]
    simp only [List.getElem?_cons_succ, List.getElem_cons_succ]
    exact ih

theorem itL_one : ∀ (l : List Itm), ∀ u ∈ itL l, u.oneCell' = true
  | [], u, h => by simp [itL] at h
  | x :: r, u, h => by
    rw [itL_cons, List.mem_append] at h
    rcases h with h | h
    · unfold itC at h
      simp at h
      rcases h with rfl | rfl | rfl | rfl <;> rfl
    · exact itL_one r u h

/-- the cell of one field, set -/
theorem itL_set : ∀ (l : List Itm) (k : Nat) (_ : k < l.length) (y : Itm), itL (l.set k y) = (itL l).take (k * 4) ++ (itC y ++ (itL l).drop (k * 4 + 4))
  | [], k, h, _ => by simp at h
  | x :: r, 0, h, y => by simp [itL_cons, itL, itC]
  | x :: r, k + 1, h, y => by
    rw [List.set_cons_succ, itL_cons, itL_set r k (by simpa using h) y, itL_cons, List.take_append, List.drop_append]
    have h4 : (itC x).length = 4 := rfl
    rw [h4, List.take_of_length_le (l := itC x) (by rw [h4]; omega), List.drop_of_length_le (l := itC x) (by rw [h4]; omega), show (k + 1) * 4 - 4 = k * 4 by omega, show (k + 1) * 4 + 4 - 4 = k * 4 + 4 by omega, List.nil_append, List.append_assoc]

theorem itInfo : (Try.prog.info? 60).map (fun i => (i.zero, i.size, i.bytes)) = some (some (.agg #[.int .i64 0, .int .i64 0, .string ⟨#[]⟩, .int .i64 0]), 4, 40) := by kernel_rfl

/-- a slice that reads as items -/
def Items (w : World) (v : Value) (l : List Itm) : Prop :=
  ∃ o c, v = .slice o l.length c ∧ l.length ≤ c ∧ c ≤ maxLen ∧ (l = [] ∨ ∃ b off, o = some ⟨b, off, none⟩ ∧ ∀ k (h : k < l.length),
    w.cell? ⟨b, off + k * 4, none⟩ = some (.int .i64 l[k].s) ∧ w.cell? ⟨b, off + k * 4 + 1, none⟩ = some (.int .i64 l[k].n) ∧ w.cell? ⟨b, off + k * 4 + 2, none⟩ = some (.string (bs l[k].t)) ∧ w.cell? ⟨b, off + k * 4 + 3, none⟩ = some (.int .i64 l[k].r))

theorem Items.below {w w' : World} {n : Nat} {v : Value} {l : List Itm} (h : Items w v l) (hu : Below n w w') (hn : ∀ b, v.ownBlock = some b → b < n) : Items w' v l := by
  obtain ⟨o, c, rfl, h2, h3, h4⟩ := h
  refine ⟨o, c, rfl, h2, h3, ?_⟩
  rcases h4 with h4 | ⟨b, off, rfl, h6⟩
  · exact .inl h4
  · refine .inr ⟨b, off, rfl, fun k hk => ?_⟩
    have hb : b < n := hn b rfl
    obtain ⟨a1, a2, a3, a4⟩ := h6 k hk
    exact ⟨(hu.cell (p := ⟨b, _, none⟩) hb).trans a1, (hu.cell (p := ⟨b, _, none⟩) hb).trans a2, (hu.cell (p := ⟨b, _, none⟩) hb).trans a3, (hu.cell (p := ⟨b, _, none⟩) hb).trans a4⟩

theorem Items.up {w w' : World} {v : Value} {l : List Itm} (h : Items w v l) (hu : Up w w') : Items w' v l := by
  obtain ⟨o, c, h1, h2, h3, h4⟩ := h
  refine ⟨o, c, h1, h2, h3, ?_⟩
  rcases h4 with h4 | ⟨b, off, h5, h6⟩
  · exact .inl h4
  · refine .inr ⟨b, off, h5, fun k hk => ?_⟩
    obtain ⟨a1, a2, a3, a4⟩ := h6 k hk
    exact ⟨(hu.cell (World.block_lt_of_cell? w _ a1)).trans a1, (hu.cell (World.block_lt_of_cell? w _ a2)).trans a2, (hu.cell (World.block_lt_of_cell? w _ a3)).trans a3, (hu.cell (World.block_lt_of_cell? w _ a4)).trans a4⟩

theorem Items.slice {w : World} {v : Value} {l : List Itm} (h : Items w v l) : ∃ o c, v = .slice o l.length c ∧ c ≤ maxLen := by
  obtain ⟨o, c, h1, _, h3, _⟩ := h
  exact ⟨o, c, h1, h3⟩

theorem Items.nil (w : World) : Items w (.slice none 0 0) [] := ⟨none, 0, rfl, Nat.le_refl _, by unfold maxLen; omega, .inl rfl⟩

/-- the items ahead of a place -/
theorem Items.front {w : World} {o : Option Addr} {n c : Nat} {l : List Itm} (h : Items w (.slice o n c) l) (k : Nat) (hk : k ≤ l.length) : Items w (.slice o k c) (l.take k) := by
  obtain ⟨o', c', h1, h2, h3, h4⟩ := h
  simp only [Value.slice.injEq] at h1
  obtain ⟨rfl, rfl, rfl⟩ := h1
  have hlen : (l.take k).length = k := by rw [List.length_take]; omega
  refine ⟨o, c, by rw [hlen], by omega, h3, ?_⟩
  rcases h4 with h4 | ⟨b, off, h5, h6⟩
  · left; rw [h4]; simp
  · right
    refine ⟨b, off, h5, fun j hj => ?_⟩
    rw [hlen] at hj
    rw [List.getElem_take]
    exact h6 j (by omega)

/-- a slice of items of the call's own -/
def OItems (w : World) (base : Nat) (v : Value) (l : List Itm) : Prop := w.ownsRow base 60 4 v l.length (itL l)

theorem OItems.items {w : World} {base : Nat} {v : Value} {l : List Itm} (h : OItems w base v l) : Items w v l := by
  have h' := h
  rcases h.2 with ⟨rfl, h0⟩ | ⟨g, cap, cur, rfl, _, _, h3, h4, _⟩
  · have : l = [] := List.eq_nil_of_length_eq_zero h0
    subst this
    exact Items.nil w
  · refine ⟨_, cap, rfl, h3, h4, .inr ⟨g, 0, rfl, fun k hk => ?_⟩⟩
    obtain ⟨a1, a2, a3, a4⟩ := itL_get l k hk
    have hc : ∀ j, j < l.length * 4 → w.cell? ⟨g, j, none⟩ = (itL l)[j]? := fun j hj => World.ownsRow.cellAt h' j (by omega)
    refine ⟨?_, ?_, ?_, ?_⟩
    · rw [Nat.zero_add]; exact (hc _ (by omega)).trans a1
    · rw [Nat.zero_add]; exact (hc _ (by omega)).trans a2
    · rw [Nat.zero_add]; exact (hc _ (by omega)).trans a3
    · rw [Nat.zero_add]; exact (hc _ (by omega)).trans a4

theorem OItems.below {w w' : World} {base n : Nat} {v : Value} {l : List Itm} (h : OItems w base v l) (hu : Below n w w') (hn : ∀ b, v.ownBlock = some b → b < n) : OItems w' base v l := by
  refine ⟨h.1, ?_⟩
  rcases h.2 with h | ⟨g, cap, cur, rfl, h2, h3, h4⟩
  · exact .inl h
  · refine .inr ⟨g, cap, cur, rfl, h2, ?_, h4⟩
    rw [← h3]; exact hu.block g (hn g rfl)

theorem OItems.up {w w' : World} {base : Nat} {v : Value} {l : List Itm} (h : OItems w base v l) (hu : Up w w') : OItems w' base v l :=
  h.below hu (fun b hb => (World.ownsRow.lt h b hb).2)

theorem OItems.base {w : World} {base base' : Nat} {v : Value} {l : List Itm} (h : OItems w base v l) (hb : base' ≤ base) : OItems w base' v l := by
  refine ⟨h.1, ?_⟩
  rcases h.2 with h | ⟨g, cap, cur, h1, h2, h3⟩
  · exact .inl h
  · exact .inr ⟨g, cap, cur, h1, by omega, h3⟩

theorem OItems.nil (w : World) (base : Nat) : OItems w base (.slice none 0 0) [] := World.ownsRow_nil w base _ _

end Go.Proofs.Ytnmdfdkagkpcaaa

/-
  Slices of identifiers (Ids) and of volumes (Vols), states (Stat): what they read as; the same where the call owns them. Conditions: as each says.
-/
namespace Go.Proofs.Ytnmdfdkagkpcaaa
open Go.RowKit
open Go.Proofs
open WoolBag
open WoolVol

/-- an identifier's cells -/
def idC (i : Idn) : List Value := [.bool i.1, .int .i64 i.2.1, .int .i64 i.2.2]
theorem idC_len (i : Idn) : (idC i).length = 3 := rfl
theorem idC_one (i : Idn) : ∀ u ∈ idC i, u.oneCell' = true := by
  intro u h; unfold idC at h; simp at h; rcases h with rfl | rfl | rfl <;> rfl

/-- a volume as it lies in memory: its name, the slice of its blocks -/
structure VC where
  nm : List UInt8
  sl : Value

instance : Inhabited VC := ⟨⟨[], .slice none 0 0⟩⟩

/-- a volume's cells -/
def vcC (x : VC) : List Value := [.string (bs x.nm), x.sl]
theorem vcC_len (x : VC) : (vcC x).length = 2 := rfl

/-- the identifier's numbers fit -/
def WfI (i : Idn) : Prop := (Lit.int .i64 i.2.1).wf = true ∧ (Lit.int .i64 i.2.2).wf = true
def WfS (st : Sta) : Prop := ∀ v ∈ st.v, (∀ i ∈ v.bl, WfI i) ∧ v.nm.length ≤ 9223372036854775807

/-- a slice that reads as identifiers -/
def Ids (w : World) (v : Value) (l : List Idn) : Prop := Sl w 3 v l.length (fl idC l)

theorem Ids.up {w w' : World} {v : Value} {l : List Idn} (h : Ids w v l) (hu : Up w w') : Ids w' v l := Sl.up h hu
theorem Ids.slice {w : World} {v : Value} {l : List Idn} (h : Ids w v l) : ∃ o c, v = .slice o l.length c ∧ l.length ≤ c ∧ c ≤ maxLen := Sl.slice h
theorem Ids.nil (w : World) : Ids w (.slice none 0 0) [] := Sl.nil w 3
theorem Ids.one {w : World} {v : Value} {l : List Idn} (h : Ids w v l) : v.oneCell' = true := by
  obtain ⟨o, c, rfl, _, _⟩ := h.slice
  rfl

theorem Ids.at {w : World} {o : Option Addr} {n c : Nat} {l : List Idn} (h : Ids w (.slice o n c) l) (hne : l ≠ []) : ∃ b off, o = some ⟨b, off, none⟩ ∧ ∀ k (hk : k < l.length),
    w.cell? ⟨b, off + k * 3, none⟩ = some (.bool l[k].1) ∧ w.cell? ⟨b, off + k * 3 + 1, none⟩ = some (.int .i64 l[k].2.1) ∧ w.cell? ⟨b, off + k * 3 + 2, none⟩ = some (.int .i64 l[k].2.2) := by
  obtain ⟨b, off, h1, h2⟩ := Sl.cells h (by intro e; exact hne (List.eq_nil_of_length_eq_zero e))
  refine ⟨b, off, h1, fun k hk => ?_⟩
  have g := fun j hj => fl_get idC_len l k hk j hj
  exact ⟨h2 _ _ (g 0 (by omega)), by have := h2 _ _ (g 1 (by omega)); rwa [← Nat.add_assoc] at this, by have := h2 _ _ (g 2 (by omega)); rwa [← Nat.add_assoc] at this⟩

/-- a slice that reads as volumes, as they lie in memory -/
def VCs (w : World) (v : Value) (C : List VC) : Prop := Sl w 2 v C.length (fl vcC C)

theorem VCs.at {w : World} {o : Option Addr} {n c : Nat} {C : List VC} (h : VCs w (.slice o n c) C) (hne : C ≠ []) : ∃ b off, o = some ⟨b, off, none⟩ ∧ ∀ k (hk : k < C.length),
    w.cell? ⟨b, off + k * 2, none⟩ = some (.string (bs C[k].nm)) ∧ w.cell? ⟨b, off + k * 2 + 1, none⟩ = some C[k].sl := by
  obtain ⟨b, off, h1, h2⟩ := Sl.cells h (by intro e; exact hne (List.eq_nil_of_length_eq_zero e))
  refine ⟨b, off, h1, fun k hk => ?_⟩
  have g := fun j hj => fl_get vcC_len C k hk j hj
  exact ⟨h2 _ _ (g 0 (by omega)), by have := h2 _ _ (g 1 (by omega)); rwa [← Nat.add_assoc] at this⟩

/-- volumes as they lie in memory, and what they read as -/
structure Rd (w : World) (C : List VC) (l : List Vo) : Prop where
  len : C.length = l.length
  nm : ∀ k (h : k < l.length), (C[k]'(by omega)).nm = l[k].nm
  bl : ∀ k (h : k < l.length), Ids w (C[k]'(by omega)).sl l[k].bl

theorem Rd.up {w w' : World} {C : List VC} {l : List Vo} (h : Rd w C l) (hu : Up w w') : Rd w' C l := ⟨h.len, h.nm, fun k hk => (h.bl k hk).up hu⟩

theorem Rd.one {w : World} {C : List VC} {l : List Vo} (h : Rd w C l) : ∀ u ∈ fl vcC C, u.oneCell' = true := by
  intro u hu
  have : ∃ x ∈ C, u ∈ vcC x := by
    clear h
    induction C with
    | nil => simp [fl] at hu
    | cons a r ih =>
      change u ∈ vcC a ++ fl vcC r at hu
      rw [List.mem_append] at hu
      rcases hu with hu | hu
      · exact ⟨a, by simp, hu⟩
      · obtain ⟨x, hx, hx2⟩ := ih hu; exact ⟨x, by simp [hx], hx2⟩
  obtain ⟨x, hx, hx2⟩ := this
  unfold vcC at hx2
  simp at hx2
  rcases hx2 with rfl | rfl
  · rfl
  · obtain ⟨k, hk, rfl⟩ := List.getElem_of_mem hx
    exact (h.bl k (by have := h.len; omega)).one

/-- a slice that reads as volumes -/
def Vols (w : World) (v : Value) (l : List Vo) : Prop := ∃ C, VCs w v C ∧ Rd w C l

theorem Vols.up {w w' : World} {v : Value} {l : List Vo} (h : Vols w v l) (hu : Up w w') : Vols w' v l := by
  obtain ⟨C, h1, h2⟩ := h
  exact ⟨C, Sl.up h1 hu, h2.up hu⟩
theorem Vols.slice {w : World} {v : Value} {l : List Vo} (h : Vols w v l) : ∃ o c, v = .slice o l.length c ∧ l.length ≤ c ∧ c ≤ maxLen := by
  obtain ⟨C, h1, h2⟩ := h
  have := Sl.slice h1
  rwa [h2.len] at this
theorem Vols.nil (w : World) : Vols w (.slice none 0 0) [] := ⟨[], Sl.nil w 2, ⟨rfl, fun k h => absurd h (by simp), fun k h => absurd h (by simp)⟩⟩

theorem Vols.at {w : World} {o : Option Addr} {n c : Nat} {l : List Vo} (h : Vols w (.slice o n c) l) (hne : l ≠ []) : ∃ b off, o = some ⟨b, off, none⟩ ∧ ∀ k (hk : k < l.length),
    w.cell? ⟨b, off + k * 2, none⟩ = some (.string (bs l[k].nm)) ∧ ∃ u, w.cell? ⟨b, off + k * 2 + 1, none⟩ = some u ∧ Ids w u l[k].bl := by
  obtain ⟨C, h1, h2⟩ := h
  have hl := h2.len
  obtain ⟨b, off, e, h3⟩ := VCs.at h1 (by intro e; subst e; exact hne (List.eq_nil_of_length_eq_zero (by simpa using hl.symm)))
  refine ⟨b, off, e, fun k hk => ?_⟩
  obtain ⟨a1, a2⟩ := h3 k (by omega)
  exact ⟨by rw [← h2.nm k hk]; exact a1, _, a2, h2.bl k hk⟩

/-- a state -/
def Stat (w : World) (v : Value) (st : Sta) : Prop := ∃ vb vv, v = .agg #[vb, vv] ∧ Items w vb st.b ∧ Vols w vv st.v

theorem Stat.up {w w' : World} {v : Value} {st : Sta} (h : Stat w v st) (hu : Up w w') : Stat w' v st := by
  obtain ⟨vb, vv, h1, h2, h3⟩ := h
  exact ⟨vb, vv, h1, h2.up hu, h3.up hu⟩

def zeroV : Value := .agg #[.slice none 0 0, .slice none 0 0]
theorem Stat.zero (w : World) : Stat w zeroV zeroS := ⟨_, _, rfl, Items.nil w, Vols.nil w⟩

end Go.Proofs.Ytnmdfdkagkpcaaa
