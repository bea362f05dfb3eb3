/-
  The texts OpV, OpOne, OpRow, one behind the other; each says below what it holds and on what conditions.
-/
import Derived.Test.YtkghinpajogdhaaJTopProof01
import Derived.Test.YtkghinpajogdhaaJTopProof15
import Derived.Deep.Slices
import Derived.Deep.Fields
import Derived.ChangeSame
import Derived.SizedLaws
import Derived.ChangeOld
import Derived.Test.YtkghinpajogdhaaJTopProof09

/-
  A slice that reads as deeds; a deed as a value. Conditions: as each says.
-/
namespace Go.Proofs.Ytkghinpajogdhaa
open Go.RowKit
open Go.Proofs
open WoolVol

instance : Inhabited Opn := ⟨⟨0, [], [], 0, []⟩⟩

/-- a deed as cells -/
def opC (o : Opn) : List Value := [.int .i64 o.kd, .string (bs o.nm), .string (bs o.to), .int .i64 o.pl, .string (bs o.tx)]
theorem opC_len (o : Opn) : (opC o).length = 5 := rfl
theorem opC_one (o : Opn) : ∀ u ∈ opC o, u.oneCell' = true := by
  intro u h; unfold opC at h; simp at h; rcases h with rfl | rfl | rfl | rfl | rfl <;> rfl

/-- a deed as a value -/
def opA (o : Opn) : Value := .agg #[.int .i64 o.kd, .string (bs o.nm), .string (bs o.to), .int .i64 o.pl, .string (bs o.tx)]

/-- a deed that a call can be handed -/
def OpWf (o : Opn) : Prop := (Lit.int .i64 o.kd).wf = true ∧ o.nm.length ≤ 9223372036854775807 ∧ o.to.length ≤ 9223372036854775807 ∧ (Lit.int .i64 o.pl).wf = true ∧ o.tx.length ≤ 9223372036854775807

/-- a slice that reads as deeds -/
def Ops (w : World) (v : Value) (l : List Opn) : Prop := Sl w 5 v l.length (fl opC l) ∧ ∀ o ∈ l, OpWf o

theorem Ops.up {w w' : World} {v : Value} {l : List Opn} (h : Ops w v l) (hu : Up w w') : Ops w' v l := ⟨Sl.up h.1 hu, h.2⟩
theorem Ops.slice {w : World} {v : Value} {l : List Opn} (h : Ops w v l) : ∃ o c, v = .slice o l.length c ∧ l.length ≤ c ∧ c ≤ maxLen := Sl.slice h.1
theorem Ops.nil (w : World) : Ops w (.slice none 0 0) [] := ⟨Sl.nil w 5, by simp⟩

theorem Ops.at {w : World} {o : Option Addr} {n c : Nat} {l : List Opn} (h : Ops w (.slice o n c) l) (hne : l ≠ []) : ∃ b off, o = some ⟨b, off, none⟩ ∧ ∀ k (hk : k < l.length),
    w.cell? ⟨b, off + k * 5, none⟩ = some (.int .i64 l[k].kd) ∧ w.cell? ⟨b, off + k * 5 + 1, none⟩ = some (.string (bs l[k].nm)) ∧ w.cell? ⟨b, off + k * 5 + 2, none⟩ = some (.string (bs l[k].to)) ∧
    w.cell? ⟨b, off + k * 5 + 3, none⟩ = some (.int .i64 l[k].pl) ∧ w.cell? ⟨b, off + k * 5 + 4, none⟩ = some (.string (bs l[k].tx)) := by
  obtain ⟨b, off, h1, h2⟩ := Sl.cells h.1 (by intro e; exact hne (List.eq_nil_of_length_eq_zero e))
  refine ⟨b, off, h1, fun k hk => ?_⟩
  have g := fun j hj => fl_get opC_len l k hk j hj
  exact ⟨h2 (k * 5 + 0) _ (g 0 (by omega)), h2 (k * 5 + 1) _ (g 1 (by omega)), h2 (k * 5 + 2) _ (g 2 (by omega)), h2 (k * 5 + 3) _ (g 3 (by omega)), h2 (k * 5 + 4) _ (g 4 (by omega))⟩

end Go.Proofs.Ytkghinpajogdhaa

/-
  A deed that came in reads as a deed. Conditions: it can be read as data.
-/
namespace Go.Proofs.Ytkghinpajogdhaa
open Go.RowKit
open Go.Proofs
open Go.ChangeShapes Go.WideShapes Go.Deep
open WoolVol

theorem cellsOp : Try.prog.cellsOf 29 = 5 := by kernel_rfl
theorem cellsIntO : Try.prog.cellsOf 3 = 1 := by kernel_rfl
theorem cellsStrO : Try.prog.cellsOf 9 = 1 := by kernel_rfl
theorem bytesOp : Try.prog.bytesOf 29 = 64 := by kernel_rfl

section
variable {H : Type} {enc : TypeId × Value → H} {w : World} {base : Nat} {spare : Nat → Bool} {held : Bool}

set_option maxRecDepth 100000 in
theorem op_cells {n : Nat} {cs : List Value} {y : DataW H × List MemPlace} (h : DataW.trod enc Try.prog w base spare held n 29 cs = some y) : ∃ x : Opn, cs = opC x ∧ OpWf x := by
  obtain ⟨xs, m, _, _, hl, hxl, hf⟩ := DataW.trod_struct Try.underlying29 h
  rw [cellsOp] at hl
  match cs, hl with
  | [c0, c1, c2, c3, c4], _ =>
    match xs, hxl with
    | [x0, x1, x2, x3, x4], _ =>
      have f0 : DataW.trod enc Try.prog w base spare held m 3 [c0] = some x0 := by simpa [cellsIntO, cellsStrO] using hf 0 _ rfl
      have f1 : DataW.trod enc Try.prog w base spare held m 9 [c1] = some x1 := by simpa [cellsIntO, cellsStrO] using hf 1 _ rfl
      have f2 : DataW.trod enc Try.prog w base spare held m 9 [c2] = some x2 := by simpa [cellsIntO, cellsStrO] using hf 2 _ rfl
      have f3 : DataW.trod enc Try.prog w base spare held m 3 [c3] = some x3 := by simpa [cellsIntO, cellsStrO] using hf 3 _ rfl
      have f4 : DataW.trod enc Try.prog w base spare held m 9 [c4] = some x4 := by simpa [cellsIntO, cellsStrO] using hf 4 _ rfl
      obtain ⟨k, hk, _, hw0⟩ := DataW.trod_int Try.underlying3 f0
      obtain ⟨t1, ht1, _, hw1⟩ := DataW.trod_string Try.underlying9 f1
      obtain ⟨t2, ht2, _, hw2⟩ := DataW.trod_string Try.underlying9 f2
      obtain ⟨k3, hk3, _, hw3⟩ := DataW.trod_int Try.underlying3 f3
      obtain ⟨t4, ht4, _, hw4⟩ := DataW.trod_string Try.underlying9 f4
      simp at hk ht1 ht2 hk3 ht4
      unfold maxLen at hw1 hw2 hw4
      refine ⟨⟨k, t1.data.toList, t2.data.toList, k3, t4.data.toList⟩, ?_, hw0, ?_, ?_, hw3, ?_⟩
      · unfold opC; rw [hk, ht1, ht2, hk3, ht4, bs_of, bs_of, bs_of]
      · show t1.data.toList.length ≤ _; rw [ba_length]; omega
      · show t2.data.toList.length ≤ _; rw [ba_length]; omega
      · show t4.data.toList.length ≤ _; rw [ba_length]; omega

set_option maxRecDepth 100000 in
theorem open_op {r : Reach} {b0 : Nat} {v : Value} {d : DataW H} {ps : List MemPlace} (hval : Value.okWide Try.prog w r b0 29 v) (hd : DataW.Trod enc Try.prog w base spare held 29 v d ps) :
    ∃ o : Opn, v = opA o ∧ OpWf o := by
  simp only [Value.okWide, Try.underlying29] at hval
  obtain ⟨cs, rfl, hsz, _⟩ := hval
  obtain ⟨fuel, hf⟩ := hd
  obtain ⟨o, ho, hw⟩ := op_cells hf
  refine ⟨o, ?_, hw⟩
  obtain ⟨l, hcl⟩ : ∃ l, cs = l.toArray := ⟨cs.toList, by simp⟩
  subst hcl
  have e : l = opC o := by simpa [Value.cells] using ho
  subst e
  rfl

end

end Go.Proofs.Ytkghinpajogdhaa

/-
  A slice of deeds that came in reads as deeds. Conditions: it can be read as data.
-/
namespace Go.Proofs.Ytkghinpajogdhaa
open Go.RowKit
open Go.Proofs
open Go.ChangeShapes Go.WideShapes Go.Deep
open WoolVol

section
variable {H : Type} {enc : TypeId × Value → H} {w : World} {base : Nat} {spare : Nat → Bool} {held : Bool}

theorem open_ops {fuel : Nat} {cs : List Value} {x : DataW H × List MemPlace} (h : DataW.trod enc Try.prog w base (fun _ => true) held fuel 22 cs = some x) :
    ∃ (o : Option Addr) (len cap : Nat) (l : List Opn), cs = [.slice o len cap] ∧ Ops w (.slice o len cap) l := by
  obtain ⟨o, len, cap, l, h1, h2, h3, h4⟩ := open_rowT opC OpWf opC_len (by omega) Try.underlying22 cellsOp (fun n cs y hy => op_cells hy) h
  exact ⟨o, len, cap, l, h1, h3, h4⟩

/-- how many places were read -/
theorem ops_data {fuel : Nat} {cs : List Value} {x : DataW H × List MemPlace} (h : DataW.trod enc Try.prog w base (fun _ => true) held fuel 22 cs = some x) :
    ∃ (o : Option Addr) (len cap : Nat), cs = [.slice o len cap] ∧ (cap = 0 ∨ ∃ es sp, x.1 = .slice es sp ∧ es.length + sp.length = cap) := by
  rcases open_slice Try.underlying22 h with ⟨rfl, _⟩ | ⟨a, len, cap, m, n, D, Pl, rfl, _, hl, hm, hmm, hx, hi⟩
  · exact ⟨none, 0, 0, rfl, .inl rfl⟩
  · rw [if_pos rfl] at hmm
    refine ⟨some a, len, cap, rfl, .inr ⟨_, _, congrArg Prod.fst hx, ?_⟩⟩
    rw [List.length_map, List.length_map, List.length_range, List.length_range, hmm]
    omega

end

end Go.Proofs.Ytkghinpajogdhaa
