/-
  A deed that came in reads as a deed. Conditions: it can be read as data.
-/
import Derived.Test.YtbeigaanlhaolaaDoorOpV
import Derived.Deep.Slices
import Derived.Deep.Fields
import Derived.ChangeSame
import Derived.SizedLaws
import Derived.ChangeOld
namespace Go.Proofs.YtbeigaanlhaolaaDoor
open Go.RowKit
open Go.Proofs
open Go.ChangeShapes Go.WideShapes Go.Deep
open WoolVol

theorem cellsOp : Tryd.prog.cellsOf 23 = 5 := by kernel_rfl
theorem cellsIntO : Tryd.prog.cellsOf 3 = 1 := by kernel_rfl
theorem cellsStrO : Tryd.prog.cellsOf 9 = 1 := by kernel_rfl
theorem bytesOp : Tryd.prog.bytesOf 23 = 64 := by kernel_rfl

section
variable {H : Type} {enc : TypeId × Value → H} {w : World} {base : Nat} {spare : Nat → Bool} {held : Bool}

set_option maxRecDepth 100000 in
theorem op_cells {n : Nat} {cs : List Value} {y : DataW H × List MemPlace} (h : DataW.trod enc Tryd.prog w base spare held n 23 cs = some y) : ∃ x : Opn, cs = opC x ∧ OpWf x := by
  obtain ⟨xs, m, _, _, hl, hxl, hf⟩ := DataW.trod_struct Tryd.underlying23 h
  rw [cellsOp] at hl
  match cs, hl with
  | [c0, c1, c2, c3, c4], _ =>
    match xs, hxl with
    | [x0, x1, x2, x3, x4], _ =>
      have f0 : DataW.trod enc Tryd.prog w base spare held m 3 [c0] = some x0 := by simpa [cellsIntO, cellsStrO] using hf 0 _ rfl
      have f1 : DataW.trod enc Tryd.prog w base spare held m 9 [c1] = some x1 := by simpa [cellsIntO, cellsStrO] using hf 1 _ rfl
      have f2 : DataW.trod enc Tryd.prog w base spare held m 9 [c2] = some x2 := by simpa [cellsIntO, cellsStrO] using hf 2 _ rfl
      have f3 : DataW.trod enc Tryd.prog w base spare held m 3 [c3] = some x3 := by simpa [cellsIntO, cellsStrO] using hf 3 _ rfl
      have f4 : DataW.trod enc Tryd.prog w base spare held m 9 [c4] = some x4 := by simpa [cellsIntO, cellsStrO] using hf 4 _ rfl
      obtain ⟨k, hk, _, hw0⟩ := DataW.trod_int Tryd.underlying3 f0
      obtain ⟨t1, ht1, _, hw1⟩ := DataW.trod_string Tryd.underlying9 f1
      obtain ⟨t2, ht2, _, hw2⟩ := DataW.trod_string Tryd.underlying9 f2
      obtain ⟨k3, hk3, _, hw3⟩ := DataW.trod_int Tryd.underlying3 f3
      obtain ⟨t4, ht4, _, hw4⟩ := DataW.trod_string Tryd.underlying9 f4
      simp at hk ht1 ht2 hk3 ht4
      unfold maxLen at hw1 hw2 hw4
      refine ⟨⟨k, t1.data.toList, t2.data.toList, k3, t4.data.toList⟩, ?_, hw0, ?_, ?_, hw3, ?_⟩
      · unfold opC; rw [hk, ht1, ht2, hk3, ht4, bs_of, bs_of, bs_of]
      · show t1.data.toList.length ≤ _; rw [ba_length]; omega
      · show t2.data.toList.length ≤ _; rw [ba_length]; omega
      · show t4.data.toList.length ≤ _; rw [ba_length]; omega

set_option maxRecDepth 100000 in
theorem open_op {r : Reach} {b0 : Nat} {v : Value} {d : DataW H} {ps : List MemPlace} (hval : Value.okWide Tryd.prog w r b0 23 v) (hd : DataW.Trod enc Tryd.prog w base spare held 23 v d ps) :
    ∃ o : Opn, v = opA o ∧ OpWf o := by
  simp only [Value.okWide, Tryd.underlying23] at hval
  obtain ⟨cs, rfl, hsz, _⟩ := hval
  obtain ⟨fuel, hf⟩ := hd
  obtain ⟨o, ho, hw⟩ := op_cells hf
  refine ⟨o, ?_, hw⟩
  obtain ⟨l, hcl⟩ : ∃ l, cs = l.toArray := ⟨cs.toList, by simp⟩
  subst hcl
  have e : l = opC o := by simpa [Value.cells] using ho
  subst e
  rfl

end

end Go.Proofs.YtbeigaanlhaolaaDoor
