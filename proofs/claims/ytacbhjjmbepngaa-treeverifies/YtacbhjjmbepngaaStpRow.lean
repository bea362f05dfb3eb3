/-
  A slice of steps that came in reads as steps. Conditions: it can be read as data.
-/
import Derived.Test.YtacbhjjmbepngaaTxtRow
namespace Go.Proofs.Ytacbhjjmbepngaa
open Go.RowKit
open Go.Proofs
open Go.ChangeShapes Go.WideShapes Go.Deep
open WoolTree

theorem cellsStep : Try.prog.cellsOf 33 = 2 := by kernel_rfl
theorem cellsIntS : Try.prog.cellsOf 3 = 1 := by kernel_rfl
theorem cellsBoolS : Try.prog.cellsOf 4 = 1 := by kernel_rfl

section
variable {H : Type} {enc : TypeId × Value → H} {w : World} {base : Nat} {spare : Nat → Bool} {held : Bool}

set_option maxRecDepth 100000 in
theorem step_cells {n : Nat} {cs : List Value} {y : DataW H × List MemPlace} (h : DataW.trod enc Try.prog w base spare held n 33 cs = some y) : ∃ x : Bool × Int, cs = stC x ∧ (Lit.int .i64 x.2).wf = true := by
  obtain ⟨xs, m, _, _, hl, hxl, hf⟩ := DataW.trod_struct Try.underlying33 h
  rw [cellsStep] at hl
  match cs, hl with
  | [c0, c1], _ =>
    match xs, hxl with
    | [x0, x1], _ =>
      have f0 : DataW.trod enc Try.prog w base spare held m 4 [c0] = some x0 := by simpa [cellsIntS, cellsBoolS] using hf 0 _ rfl
      have f1 : DataW.trod enc Try.prog w base spare held m 3 [c1] = some x1 := by simpa [cellsIntS, cellsBoolS] using hf 1 _ rfl
      obtain ⟨b, hb, _⟩ := DataW.trod_bool Try.underlying4 f0
      obtain ⟨s, hs, _, hs2⟩ := DataW.trod_int Try.underlying3 f1
      simp at hb hs
      exact ⟨(b, s), by unfold stC; rw [hb, hs], hs2⟩

theorem open_steps {fuel : Nat} {cs : List Value} {x : DataW H × List MemPlace} (h : DataW.trod enc Try.prog w base (fun _ => true) held fuel 26 cs = some x) :
    ∃ (o : Option Addr) (len cap : Nat) (l : List (Bool × Int)), cs = [.slice o len cap] ∧ Stps w (.slice o len cap) l := by
  obtain ⟨o, len, cap, l, h1, h2, h3, _⟩ := open_rowT stC (fun x => (Lit.int .i64 x.2).wf = true) stC_len (by omega) Try.underlying26 cellsStep (fun n cs y hy => step_cells hy) h
  exact ⟨o, len, cap, l, h1, h3⟩

end

end Go.Proofs.Ytacbhjjmbepngaa
