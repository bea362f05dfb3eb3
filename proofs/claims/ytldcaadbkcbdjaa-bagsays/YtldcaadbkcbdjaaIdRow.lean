/-
  An identifier of a block (a struct of a bool and two ints) that came in, opened and shut as data. Conditions: it can be read as data.
-/
import Derived.Test.YtldcaadbkcbdjaaUp
import Derived.Deep.Fields
import Derived.ChangeSame
import Derived.OpenShut
import Derived.ShutString
import Derived.SizedLaws
import Derived.Deep.Strs
namespace Go.Proofs.Ytldcaadbkcbdjaa
open Go.RowKit
open Go.Proofs
open Go.ChangeShapes Go.WideShapes Go.Deep

theorem cellsId : Try.prog.cellsOf 24 = 3 := by kernel_rfl
theorem cellsIntD : Try.prog.cellsOf 3 = 1 := by kernel_rfl
theorem cellsBoolD : Try.prog.cellsOf 4 = 1 := by kernel_rfl

section
variable {H : Type} {enc : TypeId × Value → H} {w : World} {base : Nat} {spare : Nat → Bool} {held : Bool}

set_option maxRecDepth 100000 in
theorem open_id {r : Reach} {b0 : Nat} {v : Value} {d : DataW H} {ps : List MemPlace} (hval : Value.okWide Try.prog w r b0 24 v) (hd : DataW.Trod enc Try.prog w base spare held 24 v d ps) :
    ∃ (b : Bool) (m n : Int), v = .agg #[.bool b, .int .i64 m, .int .i64 n] ∧ d = .agg [.lit (.bool b), .lit (.int .i64 m), .lit (.int .i64 n)] ∧ ps = [] ∧ (Lit.int .i64 m).wf = true ∧ (Lit.int .i64 n).wf = true := by
  simp only [Value.okWide, Try.underlying24] at hval
  obtain ⟨cs, rfl, hsz, _⟩ := hval
  rw [cellsId] at hsz
  obtain ⟨fuel, hf⟩ := hd
  obtain ⟨xs, m, _, hx, hl, hxl, hf⟩ := DataW.trod_struct Try.underlying24 hf
  obtain ⟨l, hcl⟩ : ∃ l, cs = l.toArray := ⟨cs.toList, by simp⟩
  subst hcl
  match l, hsz with
  | [c0, c1, c2], _ =>
    match xs, hxl with
    | [x0, x1, x2], _ =>
      have f0 : DataW.trod enc Try.prog w base spare held m 4 [c0] = some x0 := by simpa [cellsIntD, cellsBoolD, Value.cells] using hf 0 _ rfl
      have f1 : DataW.trod enc Try.prog w base spare held m 3 [c1] = some x1 := by simpa [cellsIntD, cellsBoolD, Value.cells] using hf 1 _ rfl
      have f2 : DataW.trod enc Try.prog w base spare held m 3 [c2] = some x2 := by simpa [cellsIntD, cellsBoolD, Value.cells] using hf 2 _ rfl
      obtain ⟨b, hb, hx0⟩ := DataW.trod_bool Try.underlying4 f0
      obtain ⟨k, hk, hx1, hw1⟩ := DataW.trod_int Try.underlying3 f1
      obtain ⟨k2, hk2, hx2, hw2⟩ := DataW.trod_int Try.underlying3 f2
      simp at hb hk hk2
      subst hb hk hk2 hx0 hx1 hx2
      simp at hx
      exact ⟨b, k, k2, rfl, hx.1, hx.2, hw1, hw2⟩

set_option maxRecDepth 100000 in
theorem shut_id {b : Bool} {m n : Int} (hm : (Lit.int .i64 m).wf = true) (hn : (Lit.int .i64 n).wf = true) :
    DataW.Trod enc Try.prog w base spare held 24 (.agg #[.bool b, .int .i64 m, .int .i64 n]) (.agg [.lit (.bool b), .lit (.int .i64 m), .lit (.int .i64 n)]) [] :=
  ⟨2, trod_struct3_mk (n := 1) (y0 := (.lit (.bool b), [])) (y1 := (.lit (.int .i64 m), [])) (y2 := (.lit (.int .i64 n), [])) Try.underlying24 (by rw [cellsId]; rfl)
    (by simp [cellsBoolD, Value.cells, DataW.trod, Try.underlying4]) (by simp [cellsIntD, Value.cells, DataW.trod, Try.underlying3, hm]) (by simp [cellsIntD, Value.cells, DataW.trod, Try.underlying3, hn])⟩

end

end Go.Proofs.Ytldcaadbkcbdjaa
