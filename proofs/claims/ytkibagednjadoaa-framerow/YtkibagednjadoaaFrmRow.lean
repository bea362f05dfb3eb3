/-
  A frame (a struct of an int and a string) that came in, opened and shut as data. Conditions: it can be read as data.
-/
import Derived.Test.YtkibagednjadoaaUp
import Derived.Deep.Fields
import Derived.ChangeSame
import Derived.OpenShut
import Derived.ShutString
import Derived.SizedLaws
namespace Go.Proofs.Ytkibagednjadoaa
open Go.RowKit
open Go.Proofs
open Go.ChangeShapes Go.WideShapes Go.Deep

theorem cellsFrm : Try.prog.cellsOf 23 = 2 := by kernel_rfl
theorem cellsInt2 : Try.prog.cellsOf 3 = 1 := by kernel_rfl
theorem cellsStr2 : Try.prog.cellsOf 9 = 1 := by kernel_rfl

section
variable {H : Type} {enc : TypeId × Value → H} {w : World} {base : Nat} {spare : Nat → Bool} {held : Bool}

set_option maxRecDepth 100000 in
theorem open_frm {r : Reach} {b0 : Nat} {v : Value} {d : DataW H} {ps : List MemPlace} (hval : Value.okWide Try.prog w r b0 23 v) (hd : DataW.Trod enc Try.prog w base spare held 23 v d ps) :
    ∃ (k : Int) (s : ByteArray), v = .agg #[.int .i64 k, .string s] ∧ d = .agg [.lit (.int .i64 k), .lit (.string s.data.toList)] ∧ ps = [] ∧ (Lit.int .i64 k).wf = true ∧ s.size ≤ maxLen := by
  simp only [Value.okWide, Try.underlying23] at hval
  obtain ⟨cs, rfl, hsz, _⟩ := hval
  rw [cellsFrm] at hsz
  obtain ⟨fuel, hf⟩ := hd
  obtain ⟨xs, m, _, hx, hl, hxl, hf⟩ := DataW.trod_struct Try.underlying23 hf
  obtain ⟨l, hcl⟩ : ∃ l, cs = l.toArray := ⟨cs.toList, by simp⟩
  subst hcl
  match l, hsz with
  | [c0, c1], _ =>
    match xs, hxl with
    | [x0, x1], _ =>
      have f0 : DataW.trod enc Try.prog w base spare held m 3 [c0] = some x0 := by simpa [cellsInt2, Value.cells] using hf 0 _ rfl
      have f1 : DataW.trod enc Try.prog w base spare held m 9 [c1] = some x1 := by simpa [cellsStr2, Value.cells] using hf 1 _ rfl
      obtain ⟨k, hk, hx0, hw⟩ := DataW.trod_int Try.underlying3 f0
      obtain ⟨s, hs, hx1, hm⟩ := DataW.trod_string Try.underlying9 f1
      simp at hk hs
      subst hk hs hx0 hx1
      simp at hx
      exact ⟨k, s, rfl, hx.1, hx.2, hw, hm⟩

set_option maxRecDepth 100000 in
theorem shut_frm {k : Int} {s : ByteArray} (hk : (Lit.int .i64 k).wf = true) (hs : s.size ≤ maxLen) :
    DataW.Trod enc Try.prog w base spare held 23 (.agg #[.int .i64 k, .string s]) (.agg [.lit (.int .i64 k), .lit (.string s.data.toList)]) [] :=
  ⟨2, Go.ChangeShapes.trod_struct2_mk (n := 1) (y0 := (.lit (.int .i64 k), [])) (y1 := (.lit (.string s.data.toList), [])) Try.underlying23 (by rw [cellsFrm]; rfl)
    (by simp [cellsInt2, Value.cells, DataW.trod, Try.underlying3, hk]) (by simp [cellsStr2, Value.cells, DataW.trod, Try.underlying9, hs])⟩

theorem sized_frm {ts : List TypeId} {ds : List (DataW H)} (h : (DataW.weightsEach Try.prog ts ds).all (· ≤ reachBytes) = true) {j : Nat} {k : Int} {b : List UInt8} (ht : ts[j]? = some 23) (hd : ds[j]? = some (.agg [.lit (.int .i64 k), .lit (.string b)])) : b.length ≤ 140737488351232 := by
  have := List.all_eq_true.1 h _ (DataW.weights_mem_each ht hd b.length (by simp [DataW.weights, DataW.weightsEach, Try.underlying23]))
  unfold reachBytes at this
  simpa using this

end

end Go.Proofs.Ytkibagednjadoaa
