/-
  Valid states fit: what is in one can stand in a map's key. Conditions: as each says.
-/
import Derived.Test.YtkobngbjffbjiaaJVolClones21
namespace Go.Proofs.Ytkobngbjffbjiaa
open Go.RowKit
open Go.Proofs
open WoolBag
open WoolVol

theorem wf_of {x : Int} (h1 : 0 ≤ x) (h2 : x ≤ 1073741824) : (Lit.int .i64 x).wf = true := by
  simp only [Lit.wf, Bool.and_eq_true, decide_eq_true_eq]
  exact ⟨by show (-9223372036854775808 : Int) ≤ _; omega, by show _ ≤ (9223372036854775807 : Int); omega⟩

theorem good_wf {st : Sta} (g : WoolVol.Good FP st) : WfS st := by
  intro v hv
  obtain ⟨hn, _, hb⟩ := g.vol v hv
  refine ⟨fun i hi => ?_, ?_⟩
  · have he := hb i hi
    cases h1 : i.1 with
    | false =>
      rw [errB_hole he h1]
      exact ⟨wf_of (by simp [noId]) (by simp [noId]), wf_of (by simp [noId]) (by simp [noId])⟩
    | true =>
      obtain ⟨x, hx, rfl⟩ := errB_in he h1
      have hok := g.bag.ok x hx
      have hs : x.s = FP x.t := hok.2.1
      have hle := fp_le 65581 (by omega) (by omega) x.t
      have hn1 := hok.2.2.1
      have hn2 := hok.2.2.2.1
      refine ⟨?_, ?_⟩
      · show (Lit.int .i64 x.s).wf = true
        rw [hs]
        exact wf_of (by unfold FP; omega) (by unfold FP; omega)
      · show (Lit.int .i64 x.n).wf = true
        exact wf_of (by omega) (by omega)
  · unfold nameB at hn
    simp at hn
    omega

end Go.Proofs.Ytkobngbjffbjiaa
