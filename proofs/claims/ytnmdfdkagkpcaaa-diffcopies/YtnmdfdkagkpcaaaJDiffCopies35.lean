/-
  An identifier laid at a place of a volume: what is there then. Conditions: as each says.
-/
import Derived.Test.YtnmdfdkagkpcaaaJDiffCopies31
namespace Go.Proofs.Ytnmdfdkagkpcaaa
open Go.RowKit
open Go.Proofs
open WoolBag
open WoolVol

theorem far3 {w : World} {g a b c : Nat} {x y z : Value} {p : Addr} (h : p.block ≠ g) : (((w.setCell ⟨g, a, none⟩ x).setCell ⟨g, b, none⟩ y).setCell ⟨g, c, none⟩ z).cell? p = w.cell? p := by
  rw [World.cell?_setCell_far _ _ _ _ (Ne.symm h), World.cell?_setCell_far _ _ _ _ (Ne.symm h), World.cell?_setCell_far _ _ _ _ (Ne.symm h)]

theorem setB_len (l : List Vo) (k a : Nat) (x : Idn) : (setB l k a x).length = l.length := by unfold setB; rw [List.length_set]

theorem setB_get {l : List Vo} {k a : Nat} {x : Idn} (hk : k < l.length) (j : Nat) (hj : j < l.length) : (setB l k a x)[j]'(by rw [setB_len]; exact hj) = if k = j then ⟨l[k].nm, l[k].bl.set a x⟩ else l[j] := by
  have e : setB l k a x = l.set k ⟨l[k].nm, l[k].bl.set a x⟩ := by unfold setB; rw [getElem!_pos l k hk]
  have h2 : ∀ (m : List Vo) (_ : m = l.set k ⟨l[k].nm, l[k].bl.set a x⟩) (hm : j < m.length), m[j] = if k = j then ⟨l[k].nm, l[k].bl.set a x⟩ else l[j] := by
    rintro m rfl hm
    rw [List.getElem_set]
  exact h2 _ e _

theorem vix_setB {l : List Vo} {s : List UInt8} {k a : Nat} {x : Idn} (h : vix (nmB s) l = some k) : vix (nmB s) (setB l k a x) = some k := by
  obtain ⟨h1, h2, h3⟩ := vix_some h
  refine vix_of (by rw [setB_len]; exact h1) ?_ (fun j hj => ?_)
  · rw [setB_get h1 k h1, if_pos rfl]; exact h2
  · rw [setB_get h1 j (by omega), if_neg (by omega)]; exact h3 j hj

end Go.Proofs.Ytnmdfdkagkpcaaa
