/-
  What is stored and loaded, in plain words: the text comes back; what both texts share is stored once. Conditions: as each says.
-/
import Derived.Test.YtjklecglecpflaaDed1
namespace Go.Proofs.Ytjklecglecpflaa
open Go.RowKit
open Go.Proofs
open WoolBag
open WoolVol

theorem ded1 {S : List UInt8} {q : Nat} {st1 : Sta} (hq : q = (pcs S).length) (hq0 : q ≠ 0) (hsi : SI ⟨zeroS.b, vins ⟨[97], List.replicate q noId⟩ zeroS.v⟩ (vplace [97] zeroS.v) (pcs S) 0 q st1) :
    S ≠ [] ∧ ∃ va, st1.v = [va] ∧ va.nm = [97] ∧ va.bl.length = q ∧ ldd st1 0 q = S ∧ st1.b.length ≤ q ∧ ∀ i, i < q → txAt st1 0 i = (pcs S)[i]? := by
  have hS : S ≠ [] := by
    rintro rfl
    rw [hq, pcs_len, ends_nil] at hq0
    exact hq0 rfl
  have hv0 : vins ⟨[97], List.replicate q noId⟩ zeroS.v = [⟨[97], List.replicate q noId⟩] := rfl
  have hp0 : vplace [97] zeroS.v = 0 := rfl
  rw [hv0, hp0] at hsi
  have hl : st1.v.length = 1 := hsi.len
  have hvol := hsi.vol 0 (by simp) (by omega)
  have hbag := hsi.bag
  have hfl := ldd_flat (st := st1) (k := 0) (P := pcs S) q (by omega) hsi.done
  rw [hq, List.take_length, pcs_join S hS, ← hq] at hfl
  refine ⟨hS, ?_⟩
  obtain ⟨va, hva⟩ : ∃ va, st1.v = [va] := List.length_eq_one_iff.1 hl
  have e : ∀ (L : List Vo) (_ : L = [va]) (h : 0 < L.length), L[0] = va := by rintro L rfl h; rfl
  rw [e _ hva] at hvol
  refine ⟨va, hva, hvol.1, ?_, hfl, ?_, hsi.done⟩
  · have := hvol.2
    simpa using this
  · have : st1.b.length ≤ 0 + (q - 0) := hbag
    omega

theorem ded2 {S T : List UInt8} {q : Nat} {st1 : Sta} (hS : S ≠ []) (hq : q = (pcs S).length) (hd : ∀ i, i < q → txAt st1 0 i = (pcs S)[i]?) : ∀ i (_ : i < (pcs (S ++ T)).length), i < q - 1 → Has st1.b (pcs (S ++ T))[i] := by
  intro i hi hiq
  have h1 := pcs_ahead S T hS i (by omega)
  rw [List.getElem?_eq_getElem hi] at h1
  have h2 := hd i (by omega)
  rw [← h1] at h2
  exact has_tx h2

theorem ded3 {S T : List UInt8} {q q2 : Nat} {st1 st2 : Sta} {va : Vo} (hS : S ≠ []) (hq : q = (pcs S).length) (hq2 : q2 = (pcs (S ++ T)).length) (hva : st1.v = [va]) (hnm : va.nm = [97]) (hbl : va.bl.length = q) (hd : ∀ i, i < q → txAt st1 0 i = (pcs S)[i]?)
    (hsi : SI ⟨st1.b, vins ⟨[98], List.replicate q2 noId⟩ st1.v⟩ (vplace [98] st1.v) (pcs (S ++ T)) (q - 1) q2 st2) :
    ∃ h0 : 0 < st2.v.length, ∃ h1 : 1 < st2.v.length, vix (nmB [98]) st2.v = some 1 ∧ st2.v[1].bl.length = q2 ∧ ldd st2 1 q2 = S ++ T ∧ vix (nmB [97]) st2.v = some 0 ∧ st2.v[0].bl.length = q ∧ ldd st2 0 q = S ∧ st2.b.length + (q - 1) ≤ st1.b.length + q2 := by
  have hp : vplace [98] [va] = 1 := by
    have hn : vix (gtB [98]) [va] = none := by
      rw [vix_none]
      intro x hx
      rw [List.mem_singleton] at hx
      subst hx
      unfold gtB
      rw [hnm]
      rfl
    unfold vplace
    rw [hn]
    rfl
  have hv : vins ⟨[98], List.replicate q2 noId⟩ [va] = [va, ⟨[98], List.replicate q2 noId⟩] := by
    show [va].take (vplace [98] [va]) ++ _ :: [va].drop (vplace [98] [va]) = _
    rw [hp]
    rfl
  rw [hva, hp, hv] at hsi
  have hl : st2.v.length = 2 := hsi.len
  have hv0 := hsi.vol 0 (by simp) (by omega)
  have hv1 := hsi.vol 1 (by simp) (by omega)
  have hbag : st2.b.length ≤ st1.b.length + (q2 - (q - 1)) := hsi.bag
  have hmore := pcs_more S T hS
  have hST : S ++ T ≠ [] := by simp [hS]
  have hfl := ldd_flat (st := st2) (k := 1) (P := pcs (S ++ T)) q2 (by omega) hsi.done
  rw [hq2, List.take_length, pcs_join _ hST, ← hq2] at hfl
  have hda : ∀ i, i < q → txAt st2 0 i = (pcs S)[i]? := by
    intro i hi
    rw [hsi.oth 0 i (by simp) (by simpa [hbl] using hi) (by omega), ← hd i hi]
    unfold txAt blk
    rw [hva]
    rfl
  have hfa := ldd_flat (st := st2) (k := 0) (P := pcs S) q (by omega) hda
  rw [hq, List.take_length, pcs_join S hS, ← hq] at hfa
  have hxa : vix (nmB [97]) [va, ⟨[98], List.replicate q2 noId⟩] = some 0 := by simp [vix, nmB, hnm]
  have hxb : vix (nmB [98]) [va, ⟨[98], List.replicate q2 noId⟩] = some 1 := by simp [vix, nmB, hnm]
  refine ⟨by omega, by omega, vix_same hsi.len hsi.vol hxb, ?_, hfl, vix_same hsi.len hsi.vol hxa, ?_, hfa, by omega⟩
  · have := hv1.2
    simpa using this
  · have := hv0.2
    rw [this]
    exact hbl

end Go.Proofs.Ytjklecglecpflaa
