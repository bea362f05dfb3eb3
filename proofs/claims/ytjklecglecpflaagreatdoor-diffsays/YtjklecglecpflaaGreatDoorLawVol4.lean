/-
  The law DiffSays over what is handed in. Conditions: a state and a row of ints that can be read.
-/
import Derived.Test.YtjklecglecpflaaGreatDoorLawVol3
namespace Go.Proofs.YtjklecglecpflaaGreatDoor
open Go.RowKit
open Go.Proofs
open WoolBag
open WoolVol

/-- a slice of integers that came in: nil, or a row of cells -/
def IsRow (k : IntKind) (w : World) (a : Option Addr) (len cap : Nat) (zs : List Int) : Prop :=
  (a = none ∧ len = 0 ∧ cap = 0 ∧ zs = []) ∨ ∃ x, a = some x ∧ len ≤ cap ∧ cap ≤ maxLen ∧ zs.length = cap ∧ (∀ i, i < zs.length → w.cell? (x.add i) = some (.int k (zs.getD i 0))) ∧ ∀ n ∈ zs, (Lit.int k n).wf = true

theorem row_ints {w : World} {a : Option Addr} {len cap : Nat} {zs : List Int} (h : IsRow .i64 w a len cap zs) : (zs.take len).length = len ∧ Sl w 1 (.slice a len cap) (zs.take len).length (inL (zs.take len)) := by
  rcases h with ⟨rfl, rfl, rfl, rfl⟩ | ⟨x, rfl, h1, h2, h3, h4, _⟩
  · exact ⟨rfl, Sl.nil w 1⟩
  · have hlen : (zs.take len).length = len := by rw [List.length_take]; omega
    refine ⟨hlen, by unfold inL; rw [List.length_map]; omega, some x, cap, by rw [hlen], by omega, h2, ?_⟩
    by_cases h0 : len = 0
    · exact .inl (by omega)
    · right
      obtain ⟨b, off, spot⟩ := x
      have hs0 := h4 0 (by omega)
      have hspot : spot = none := by simpa [Addr.add] using World.cell?_spot hs0
      subst hspot
      refine ⟨b, off, rfl, fun k u hu => ?_⟩
      unfold inL at hu
      rw [List.getElem?_map] at hu
      have hk : k < (zs.take len).length := by
        rcases Nat.lt_or_ge k (zs.take len).length with hlt | hge
        · exact hlt
        · rw [List.getElem?_eq_none hge] at hu; simp at hu
      rw [List.getElem?_eq_getElem hk, List.getElem_take] at hu
      simp at hu
      have hkl : k < zs.length := by omega
      have h6 := h4 k hkl
      have hg : zs.getD k 0 = zs[k] := by simp [hkl]
      rw [add_off, hg] at h6
      rw [h6, ← hu]

theorem diffSays_walk (a0 : Value) (s0 : Sta) (a1 a2 : ByteArray) (a3 : Option Addr) (len3 cap3 : Nat) (z3 : List Int) (w : World) (w0 : Stat w a0 s0 ∧ WfS s0) (_w1 : a1.size ≤ 140737488351232) (_w2 : a2.size ≤ 140737488351232) (w3 : IsRow .i64 w a3 len3 cap3 z3) :
    Calls Tryz.prog 4 #[a0, .string a1, .string a2, .slice a3 len3 cap3] w fun e w' => e = .returned (.bool true) ∧ Up w w' := by
  obtain ⟨hst, hwf⟩ := w0
  obtain ⟨n, rfl⟩ : ∃ n, a1 = bs n := ⟨a1.data.toList, (bs_of a1).symm⟩
  obtain ⟨m, rfl⟩ : ∃ m, a2 = bs m := ⟨a2.data.toList, (bs_of a2).symm⟩
  exact diffSays_core a0 s0 n m (.slice a3 len3 cap3) (z3.take len3) w hst hwf (row_ints w3).2

end Go.Proofs.YtjklecglecpflaaGreatDoor
