/-
  A slice that reads as deeds; a deed as a value. Conditions: as each says.
-/
import Derived.Test.YtbeigaanlhaolaaDoorFl
import Derived.Test.YtbeigaanlhaolaaDoorStM
namespace Go.Proofs.YtbeigaanlhaolaaDoor
open Go.RowKit
open Go.Proofs
open WoolVol

instance : Inhabited Opn := ⟨⟨0, [], [], 0, []⟩⟩

/-- a deed as cells -/
def opC (o : Opn) : List Value := [.int .i64 o.kd, .string (bs o.nm), .string (bs o.to), .int .i64 o.pl, .string (bs o.tx)]
theorem opC_len (o : Opn) : (opC o).length = 5 := rfl
theorem opC_one (o : Opn) : ∀ u ∈ opC o, u.oneCell' = true := by
  intro u h; unfold opC at h; simp at h; rcases h with rfl | rfl | rfl | rfl | rfl <;> rfl

/-- a deed as a value -/
def opA (o : Opn) : Value := .agg #[.int .i64 o.kd, .string (bs o.nm), .string (bs o.to), .int .i64 o.pl, .string (bs o.tx)]

/-- a deed that a call can be handed -/
def OpWf (o : Opn) : Prop := (Lit.int .i64 o.kd).wf = true ∧ o.nm.length ≤ 9223372036854775807 ∧ o.to.length ≤ 9223372036854775807 ∧ (Lit.int .i64 o.pl).wf = true ∧ o.tx.length ≤ 9223372036854775807

/-- a slice that reads as deeds -/
def Ops (w : World) (v : Value) (l : List Opn) : Prop := Sl w 5 v l.length (fl opC l) ∧ ∀ o ∈ l, OpWf o

theorem Ops.up {w w' : World} {v : Value} {l : List Opn} (h : Ops w v l) (hu : Up w w') : Ops w' v l := ⟨Sl.up h.1 hu, h.2⟩
theorem Ops.slice {w : World} {v : Value} {l : List Opn} (h : Ops w v l) : ∃ o c, v = .slice o l.length c ∧ l.length ≤ c ∧ c ≤ maxLen := Sl.slice h.1
theorem Ops.nil (w : World) : Ops w (.slice none 0 0) [] := ⟨Sl.nil w 5, by simp⟩

theorem Ops.at {w : World} {o : Option Addr} {n c : Nat} {l : List Opn} (h : Ops w (.slice o n c) l) (hne : l ≠ []) : ∃ b off, o = some ⟨b, off, none⟩ ∧ ∀ k (hk : k < l.length),
    w.cell? ⟨b, off + k * 5, none⟩ = some (.int .i64 l[k].kd) ∧ w.cell? ⟨b, off + k * 5 + 1, none⟩ = some (.string (bs l[k].nm)) ∧ w.cell? ⟨b, off + k * 5 + 2, none⟩ = some (.string (bs l[k].to)) ∧
    w.cell? ⟨b, off + k * 5 + 3, none⟩ = some (.int .i64 l[k].pl) ∧ w.cell? ⟨b, off + k * 5 + 4, none⟩ = some (.string (bs l[k].tx)) := by
  obtain ⟨b, off, h1, h2⟩ := Sl.cells h.1 (by intro e; exact hne (List.eq_nil_of_length_eq_zero e))
  refine ⟨b, off, h1, fun k hk => ?_⟩
  have g := fun j hj => fl_get opC_len l k hk j hj
  exact ⟨h2 (k * 5 + 0) _ (g 0 (by omega)), h2 (k * 5 + 1) _ (g 1 (by omega)), h2 (k * 5 + 2) _ (g 2 (by omega)), h2 (k * 5 + 3) _ (g 3 (by omega)), h2 (k * 5 + 4) _ (g 4 (by omega))⟩

end Go.Proofs.YtbeigaanlhaolaaDoor
