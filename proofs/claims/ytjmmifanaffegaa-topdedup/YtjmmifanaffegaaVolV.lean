/-
  Slices of identifiers (Ids) and of volumes (Vols), states (Stat): what they read as; the same where the call owns them. Conditions: as each says.
-/
import Derived.Test.YtjmmifanaffegaaFl
import Derived.Test.YtjmmifanaffegaaItems
import Derived.Test.YtjmmifanaffegaaVolM
namespace Go.Proofs.Ytjmmifanaffegaa
open Go.RowKit
open Go.Proofs
open WoolBag
open WoolVol

/-- an identifier's cells -/
def idC (i : Idn) : List Value := [.bool i.1, .int .i64 i.2.1, .int .i64 i.2.2]
theorem idC_len (i : Idn) : (idC i).length = 3 := rfl
theorem idC_one (i : Idn) : ∀ u ∈ idC i, u.oneCell' = true := by
  intro u h; unfold idC at h; simp at h; rcases h with rfl | rfl | rfl <;> rfl

/-- a volume as it lies in memory: its name, the slice of its blocks -/
structure VC where
  nm : List UInt8
  sl : Value

instance : Inhabited VC := ⟨⟨[], .slice none 0 0⟩⟩

/-- a volume's cells -/
def vcC (x : VC) : List Value := [.string (bs x.nm), x.sl]
theorem vcC_len (x : VC) : (vcC x).length = 2 := rfl

/-- the identifier's numbers fit -/
def WfI (i : Idn) : Prop := (Lit.int .i64 i.2.1).wf = true ∧ (Lit.int .i64 i.2.2).wf = true
def WfS (st : Sta) : Prop := ∀ v ∈ st.v, (∀ i ∈ v.bl, WfI i) ∧ v.nm.length ≤ 9223372036854775807

/-- a slice that reads as identifiers -/
def Ids (w : World) (v : Value) (l : List Idn) : Prop := Sl w 3 v l.length (fl idC l)

theorem Ids.up {w w' : World} {v : Value} {l : List Idn} (h : Ids w v l) (hu : Up w w') : Ids w' v l := Sl.up h hu
theorem Ids.slice {w : World} {v : Value} {l : List Idn} (h : Ids w v l) : ∃ o c, v = .slice o l.length c ∧ l.length ≤ c ∧ c ≤ maxLen := Sl.slice h
theorem Ids.nil (w : World) : Ids w (.slice none 0 0) [] := Sl.nil w 3
theorem Ids.one {w : World} {v : Value} {l : List Idn} (h : Ids w v l) : v.oneCell' = true := by
  obtain ⟨o, c, rfl, _, _⟩ := h.slice
  rfl

theorem Ids.at {w : World} {o : Option Addr} {n c : Nat} {l : List Idn} (h : Ids w (.slice o n c) l) (hne : l ≠ []) : ∃ b off, o = some ⟨b, off, none⟩ ∧ ∀ k (hk : k < l.length),
    w.cell? ⟨b, off + k * 3, none⟩ = some (.bool l[k].1) ∧ w.cell? ⟨b, off + k * 3 + 1, none⟩ = some (.int .i64 l[k].2.1) ∧ w.cell? ⟨b, off + k * 3 + 2, none⟩ = some (.int .i64 l[k].2.2) := by
  obtain ⟨b, off, h1, h2⟩ := Sl.cells h (by intro e; exact hne (List.eq_nil_of_length_eq_zero e))
  refine ⟨b, off, h1, fun k hk => ?_⟩
  have g := fun j hj => fl_get idC_len l k hk j hj
  exact ⟨h2 _ _ (g 0 (by omega)), by have := h2 _ _ (g 1 (by omega)); rwa [← Nat.add_assoc] at this, by have := h2 _ _ (g 2 (by omega)); rwa [← Nat.add_assoc] at this⟩

/-- a slice that reads as volumes, as they lie in memory -/
def VCs (w : World) (v : Value) (C : List VC) : Prop := Sl w 2 v C.length (fl vcC C)

theorem VCs.at {w : World} {o : Option Addr} {n c : Nat} {C : List VC} (h : VCs w (.slice o n c) C) (hne : C ≠ []) : ∃ b off, o = some ⟨b, off, none⟩ ∧ ∀ k (hk : k < C.length),
    w.cell? ⟨b, off + k * 2, none⟩ = some (.string (bs C[k].nm)) ∧ w.cell? ⟨b, off + k * 2 + 1, none⟩ = some C[k].sl := by
  obtain ⟨b, off, h1, h2⟩ := Sl.cells h (by intro e; exact hne (List.eq_nil_of_length_eq_zero e))
  refine ⟨b, off, h1, fun k hk => ?_⟩
  have g := fun j hj => fl_get vcC_len C k hk j hj
  exact ⟨h2 _ _ (g 0 (by omega)), by have := h2 _ _ (g 1 (by omega)); rwa [← Nat.add_assoc] at this⟩

/-- volumes as they lie in memory, and what they read as -/
structure Rd (w : World) (C : List VC) (l : List Vo) : Prop where
  len : C.length = l.length
  nm : ∀ k (h : k < l.length), (C[k]'(by omega)).nm = l[k].nm
  bl : ∀ k (h : k < l.length), Ids w (C[k]'(by omega)).sl l[k].bl

theorem Rd.up {w w' : World} {C : List VC} {l : List Vo} (h : Rd w C l) (hu : Up w w') : Rd w' C l := ⟨h.len, h.nm, fun k hk => (h.bl k hk).up hu⟩

theorem Rd.one {w : World} {C : List VC} {l : List Vo} (h : Rd w C l) : ∀ u ∈ fl vcC C, u.oneCell' = true := by
  intro u hu
  have : ∃ x ∈ C, u ∈ vcC x := by
    clear h
    induction C with
    | nil => simp [fl] at hu
    | cons a r ih =>
      change u ∈ vcC a ++ fl vcC r at hu
      rw [List.mem_append] at hu
      rcases hu with hu | hu
      · exact ⟨a, by simp, hu⟩
      · obtain ⟨x, hx, hx2⟩ := ih hu; exact ⟨x, by simp [hx], hx2⟩
  obtain ⟨x, hx, hx2⟩ := this
  unfold vcC at hx2
  simp at hx2
  rcases hx2 with rfl | rfl
  · rfl
  · obtain ⟨k, hk, rfl⟩ := List.getElem_of_mem hx
    exact (h.bl k (by have := h.len; omega)).one

/-- a slice that reads as volumes -/
def Vols (w : World) (v : Value) (l : List Vo) : Prop := ∃ C, VCs w v C ∧ Rd w C l

theorem Vols.up {w w' : World} {v : Value} {l : List Vo} (h : Vols w v l) (hu : Up w w') : Vols w' v l := by
  obtain ⟨C, h1, h2⟩ := h
  exact ⟨C, Sl.up h1 hu, h2.up hu⟩
theorem Vols.slice {w : World} {v : Value} {l : List Vo} (h : Vols w v l) : ∃ o c, v = .slice o l.length c ∧ l.length ≤ c ∧ c ≤ maxLen := by
  obtain ⟨C, h1, h2⟩ := h
  have := Sl.slice h1
  rwa [h2.len] at this
theorem Vols.nil (w : World) : Vols w (.slice none 0 0) [] := ⟨[], Sl.nil w 2, ⟨rfl, fun k h => absurd h (by simp), fun k h => absurd h (by simp)⟩⟩

theorem Vols.at {w : World} {o : Option Addr} {n c : Nat} {l : List Vo} (h : Vols w (.slice o n c) l) (hne : l ≠ []) : ∃ b off, o = some ⟨b, off, none⟩ ∧ ∀ k (hk : k < l.length),
    w.cell? ⟨b, off + k * 2, none⟩ = some (.string (bs l[k].nm)) ∧ ∃ u, w.cell? ⟨b, off + k * 2 + 1, none⟩ = some u ∧ Ids w u l[k].bl := by
  obtain ⟨C, h1, h2⟩ := h
  have hl := h2.len
  obtain ⟨b, off, e, h3⟩ := VCs.at h1 (by intro e; subst e; exact hne (List.eq_nil_of_length_eq_zero (by simpa using hl.symm)))
  refine ⟨b, off, e, fun k hk => ?_⟩
  obtain ⟨a1, a2⟩ := h3 k (by omega)
  exact ⟨by rw [← h2.nm k hk]; exact a1, _, a2, h2.bl k hk⟩

/-- a state -/
def Stat (w : World) (v : Value) (st : Sta) : Prop := ∃ vb vv, v = .agg #[vb, vv] ∧ Items w vb st.b ∧ Vols w vv st.v

theorem Stat.up {w w' : World} {v : Value} {st : Sta} (h : Stat w v st) (hu : Up w w') : Stat w' v st := by
  obtain ⟨vb, vv, h1, h2, h3⟩ := h
  exact ⟨vb, vv, h1, h2.up hu, h3.up hu⟩

def zeroV : Value := .agg #[.slice none 0 0, .slice none 0 0]
theorem Stat.zero (w : World) : Stat w zeroV zeroS := ⟨_, _, rfl, Items.nil w, Vols.nil w⟩

end Go.Proofs.Ytjmmifanaffegaa
