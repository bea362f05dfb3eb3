/-
  States laid into boxes of two slices: what reads as a state before reads so behind. Conditions: as each says.
-/
import Derived.Test.YtjmmifanaffegaaVolG
namespace Go.Proofs.Ytjmmifanaffegaa
open Go.RowKit
open Go.Proofs
open WoolBag
open WoolVol

theorem own_slice {w : World} {base n m : Nat} {T : TypeId} {v : Value} {L : List Value} (h : w.ownsRow base T m v n L) : ∃ o c, v = .slice o n c := by
  obtain ⟨o, c, e, _, _⟩ := Sl.slice (Sl.of_own h)
  exact ⟨o, c, e⟩

theorem Up.trans' {a b c : World} (h : Up a b) (k : Below a.heap.size b c) : Up a c := Below.trans h k

def RdEPost (w : World) (r : Sta × Int) (e : Ending) (w' : World) : Prop := ∃ v', e = .returned (.tuple #[v', .int .i64 r.2]) ∧ Stat w' v' r.1 ∧ Up w w'

/-- is it a slice? -/
def isSl : Value → Bool
  | .slice .. => true
  | _ => false

theorem cell_sl {w : World} {X T off : Nat} {a b u : Value} (hr : RowC w X T [a, b]) (ha : isSl a = true) (hb : isSl b = true) (hc : w.cell? ⟨X, off, none⟩ = some u) : isSl u = true := by
  rw [hr.at] at hc
  match off, hc with
  | 0, hc => simp at hc; rw [← hc]; exact ha
  | 1, hc => simp at hc; rw [← hc]; exact hb
  | n + 2, hc => simp at hc

theorem cell_apart {w : World} {X T i bb off : Nat} {a b u u0 y : Value} {o0 : Nat} (hr : RowC w X T [a, b]) (ha : isSl a = true) (hb : isSl b = true) (h0 : w.cell? ⟨bb, o0, none⟩ = some u0) (hu : isSl u0 = false) (hc : w.cell? ⟨bb, off, none⟩ = some u) : (w.setCell ⟨X, i, none⟩ y).cell? ⟨bb, off, none⟩ = some u := by
  have hne : bb ≠ X := by
    rintro rfl
    have := cell_sl hr ha hb h0
    rw [hu] at this; cases this
  exact (World.cell?_setCell_far _ _ _ _ (fun e => hne e.symm)).trans hc

theorem Sl.setS {w : World} {m n X T i : Nat} {v y a b : Value} {L : List Value} (h : Sl w m v n L) (hr : RowC w X T [a, b]) (ha : isSl a = true) (hb : isSl b = true) (h0 : ∀ u, L[0]? = some u → isSl u = false) : Sl (w.setCell ⟨X, i, none⟩ y) m v n L := by
  obtain ⟨e, o, c, rfl, h2, h3, h4⟩ := h
  refine ⟨e, o, c, rfl, h2, h3, ?_⟩
  rcases h4 with h4 | ⟨bb, off, rfl, h6⟩
  · exact .inl h4
  · refine .inr ⟨bb, off, rfl, fun j u hj => ?_⟩
    have hl : 0 < L.length := Nat.lt_of_le_of_lt (Nat.zero_le _) (List.getElem?_eq_some_iff.1 hj).1
    have hu0 : L[0]? = some L[0] := List.getElem?_eq_getElem hl
    exact cell_apart hr ha hb (h6 0 _ hu0) (h0 _ hu0) (h6 j u hj)

theorem Ids.setS {w : World} {X T i : Nat} {v y a b : Value} {l : List Idn} (h : Ids w v l) (hr : RowC w X T [a, b]) (ha : isSl a = true) (hb : isSl b = true) : Ids (w.setCell ⟨X, i, none⟩ y) v l := by
  refine Sl.setS h hr ha hb ?_
  intro u hu
  cases l with
  | nil => simp [fl] at hu
  | cons x r => simp [fl, idC] at hu; rw [← hu]; rfl

theorem Vols.setS {w : World} {X T i : Nat} {v y a b : Value} {l : List Vo} (h : Vols w v l) (hr : RowC w X T [a, b]) (ha : isSl a = true) (hb : isSl b = true) : Vols (w.setCell ⟨X, i, none⟩ y) v l := by
  obtain ⟨C, h1, h2⟩ := h
  refine ⟨C, Sl.setS h1 hr ha hb ?_, ⟨h2.len, h2.nm, fun k hk => (h2.bl k hk).setS hr ha hb⟩⟩
  intro u hu
  cases C with
  | nil => simp [fl] at hu
  | cons x r => simp [fl, vcC] at hu; rw [← hu]; rfl

theorem Items.setS {w : World} {X T i : Nat} {v y a b : Value} {l : List Itm} (h : Items w v l) (hr : RowC w X T [a, b]) (ha : isSl a = true) (hb : isSl b = true) : Items (w.setCell ⟨X, i, none⟩ y) v l := by
  obtain ⟨o, c, h1, h2, h3, h4⟩ := h
  refine ⟨o, c, h1, h2, h3, ?_⟩
  rcases h4 with h4 | ⟨bb, off, h5, h6⟩
  · exact .inl h4
  · refine .inr ⟨bb, off, h5, fun k hk => ?_⟩
    obtain ⟨a1, a2, a3, a4⟩ := h6 k hk
    exact ⟨cell_apart hr ha hb a1 rfl a1, cell_apart hr ha hb a1 rfl a2, cell_apart hr ha hb a1 rfl a3, cell_apart hr ha hb a1 rfl a4⟩

theorem Stat.setS {w : World} {X T i : Nat} {v y a b : Value} {st : Sta} (h : Stat w v st) (hr : RowC w X T [a, b]) (ha : isSl a = true) (hb : isSl b = true) : Stat (w.setCell ⟨X, i, none⟩ y) v st := by
  obtain ⟨vb, vv, h1, h2, h3⟩ := h
  exact ⟨vb, vv, h1, h2.setS hr ha hb, h3.setS hr ha hb⟩

/-- a state laid into a box of two slices -/
theorem Stat.boxed {w : World} {R T : Nat} {v x y a b : Value} {st : Sta} (h : Stat w v st) (hr : RowC w R T [a, b]) (ha : isSl a = true) (hb : isSl b = true) (hx : isSl x = true) : Stat ((w.setCell ⟨R, 0, none⟩ x).setCell ⟨R, 1, none⟩ y) v st :=
  (h.setS hr ha hb).setS (show RowC _ R T [x, b] from hr.set 0 x) hx hb

theorem up2 {w W : World} {R : Nat} {x y : Value} (h : Up w W) (hR : w.heap.size ≤ R) : Up w ((W.setCell ⟨R, 0, none⟩ x).setCell ⟨R, 1, none⟩ y) :=
  (Below.setCell (show Below w.heap.size w W from h) (p := ⟨R, 0, none⟩) hR _).setCell (p := ⟨R, 1, none⟩) hR _

end Go.Proofs.Ytjmmifanaffegaa
