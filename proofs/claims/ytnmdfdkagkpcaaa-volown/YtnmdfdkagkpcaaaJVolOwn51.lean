/-
  A copied state's parts, and its marks as the law asks for them; what the last row of states is. Conditions: as each says.
-/
import Derived.Test.YtnmdfdkagkpcaaaJVolOwn50
namespace Go.Proofs.Ytnmdfdkagkpcaaa
open Go.RowKit
open Go.Proofs
open WoolBag
open WoolVol

theorem CpS.parts {w : World} {lo g c m : Nat} {vv : Value} {st : Sta} (h : CpS w lo (.agg #[.slice (some ⟨g, 0, none⟩) m c, vv]) st) :
    RowI w g (itL st.b ++ mkC mkI 3) ∧ ∃ C, OVC w lo vv C ∧ CVs w lo C st.v := by
  obtain ⟨g2, v2, C, e, h1, h2, h3, h4⟩ := h
  simp only [Value.agg.injEq] at e
  have e2 := congrArg Array.toList e
  simp at e2
  obtain ⟨⟨rfl, _, _⟩, rfl⟩ := e2
  exact ⟨h2, C, h3, h4⟩

theorem mark_items (g m : Nat) (l : List Itm) (w : World) (hr : RowI w g (itL l ++ mkC mkI 3)) (hl : l.length ≤ 64) (hm : l.length = m) :
    Calls Try.prog 24 #[.slice (some ⟨g, 0, none⟩) m (m + 3), .agg #[.int .i64 0, .int .i64 77, .string ⟨#[]⟩, .int .i64 0]] w fun e w' => e = .returned (.bool true) ∧ Up w w' := by
  subst hm
  exact marked_any g l mkI w hr (by omega)

theorem mark_ids (g m : Nat) (l : List Idn) (w : World) (hr : RowD w g (fl idC l ++ mkCD mkN 3)) (hl : l.length ≤ 32) (hm : l.length = m) :
    Calls Try.prog 25 #[.slice (some ⟨g, 0, none⟩) m (m + 3), .agg #[.bool false, .int .i64 0, .int .i64 78]] w fun e w' => e = .returned (.bool true) ∧ Up w w' := by
  subst hm
  exact marked_anyD g l mkN w hr (by omega)

/-- what copied answers, by its slices -/
theorem CpS.slices {w : World} {lo : Nat} {v : Value} {st : Sta} (h : CpS w lo v st) : ∃ o1 n1 c1 o2 n2 c2, v = .agg #[.slice o1 n1 c1, .slice o2 n2 c2] := by
  obtain ⟨g, vv, C, rfl, h1, h2, h3, h4⟩ := h
  obtain ⟨o2, c2, rfl, _, _⟩ := Sl.slice h3.vcs
  exact ⟨_, _, _, _, _, _, rfl⟩

theorem Ordd.last {L : List Seg} {lo hi hi2 : Nat} (h : Ordd L lo hi) (h2 : hi ≤ hi2) : Ordd L lo hi2 := ⟨h.1, fun k hk => ⟨(h.2 k hk).1, Nat.le_trans (h.2 k hk).2 h2⟩⟩

theorem SpI.low {L : List Seg} {U : List (Value × Value)} {AB base i a b lo : Nat} {wv : Value} {w wr w' : World} (h : SpI L U AB base wv w i wr) (ho : Ordd L lo base) (hb : Btw a b wr w') (h1 : b ≤ lo) (h2 : lo ≤ base) (h3 : base ≤ AB) (ha : w.heap.size ≤ a) : SpI L U AB base wv w i w' :=
  ⟨h.row.btw hb (.inr (by omega)), own_btw h.want hb (by omega), fun k hk hi => (h.seg k hk hi).btw hb (.inl (Nat.le_trans h1 (ho.2 k hk).1)), fun k h4 h5 => (h.rd k h4 h5).btw hb (by omega), hb.above h.up ha⟩

theorem SpI.of {L : List Seg} {U : List (Value × Value)} {AB n : Nat} {wv : Value} {w W wr : World} (h : WtI L AB AB W n wv U wr) (hn : L.length = n) (hs : Segs wr L) (hu : Up w wr) (hA : AB ≤ W.heap.size) : SpI L U AB AB wv w 0 wr := by
  subst hn
  exact ⟨h.row, own_base h.want hA, fun k hk _ => (hs k hk).1, h.rd, hu⟩

theorem WtI.shape {L : List Seg} {U : List (Value × Value)} {AB base i : Nat} {wv : Value} {W wr : World} (h : WtI L AB base W i wv U wr) (hi : i ≠ 0) : ∃ g c, wv = .slice (some ⟨g, 0, none⟩) i c := by
  rcases own_row h.want with ⟨_, h2, _⟩ | ⟨g, cap, sp, e, _⟩
  · exact absurd h2 hi
  · exact ⟨g, cap, e⟩

theorem SpI.wantAt {L : List Seg} {U : List (Value × Value)} {AB base i g n c j : Nat} {w wr : World} (h : SpI L U AB base (.slice (some ⟨g, 0, none⟩) n c) w i wr) (hj : j < L.length) :
    ∃ hU : j < U.length, wr.cell? ⟨g, j * 2, none⟩ = some U[j].1 ∧ wr.cell? ⟨g, j * 2 + 1, none⟩ = some U[j].2 := by
  have hl := h.want.1
  rw [fl_length uC_len U] at hl
  have hU : j < U.length := by omega
  rcases own_row h.want with ⟨e, _, _⟩ | ⟨g2, cap, sp, e, _, hr, _⟩
  · cases e
  · simp only [Value.slice.injEq, Option.some.injEq, Addr.mk.injEq] at e
    obtain ⟨⟨rfl, _, _⟩, _, _⟩ := e
    have k0 := fl_get uC_len U j hU 0 (by omega)
    have k1 := fl_get uC_len U j hU 1 (by omega)
    have hb : ∀ q, q < 2 → j * 2 + q < (fl uC U).length := fun q hq => by rw [fl_length uC_len U]; omega
    refine ⟨hU, hr.cell ?_, hr.cell ?_⟩
    · rw [List.getElem?_append_left (by have := hb 0 (by omega); omega)]; exact k0
    · rw [List.getElem?_append_left (hb 1 (by omega))]; exact k1

theorem OSt.pair {w : World} {base : Nat} {x y : Value} {st : Sta} (h : OSt w base (.agg #[x, y]) st) : ∃ o1 n1 c1 o2 n2 c2, x = .slice o1 n1 c1 ∧ y = .slice o2 n2 c2 := by
  obtain ⟨ob, cb, ov, cv, e, _⟩ := h.slices
  simp only [Value.agg.injEq] at e
  have e2 := congrArg Array.toList e
  simp at e2
  exact ⟨_, _, _, _, _, _, e2.1, e2.2⟩

theorem cell_upO {w w' : World} {p : Addr} {v : Value} (hu : Up w w') (h : w.cell? p = some v) : w'.cell? p = some v := by
  rw [← h]
  exact hu.cell (World.block_lt_of_cell? w _ h)

theorem RRw.ids {w : World} {lo hi n : Nat} {v : Value} {l : List Idn} (h : RRw w lo hi 51 3 v n (fl idC l)) (hn : l.length = n) : Ids w v l := by
  subst hn
  exact OIds.ids h.own

end Go.Proofs.Ytnmdfdkagkpcaaa
