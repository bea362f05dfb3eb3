/-
  What Expand of package lz returns, for every row of tokens: the error of the first token that has one, else the text. Conditions: the row can be read.
-/
import Derived.Test.YtloiciinmdmdkaaGreatDoorLz2
namespace Go.Proofs.YtloiciinmdmdkaaGreatDoor
open Go.RowKit
open Go.Proofs
open WoolLz

theorem apply_any (v : Value) (bl : List UInt8) (base : Nat) (t : Tok) (w : World) (hb : Bytes w base v bl) (hbase : base ≤ w.heap.size) (hlen : bl.length ≤ 600) (he : err t bl.length = 0) :
    Calls Tryz.prog 58 #[v, .agg #[.int .i64 t.d, .int .i64 t.l, .int .i64 t.b]] w (ApplyPost base w (app bl t)) := by
  obtain ⟨h1, h2, h3⟩ := (err_cases _ _).1 he
  have ht := tok_l t h1
  by_cases h0 : t.l = 0
  · have hl : litB t = true := by
      rcases h1 with h | h
      · exact h
      · unfold copB at h; rw [decide_eq_true_iff] at h; omega
    unfold litB at hl
    rw [decide_eq_true_iff] at hl
    unfold app
    rw [if_pos h0, h0]
    exact apply_lit v bl base t.d t.b w hb hbase hlen hl.2.2.1 hl.2.2.2
  · unfold app
    rw [if_neg h0]
    obtain ⟨D, hD⟩ := Int.eq_ofNat_of_zero_le ht.2.2.1
    obtain ⟨N, hN⟩ := Int.eq_ofNat_of_zero_le ht.1
    rw [hD, hN, Int.toNat_natCast, Int.toNat_natCast]
    exact apply_cpy v bl base D N t.b w hb hbase hlen (by omega) (by omega) (by omega) (by omega)

/-- a slice that reads as tokens -/
def Toks (w : World) (v : Value) (l : List Tok) : Prop :=
  ∃ o c, v = .slice o l.length c ∧ l.length ≤ c ∧ c ≤ maxLen ∧ (l = [] ∨ ∃ b off, o = some ⟨b, off, none⟩ ∧ ∀ k (h : k < l.length),
    w.cell? ⟨b, off + k * 3, none⟩ = some (.int .i64 l[k].d) ∧ w.cell? ⟨b, off + k * 3 + 1, none⟩ = some (.int .i64 l[k].l) ∧ w.cell? ⟨b, off + k * 3 + 2, none⟩ = some (.int .i64 l[k].b))

theorem Toks.up {w w' : World} {v : Value} {l : List Tok} (h : Toks w v l) (hu : Up w w') : Toks w' v l := by
  obtain ⟨o, c, h1, h2, h3, h4⟩ := h
  refine ⟨o, c, h1, h2, h3, ?_⟩
  rcases h4 with h4 | ⟨b, off, h5, h6⟩
  · exact .inl h4
  · refine .inr ⟨b, off, h5, fun k hk => ?_⟩
    obtain ⟨a1, a2, a3⟩ := h6 k hk
    exact ⟨(hu.cell (World.block_lt_of_cell? w _ a1)).trans a1, (hu.cell (World.block_lt_of_cell? w _ a2)).trans a2, (hu.cell (World.block_lt_of_cell? w _ a3)).trans a3⟩

def ExpRel (l : List Tok) (R : Int × List UInt8) (w : World) (b i : Value) (wr : World) : Prop :=
  ∃ (k : Nat) (bl : List UInt8), k ≤ l.length ∧ i = .int .i64 k ∧ bl.length ≤ 600 ∧ Bytes wr w.heap.size b bl ∧ exp bl (l.drop k) = R ∧ Up w wr

theorem Bytes.slice {w : World} {base : Nat} {v : Value} {l : List UInt8} (h : Bytes w base v l) : ∃ o c, v = .slice o l.length c := by
  rcases h.2 with ⟨rfl, h0⟩ | ⟨g, cap, cur, rfl, _⟩
  · exact ⟨_, _, by rw [h0]⟩
  · exact ⟨_, _, rfl⟩

set_option maxRecDepth 100000 in
set_option maxHeartbeats 400000 in
theorem expand_any (v : Value) (l : List Tok) (w : World) (h : Toks w v l) :
    Calls Tryz.prog 30 #[v] w fun e w' => e = .returned (.tuple #[.string ⟨(exp [] l).2.toArray⟩, .int .i64 (exp [] l).1]) ∧ Up w w' := by
  obtain ⟨o, c, rfl, h2, h3, h4⟩ := h
  unfold maxLen at h3
  generalize hR : exp [] l = R
  have HR := Lib.hid hR
  have H4 := Lib.hid h4
  clear hR h4
  go_enter Tryz.func30, Tryz.ntmps30
  go_wp2_with fail
  go_loopw [4, 10] (fun b i wr => ExpRel l R w b i wr) (fun _ i _ => l.length - (intOf i).toNat)
  case atStart => exact ⟨0, [], Nat.zero_le _, rfl, Nat.zero_le _, Bytes.nil _ _, HR.out, Up.refl w⟩
  case round =>
    obtain ⟨k, bl, hk, rfl, hbl, hby, hex, hu⟩ := hrel
    by_cases hlt : k < l.length
    · rcases H4.out with h5 | ⟨b, off, rfl, h5⟩
      · rw [h5] at hlt; simp at hlt
      · obtain ⟨a1, a2, a3⟩ := h5 k hlt
        rw [← hu.cell (World.block_lt_of_cell? w _ a1)] at a1
        rw [← hu.cell (World.block_lt_of_cell? w _ a2)] at a2
        rw [← hu.cell (World.block_lt_of_cell? w _ a3)] at a3
        rw [List.drop_eq_getElem_cons hlt, exp_cons] at hex
        obtain ⟨⟨td, tl, tb⟩, ht⟩ : ∃ t, l[k] = t := ⟨_, rfl⟩
        rw [ht] at a1 a2 a3 hex
        have HU := Lib.hid hu
        have HBY := Lib.hid hby
        have HEX := Lib.hid hex
        obtain ⟨ob, cb, rfl⟩ := hby.slice
        clear h5 ht hu hex hby
        have d1 : decide (k < l.length) = true := decide_eq_true hlt
        go_wp2_with fail
        refine (check_tok td tl tb bl.length _ hbl).mono ?_
        rintro e w1 ⟨rfl, u1⟩
        obtain ⟨c0, c1, c2⟩ := new_cells _ _ _ _ _ _ u1
        have u1' := Up.after _ _ _ u1
        have HBY1 := Lib.hid (HBY.out.up u1')
        have HU1 := Lib.hid (HU.out.trans u1')
        have hs1 := HU1.out.size
        clear u1 u1' a1 a2 a3
        have hex := HEX.out
        clear HEX
        obtain ⟨E, hE⟩ : ∃ E, err ⟨td, tl, tb⟩ bl.length = E := ⟨_, rfl⟩
        rw [hE] at hex ⊢
        by_cases h0 : E = 0
        · subst h0
          rw [if_pos rfl] at hex
          have HE := Lib.hid hE
          have HEX := Lib.hid hex
          clear hE hex
          go_wp2_with fail
          refine (apply_any _ bl w.heap.size ⟨td, tl, tb⟩ _ HBY1.out hs1 hbl HE.out).mono ?_
          rintro e w2 ⟨v', rfl, hb2, hbe2⟩
          have hal := app_length bl ⟨td, tl, tb⟩ ((err_cases _ _).1 HE.out).1
          have h600 : (app bl ⟨td, tl, tb⟩).length ≤ 600 := by
            have h3 := ((err_cases _ _).1 HE.out).2.2
            unfold siz at hal
            omega
          have hU2 : Up w w2 := Below.trans HU1.out hbe2
          have H1 := Lib.hid hb2
          have H2 := Lib.hid hU2
          have H3 := Lib.hid h600
          clear hb2 hbe2 hal h600 hU2 HBY HBY1
          go_wp2_with fail
          go_roundw
          case rel => exact ⟨k + 1, _, by omega, by go_num, H3.out, H1.out, HEX.out, H2.out⟩
          case measure => simp only [intOf]; omega
        · rw [if_neg h0] at hex
          subst hex
          have g0 : (E != 0) = true := by rw [bne_iff_ne]; exact h0
          clear hE
          go_wp2_with fail
          go_ret2
          exact ⟨rfl, HU1.out⟩
    · have d1 : decide (k < l.length) = false := decide_eq_false hlt
      rw [List.drop_of_length_le (by omega), exp_nil] at hex
      subst hex
      have hconv := hby.conv
      go_wp2_with fail
      go_ret2
      exact ⟨rfl, hu⟩

end Go.Proofs.YtloiciinmdmdkaaGreatDoor
