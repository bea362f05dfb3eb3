/-
  What slices.Concat returns at two rows of tokens: a new row of the two, one behind the other. Conditions: both rows can be read, and take together at most 2^48 bytes.
-/
import Derived.Test.YtbcebfjnpeacnaaTokCat
namespace Go.Proofs.Ytbcebfjnpeacnaa
open Go.RowKit
open Go.Proofs
open WoolLz

def GrewPost (n : Nat) (w : World) (e : Ending) (w' : World) : Prop := ∃ v, e = .returned v ∧ CatRow w' w.heap.size n v [] ∧ Up w w'

theorem grow_any (n : Nat) (i : Int) (w : World) (hi : i = (n : Int)) (h : n * 24 ≤ 281474976710656) :
    Calls Try.prog 30 #[.slice none 0 0, .int .i64 i] w (GrewPost n w) := by
  subst hi
  rcases Nat.eq_zero_or_pos n with h0 | h0
  · subst h0
    refine (grow_none w).mono ?_
    rintro e w' ⟨rfl, rfl⟩
    exact ⟨_, rfl, .inl ⟨rfl, rfl, rfl⟩, Up.refl _⟩
  · refine (grow_nil n w h0 h).mono ?_
    rintro e w' ⟨G, rfl, hG, hown, hu⟩
    exact ⟨_, rfl, .inr ⟨_, G, rfl, hG, hown⟩, hu⟩

theorem CatRow.shape {w : World} {base N : Nat} {v : Value} {xs : List Tok} (h : CatRow w base N v xs) : ∃ o c, v = .slice o xs.length c := by
  rcases h with ⟨_, rfl, rfl⟩ | ⟨g, G, rfl, _⟩
  · exact ⟨_, _, rfl⟩
  · exact ⟨_, _, rfl⟩

set_option maxRecDepth 100000 in
set_option maxHeartbeats 1000000 in
theorem concat_any (B : Nat) (o1 o2 : Option Addr) (n1 c1 n2 c2 : Nat) (l m : List Tok) (w : World) (h1 : Toks w (.slice o1 n1 c1) l) (h2 : Toks w (.slice o2 n2 c2) m)
    (e1 : w.cell? ⟨B, 0, none⟩ = some (.slice o1 n1 c1)) (e2 : w.cell? ⟨B, 1, none⟩ = some (.slice o2 n2 c2)) (hb : (l.length + m.length) * 24 ≤ 281474976710656) :
    Calls Try.prog 21 #[.slice (some ⟨B, 0, none⟩) 2 2] w (CatPost l m w) := by
  have hn1 : n1 = l.length := by
    obtain ⟨_, _, hv, _⟩ := h1
    simp only [Value.slice.injEq] at hv
    exact hv.2.1
  have hn2 : n2 = m.length := by
    obtain ⟨_, _, hv, _⟩ := h2
    simp only [Value.slice.injEq] at hv
    exact hv.2.1
  subst hn1 hn2
  have H1 := Lib.hid h1
  have H2 := Lib.hid h2
  have E1 := Lib.hid e1
  have E2 := Lib.hid e2
  obtain ⟨a, ha⟩ : ∃ a, l.length = a := ⟨_, rfl⟩
  obtain ⟨b, hbb⟩ : ∃ b, m.length = b := ⟨_, rfl⟩
  have HA := Lib.hid ha
  have HB := Lib.hid hbb
  rw [ha] at e1 hb
  rw [hbb] at e2 hb
  rw [ha] at H1 E1
  rw [hbb] at H2 E2
  clear h1 h2 ha hbb
  go_enter Try.func21, Try.ntmps21
  go_wp2_with fail
  go_loop [3, 11] (fun s i => SumRel a b s i) (fun _ i => 2 - (intOf i).toNat)
  case atStart => exact .inl ⟨rfl, rfl⟩
  case round =>
    rcases hrel with ⟨rfl, rfl⟩ | ⟨rfl, rfl⟩ | ⟨rfl, rfl⟩
    · go_wp2_with fail
      go_round
      case rel => exact .inr (.inl ⟨rfl, rfl⟩)
      case measure => simp only [intOf]; omega
    · go_wp2_with fail
      go_round
      case rel => exact .inr (.inr ⟨rfl, rfl⟩)
      case measure => simp only [intOf]; omega
    · go_wp2_with fail
      clear e1 e2
      refine (grow_any (a + b) _ _ (by omega) hb).mono ?_
      rintro e w1 ⟨v1, rfl, hr1, u1⟩
      have HR1 := Lib.hid hr1
      have U1 := Lib.hid u1
      clear hr1 u1
      go_wp2_with fail
      go_loopw [6, 27] (fun v i wr => CatRel l m w v i wr) (fun _ i _ => 2 - (intOf i).toNat)
      case atStart => exact ⟨U1.out, .inl ⟨rfl, by rw [HA.out, HB.out]; exact HR1.out⟩⟩
      case round =>
        obtain ⟨hu, hrel⟩ := hrel
        have f1 := E1.out
        have f2 := E2.out
        rw [← hu.cell (World.block_lt_of_cell? w _ f1)] at f1
        rw [← hu.cell (World.block_lt_of_cell? w _ f2)] at f2
        have HU := Lib.hid hu
        rcases hrel with ⟨rfl, hr⟩ | ⟨rfl, hr⟩ | ⟨rfl, hr⟩
        · obtain ⟨v', w', hrun, hr', hu'⟩ := hr.more 28 hu (H1.out.up hu) (by rw [List.length_nil]; omega)
          have HR := Lib.hid hr'
          have HU' := Lib.hid hu'
          clear hr hu hr' hu'
          go_wp2_with (at_builtin; refine wpList_append_run _ rfl _ _ #[28, 28] rfl _ _ _ _ rfl rfl hrun ?_)
          go_roundw
          case rel => exact ⟨HU'.out, .inr (.inl ⟨rfl, by have := HR.out; rw [List.nil_append] at this; exact this⟩)⟩
          case measure => simp only [intOf]; omega
        · obtain ⟨v', w', hrun, hr', hu'⟩ := hr.more 28 hu (H2.out.up hu) (Nat.le_refl _)
          have HR := Lib.hid hr'
          have HU' := Lib.hid hu'
          clear hr hu hr' hu'
          go_wp2_with (at_builtin; refine wpList_append_run _ rfl _ _ #[28, 28] rfl _ _ _ _ rfl rfl hrun ?_)
          go_roundw
          case rel => exact ⟨HU'.out, .inr (.inr ⟨rfl, HR.out⟩)⟩
          case measure => simp only [intOf]; omega
        · have HR := Lib.hid hr.toks
          clear hr hu
          go_wp2_with fail
          go_ret
          exact ⟨_, rfl, HR.out, HU.out⟩

end Go.Proofs.Ytbcebfjnpeacnaa
