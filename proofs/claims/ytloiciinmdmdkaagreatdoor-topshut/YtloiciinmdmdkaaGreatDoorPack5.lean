/-
  What pack's Tokens returns: the tokens that bits stand for, in new memory, or the error. Condition: a text of at most 4 * 10^12 bytes.
-/
import Derived.Test.YtloiciinmdmdkaaGreatDoorPack4
import Derived.Test.YtloiciinmdmdkaaGreatDoorOTok
namespace Go.Proofs.YtloiciinmdmdkaaGreatDoor
open Go.RowKit
open Go.Proofs
open WoolLz WoolPack

/-- the tokens of a text, and the error -/
def toks (s : List UInt8) : List Tok × Int :=
  if WoolBits.isB s = false then ([], 3) else if (rall s).2 ≠ 0 then ([], ((rall s).2 : Int)) else if (exp [] (rall s).1).1 ≠ 0 then ([], (exp [] (rall s).1).1) else ((rall s).1, 0)

def ToksPost (w : World) (x : List Tok × Int) (e : Ending) (w' : World) : Prop :=
  ∃ v, e = .returned (.tuple #[v, .int .i64 x.2]) ∧ OToks w' w.heap.size v x.1 ∧ Up w w'

/-- what is read so far, and what is left -/
def joined (pre : List Tok) (r : List Tok × Nat) : List Tok × Nat := if r.2 ≠ 0 then ([], r.2) else (pre ++ r.1, 0)

def ToksRel (s0 : List UInt8) (w : World) (t0 t4 : Value) (wr : World) : Prop :=
  ∃ (s : List UInt8) (pre : List Tok), t0 = .string (bs s) ∧ WoolBits.isB s = true ∧ joined pre (rall s) = rall s0 ∧ pre.length + s.length ≤ s0.length ∧ OToks wr w.heap.size t4 pre ∧ Up w wr

theorem joined_nil (r : List Tok × Nat) (h : r = ([], 0) ∨ r.2 = 0 ∨ r.1 = []) : joined [] r = r := by
  obtain ⟨a, b⟩ := r
  unfold joined
  by_cases hb : b = 0
  · subst hb; simp
  · rcases h with h | h | h
    · exact absurd (congrArg Prod.snd h) hb
    · exact absurd h hb
    · have : a = [] := h
      subst this
      simp [hb]

theorem rall_bad (s : List UInt8) (hb : WoolBits.isB s = true) (h : (rall s).2 ≠ 0) : (rall s).1 = [] := by
  by_cases hs : s = []
  · subst hs; rfl
  · rw [rall_step s hb hs] at h ⊢
    split
    · rfl
    · split
      · rfl
      · rename_i h1 h2
        rw [if_neg h1, if_neg h2] at h
        exact absurd rfl h

theorem joined_step (s : List UInt8) (pre : List Tok) (hb : WoolBits.isB s = true) (hs : s ≠ []) :
    joined pre (rall s) = if (rtok s).2.2 ≠ 0 then ([], (rtok s).2.2) else joined (pre ++ [(rtok s).1]) (rall (s.drop (rtok s).2.1)) := by
  rw [rall_step s hb hs]
  by_cases h1 : (rtok s).2.2 = 0
  · have e1 : ¬ (rtok s).2.2 ≠ 0 := fun h => h h1
    rw [if_neg e1, if_neg e1]
    by_cases h2 : (rall (s.drop (rtok s).2.1)).2 = 0
    · have e2 : ¬ (rall (s.drop (rtok s).2.1)).2 ≠ 0 := fun h => h h2
      rw [if_neg e2]
      unfold joined
      rw [if_neg e2, if_neg (by simp), List.append_assoc]
      rfl
    · rw [if_pos h2]
      unfold joined
      rw [if_pos h2, if_pos h2]
  · rw [if_pos h1, if_pos h1]
    unfold joined
    rw [if_pos h1]

set_option maxRecDepth 100000 in
set_option maxHeartbeats 2000000 in
theorem tokens_any (s0 : List UInt8) (w : World) (hl : s0.length ≤ 4000000000000) :
    Calls Tryz.prog 66 #[.string (bs s0)] w (ToksPost w (toks s0)) := by
  cases hb : WoolBits.isB s0 with
  | false =>
    have HV : Hid (toks s0 = ([], 3)) := by show _ = _; unfold toks; rw [if_pos hb]
    have HB := Lib.hid hb
    clear hb
    go_enter Tryz.func66, Tryz.ntmps66
    go_wp2_with fail
    refine (isBitsP_any s0 _ (by omega)).mono ?_
    rintro e w1 ⟨rfl, rfl⟩
    rw [HB.out]
    go_wp2
    go_ret2
    exact ⟨.slice none 0 0, by rw [HV.out]; rfl, by rw [HV.out]; exact World.ownsRow_nil _ _ _ _, Up.refl _⟩
  | true =>
    have HV : Hid (toks s0 = if (rall s0).2 ≠ 0 then ([], ((rall s0).2 : Int)) else if (exp [] (rall s0).1).1 ≠ 0 then ([], (exp [] (rall s0).1).1) else ((rall s0).1, 0)) := by
      show _ = _
      unfold toks
      rw [if_neg (by rw [hb]; decide)]
    have HB := Lib.hid hb
    have HST : Hid (ToksRel s0 w (.string (bs s0)) (.slice none 0 0) w) := by
      refine ⟨s0, [], rfl, hb, joined_nil _ ?_, by simp, World.ownsRow_nil _ _ _ _, Up.refl _⟩
      by_cases h : (rall s0).2 = 0
      · exact .inr (.inl h)
      · exact .inr (.inr (rall_bad s0 hb h))
    obtain ⟨i0, hi, hz0, hz1, hz2⟩ := info_parts tokInfo
    have HI := Lib.hid hi
    have HZ0 := Lib.hid hz0
    have HZ1 := Lib.hid hz1
    have HZ2 := Lib.hid hz2
    clear hi hz0 hz1 hz2 hb
    go_enter Tryz.func66, Tryz.ntmps66
    go_wp2_with fail
    refine (isBitsP_any s0 _ (by omega)).mono ?_
    rintro e w1 ⟨rfl, rfl⟩
    rw [HB.out]
    go_wp2_with fail
    go_loopw [0, 4] (ToksRel s0 w) (fun t0 _ _ => match t0 with | .string s => s.size | _ => 0)
    case atStart => exact HST.out
    case round =>
      obtain ⟨s, pre, rfl, hsb, hj, hpl, hown, hu⟩ := hrel
      obtain ⟨oo, co, hshape, _⟩ := hown.toks
      subst hshape
      by_cases hs : s = []
      · subst hs
        rw [show bs [] = ⟨#[]⟩ from rfl]
        have hr0 : rall s0 = (pre, 0) := by
          rw [← hj, rall_nil]
          unfold joined
          rw [if_neg (by simp), List.append_nil]
        have HX := Lib.hid hown
        have HU := Lib.hid hu
        have HT := Lib.hid hown.toks
        have hv := HV.out
        rw [hr0, if_neg (by simp)] at hv
        obtain ⟨E, hE⟩ : ∃ E, (exp [] pre).1 = E := ⟨_, rfl⟩
        have hv2 : toks s0 = if E ≠ 0 then ([], E) else (pre, 0) := by rw [← hE]; exact hv
        have HE := Lib.hid hE
        clear hj hpl hown hu hr0 hv hE hsb HV
        by_cases h0 : E = 0
        · subst h0
          have HV2 : Hid (toks s0 = (pre, 0)) := by rw [if_neg (by simp)] at hv2; exact hv2
          clear hv2
          go_wp2_with fail
          refine (expand_any _ pre _ HT.out).mono ?_
          rintro e w2 ⟨rfl, u2⟩
          rw [HE.out]
          go_wp2
          go_ret2
          exact ⟨_, by rw [HV2.out]; rfl, by rw [HV2.out]; exact HX.out.up u2, HU.out.trans u2⟩
        · have HV2 : Hid (toks s0 = ([], E)) := by rw [if_pos h0] at hv2; exact hv2
          have g0 : (E != 0) = true := by rw [bne_iff_ne]; exact h0
          clear hv2 h0
          go_wp2_with fail
          refine (expand_any _ pre _ HT.out).mono ?_
          rintro e w2 ⟨rfl, u2⟩
          rw [HE.out]
          go_wp2
          go_ret2
          exact ⟨.slice none 0 0, by rw [HV2.out]; rfl, by rw [HV2.out]; exact World.ownsRow_nil _ _ _ _, HU.out.trans u2⟩
      · have hne := not_empty s (List.length_pos_iff.2 hs)
        rw [joined_step s pre hsb hs] at hj
        have hok := rtok_ok s hsb hs
        have HF : Hid (tokV (rtok s) = .tuple #[.agg #[.int .i64 (rtok s).1.d, .int .i64 (rtok s).1.l, .int .i64 (rtok s).1.b], .int .i64 ((rtok s).2.1 : Int), .int .i64 ((rtok s).2.2 : Int)]) := rfl
        have HSB := Lib.hid hsb
        have HS := Lib.hid hs
        have HU := Lib.hid hu
        have HOWN := Lib.hid hown
        have hsl : s.length ≤ 4000000000000 := by omega
        clear hu hown hs
        obtain ⟨td, htd⟩ : ∃ d, (rtok s).1.d = d := ⟨_, rfl⟩
        obtain ⟨tl, htl⟩ : ∃ d, (rtok s).1.l = d := ⟨_, rfl⟩
        obtain ⟨tb, htb⟩ : ∃ d, (rtok s).1.b = d := ⟨_, rfl⟩
        obtain ⟨n, hn⟩ : ∃ d, (rtok s).2.1 = d := ⟨_, rfl⟩
        obtain ⟨x, hx⟩ : ∃ d, (rtok s).2.2 = d := ⟨_, rfl⟩
        have hT : (rtok s).1 = ⟨td, tl, tb⟩ := by
          rw [← htd, ← htl, ← htb]
        rw [htd, htl, htb, hn, hx] at HF
        rw [hx, hn, hT] at hj
        rw [hx, hn] at hok
        clear htd htl htb hT hn hx
        by_cases h0 : x = 0
        · subst h0
          obtain ⟨n1, n2, _⟩ := hok rfl
          rw [if_neg (by simp)] at hj
          have hfrom := from_bs s (n : Int) n rfl n2
          have HJ := Lib.hid hj
          have HDB := Lib.hid (WoolBits.isB_drop s n hsb)
          have hdl : (s.drop n).length = s.length - n := List.length_drop
          have HSS : Hid ((bs (s.drop n)).size < (bs s).size ∧ (pre ++ [(⟨td, tl, tb⟩ : Tok)]).length + (s.drop n).length ≤ s0.length) := by
            refine ⟨?_, ?_⟩
            · rw [bs_size, bs_size]; omega
            · rw [hdl, List.length_append, List.length_singleton]; omega
          obtain ⟨R, hR⟩ : ∃ R, s.drop n = R := ⟨_, rfl⟩
          rw [hR] at hfrom HJ HDB HSS
          have hsz := bs_size s
          have HSL := Lib.hid hsl
          obtain ⟨m, hm⟩ : ∃ m, s.length = m := ⟨_, rfl⟩
          rw [hm] at hsz n2 hpl
          have hpre : pre.length + 1 ≤ 4000000000000 := by omega
          clear hok hj hsb hdl hR hm hsl
          go_wp2_with fail
          refine (readToken_any s _ (by have := HSL.out; omega) HSB.out HS.out).mono ?_
          rintro e w2 ⟨rfl, u2⟩
          rw [HF.out]
          have HO1 := Lib.hid ((HOWN.out.up u2).up (Up.alloc w2 (.cells #[.int .i64 td, .int .i64 tl, .int .i64 tb] 55)))
          have HU1 := Lib.hid ((HU.out.trans u2).trans (Up.alloc w2 (.cells #[.int .i64 td, .int .i64 tl, .int .i64 tb] 55)))
          have hs1 := HU1.out.size
          rw [World.size_alloc] at hs1
          have hc3 := cell_three_new (w2.alloc (.cells #[.int .i64 td, .int .i64 tl, .int .i64 tb] 55)) (.int .i64 td) (.int .i64 tl) (.int .i64 tb) 55
          rw [World.size_alloc] at hc3
          have HC3 := Lib.hid hc3
          clear u2 HOWN HU hc3
          go_wp2_with (at_builtin; refine wpList_append_own _ rfl _ _ 37 rfl w.heap.size 55 i0 (.agg #[.int .i64 0, .int .i64 0, .int .i64 0]) 3 24 Tryz.underlying37 HI.out HZ0.out HZ1.out HZ2.out rfl (by decide) _ _ _ rfl (World.ownsRow.alloc HO1.out _) ⟨w2.heap.size + 1, 0, none⟩ 1 1 [.int .i64 td, .int .i64 tl, .int .i64 tb] rfl rfl HC3.out (by simp [Value.oneCell']) (by unfold maxLen; omega) (by omega) (by simp; omega) ?_; intro v' w3 hown3 hgrow _)
          obtain ⟨hot, hu3⟩ := OToks.more (t := ⟨td, tl, tb⟩) HU1.out HO1.out hown3 hgrow
          have H1 := Lib.hid hot
          have H2 := Lib.hid hu3
          clear hot hu3 hown3 hgrow
          go_wp2_with fail
          go_roundw
          case rel => exact ⟨R, _, rfl, HDB.out, HJ.out, HSS.out.2, H1.out, H2.out⟩
          case measure => exact HSS.out.1
        · rw [if_pos h0] at hj
          have HV2 : Hid (toks s0 = ([], (x : Int))) := by
            have := HV.out
            rw [← hj, if_pos h0] at this
            exact this
          have hx0 : ((x : Int) == 0) = false := by simp; omega
          have hx1 : ((x : Int) != 0) = true := by simp; omega
          have HSL := Lib.hid hsl
          clear hok hj hsb h0 hsl hpl HV
          go_wp2_with fail
          refine (readToken_any s _ (by have := HSL.out; omega) HSB.out HS.out).mono ?_
          rintro e w2 ⟨rfl, u2⟩
          rw [HF.out]
          go_wp2
          go_ret2
          exact ⟨.slice none 0 0, by rw [HV2.out]; rfl, by rw [HV2.out]; exact World.ownsRow_nil _ _ _ _, (HU.out.trans u2).trans (Up.alloc _ _)⟩

end Go.Proofs.YtloiciinmdmdkaaGreatDoor
