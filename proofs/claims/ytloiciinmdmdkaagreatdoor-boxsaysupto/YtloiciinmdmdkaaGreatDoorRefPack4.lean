/-
  What the reference's Tokens returns. Condition: a text of at most 4 * 10^12 bytes.
-/
import Derived.Test.YtloiciinmdmdkaaGreatDoorRefPack3
namespace Go.Proofs.YtloiciinmdmdkaaGreatDoor
open Go.RowKit
open Go.Proofs
open WoolLz WoolPack

set_option maxRecDepth 100000 in
set_option maxHeartbeats 4000000 in
theorem rTokens_any (s0 : List UInt8) (w : World) (hl : s0.length ≤ 4000000000000) :
    Calls Tryz.prog 21 #[.string (bs s0)] w (ToksPost w (toks s0)) := by
  cases hb : WoolBits.isB s0 with
  | false =>
    have HV : Hid (toks s0 = ([], 3)) := by show _ = _; unfold toks; rw [if_pos hb]
    have HB := Lib.hid hb
    clear hb
    go_enter Tryz.func21, Tryz.ntmps21
    go_wp2_with fail
    refine (rBits_any s0 _ (by omega)).mono ?_
    rintro e w1 ⟨rfl, rfl⟩
    rw [HB.out]
    go_wp2
    go_ret2
    exact ⟨.slice none 0 0, by rw [HV.out]; rfl, by rw [HV.out]; exact World.ownsRow_nil _ _ _ _, Up.refl _⟩
  | true =>
    have HV : Hid (toks s0 = if (rall s0).2 ≠ 0 then ([], ((rall s0).2 : Int)) else if (exp [] (rall s0).1).1 ≠ 0 then ([], (exp [] (rall s0).1).1) else ((rall s0).1, 0)) := by
      show _ = _
      unfold toks
      rw [if_neg (by rw [hb]; decide)]
    have HB := Lib.hid hb
    have HST : Hid (ToksRel s0 w (.string (bs s0)) (.slice none 0 0) w) := by
      refine ⟨s0, [], rfl, hb, joined_nil _ ?_, by simp, World.ownsRow_nil _ _ _ _, Up.refl _⟩
      by_cases h : (rall s0).2 = 0
      · exact .inr (.inl h)
      · exact .inr (.inr (rall_bad s0 hb h))
    obtain ⟨i0, hi, hz0, hz1, hz2⟩ := info_parts tokInfo
    have HI := Lib.hid hi
    have HZ0 := Lib.hid hz0
    have HZ1 := Lib.hid hz1
    have HZ2 := Lib.hid hz2
    clear hi hz0 hz1 hz2 hb
    go_enter Tryz.func21, Tryz.ntmps21
    go_wp2_with fail
    refine (rBits_any s0 _ (by omega)).mono ?_
    rintro e w1 ⟨rfl, rfl⟩
    rw [HB.out]
    go_wp2_with fail
    go_loopw [0, 4] (ToksRel s0 w) (fun t0 _ _ => match t0 with | .string s => s.size | _ => 0)
    case atStart => exact HST.out
    case round =>
      obtain ⟨s, pre, rfl, hsb, hj, hpl, hown, hu⟩ := hrel
      obtain ⟨oo, co, hshape, _⟩ := hown.toks
      subst hshape
      by_cases hs : s = []
      · subst hs
        rw [show bs [] = ⟨#[]⟩ from rfl]
        have hr0 : rall s0 = (pre, 0) := by
          rw [← hj, rall_nil]
          unfold joined
          rw [if_neg (by simp), List.append_nil]
        have HX := Lib.hid hown
        have HU := Lib.hid hu
        have HT := Lib.hid hown.toks
        have hv := HV.out
        rw [hr0, if_neg (by simp)] at hv
        obtain ⟨E, hE⟩ : ∃ E, (exp [] pre).1 = E := ⟨_, rfl⟩
        have hv2 : toks s0 = if E ≠ 0 then ([], E) else (pre, 0) := by rw [← hE]; exact hv
        have HE := Lib.hid hE
        clear hj hpl hown hu hr0 hv hE hsb HV
        by_cases h0 : E = 0
        · subst h0
          have HV2 : Hid (toks s0 = (pre, 0)) := by rw [if_neg (by simp)] at hv2; exact hv2
          clear hv2
          go_wp2_with fail
          refine (refExpand_any _ pre _ HT.out).mono ?_
          rintro e w2 ⟨rfl, u2⟩
          rw [HE.out]
          go_wp2
          go_ret2
          exact ⟨_, by rw [HV2.out]; rfl, by rw [HV2.out]; exact HX.out.up u2, HU.out.trans u2⟩
        · have HV2 : Hid (toks s0 = ([], E)) := by rw [if_pos h0] at hv2; exact hv2
          have g0 : (E != 0) = true := by rw [bne_iff_ne]; exact h0
          clear hv2 h0
          go_wp2_with fail
          refine (refExpand_any _ pre _ HT.out).mono ?_
          rintro e w2 ⟨rfl, u2⟩
          rw [HE.out]
          go_wp2
          go_ret2
          exact ⟨.slice none 0 0, by rw [HV2.out]; rfl, by rw [HV2.out]; exact World.ownsRow_nil _ _ _ _, HU.out.trans u2⟩
      · have hpos : 0 < s.length := List.length_pos_iff.2 hs
        have hne := not_empty s hpos
        have hi := index_bs s 0 hpos
        rw [show ((0 : Nat) : Int) = 0 from rfl] at hi
        have hsz := bs_size s
        rw [joined_step s pre hsb hs] at hj
        have hok := rtok_ok s hsb hs
        have HU := Lib.hid hu
        have HOWN := Lib.hid hown
        have hsl : s.length ≤ 4000000000000 := by omega
        by_cases h48 : s.head? = some 48
        · have hc0 : s[0].toNat = 48 := by
            cases s with
            | nil => simp at hpos
            | cons c r => simp at h48; rw [h48]; rfl
          rw [hc0, show ((48 : Nat) : Int) = 48 from rfl] at hi
          by_cases h9 : s.length < 9
          · have hr : rtok s = (⟨0, 0, 0⟩, 0, 7) := by unfold rtok; rw [if_pos h48, if_pos h9]
            rw [hr, if_pos (by simp)] at hj
            have HV2 : Hid (toks s0 = ([], 7)) := by
              have := HV.out
              rw [← hj, if_pos (by simp)] at this
              exact this
            obtain ⟨n, hn⟩ : ∃ n, s.length = n := ⟨_, rfl⟩
            rw [hn] at hsz h9 hpos
            clear hu hown hs hc0 h48 hr hj hok hsb hsl hpl HV hn
            go_wp2
            go_ret2
            exact ⟨.slice none 0 0, by rw [HV2.out]; rfl, by rw [HV2.out]; exact World.ownsRow_nil _ _ _ _, HU.out⟩
          · have hr : rtok s = (⟨0, 0, ((WoolBits.val 0 ((s.drop 1).take 8) : Nat) : Int)⟩, 9, 0) := by unfold rtok; rw [if_pos h48, if_neg h9]
            rw [hr] at hj
            have hj : joined (pre ++ [⟨0, 0, ((WoolBits.val 0 ((s.drop 1).take 8) : Nat) : Int)⟩]) (rall (s.drop 9)) = rall s0 := by
              rw [if_neg (by simp)] at hj; exact hj
            have hslc := slice_bs s 1 9 1 9 rfl rfl (by omega) (by omega)
            rw [show 9 - 1 = 8 from rfl] at hslc
            have hfrom := from_bs s 9 9 rfl (by omega)
            have hAb : WoolBits.isB ((s.drop 1).take 8) = true := WoolBits.isB_take _ _ (WoolBits.isB_drop _ _ hsb)
            have hAl : ((s.drop 1).take 8).length = 8 := by rw [List.length_take, List.length_drop]; omega
            have HDB := Lib.hid (WoolBits.isB_drop s 9 hsb)
            have hdl : (s.drop 9).length = s.length - 9 := List.length_drop
            have HSS : Hid ((bs (s.drop 9)).size < (bs s).size ∧ ∀ t : Tok, (pre ++ [t]).length + (s.drop 9).length ≤ s0.length) := by
              refine ⟨?_, fun t => ?_⟩
              · rw [bs_size, bs_size]; omega
              · rw [hdl, List.length_append, List.length_singleton]; omega
            obtain ⟨A, hA⟩ : ∃ A, (s.drop 1).take 8 = A := ⟨_, rfl⟩
            obtain ⟨R, hR⟩ : ∃ R, s.drop 9 = R := ⟨_, rfl⟩
            rw [hA] at hslc hAb hAl hj
            rw [hR] at hfrom HDB HSS hj
            have hbto := to_bytes A
            rw [hAl] at hbto
            have HJ := Lib.hid hj
            have HAB := Lib.hid hAb
            have HAL := Lib.hid hAl
            obtain ⟨n, hn⟩ : ∃ n, s.length = n := ⟨_, rfl⟩
            rw [hn] at hsz h9 hpos hpl
            have hpre : pre.length + 1 ≤ 4000000000000 := by omega
            clear hu hown hs hc0 h48 hr hj hok hsb hsl HV hn hA hR hAb hAl hdl
            go_wp2_with fail
            go_loop [10, 64] (ReadRel 0 A) (fun _ t64 => 8 - (RowKit.intOf t64).toNat)
            case atStart => exact ⟨0, by omega, rfl, rfl⟩
            case round =>
              obtain ⟨i, hi2, rfl, rfl⟩ := hrel
              rw [HAL.out] at hi2
              have hv := val_small 0 A i HAB.out (by omega) (by rw [HAL.out]; omega)
              by_cases hlt2 : i < 8
              · have hil : i < A.length := by rw [HAL.out]; exact hlt2
                have hcell := bworld_cell A wr i hil
                have hst := val_take 0 A i hil
                have hbit := bit_at A i hil HAB.out
                obtain ⟨y, hy⟩ : ∃ y, A[i].toNat = y := ⟨_, rfl⟩
                obtain ⟨V, hV⟩ : ∃ V, WoolBits.val 0 (A.take i) = V := ⟨_, rfl⟩
                rw [hy] at hcell hst hbit
                rw [hV] at hv hst
                rw [hV]
                have HSTT := Lib.hid hst
                have hand := and_one_u8 y hbit
                have hc2 : y - 48 ≤ 1 := by omega
                obtain ⟨x, hx⟩ : ∃ x, y - 48 = x := ⟨_, rfl⟩
                rw [hx] at hand HSTT hc2
                clear hst hy hV hbit hx
                go_wp2_with fail
                go_round
                case rel => exact ⟨i + 1, by rw [HAL.out]; omega, by go_num, by rw [HSTT.out]; go_num⟩
                case measure => simp [intOf]; omega
              · have ht : A.take i = A := List.take_of_length_le (by rw [HAL.out]; omega)
                rw [ht] at hv
                rw [ht]
                obtain ⟨V, hV⟩ : ∃ V, WoolBits.val 0 A = V := ⟨_, rfl⟩
                rw [hV] at hv HJ
                rw [hV]
                have HO1 := Lib.hid (HOWN.out.up (bworld_up A wr))
                have HU1 := Lib.hid (HU.out.trans (bworld_up A wr))
                have hs1 := HU1.out.size
                have HC3 := Lib.hid (cell_three_new (bworld A wr) (.int .i64 0) (.int .i64 0) (.int .i64 (V : Int)) 55)
                clear ht hV
                go_wp2_with (at_builtin; refine wpList_append_own _ rfl _ _ 37 rfl w.heap.size 55 i0 (.agg #[.int .i64 0, .int .i64 0, .int .i64 0]) 3 24 Tryz.underlying37 HI.out HZ0.out HZ1.out HZ2.out rfl (by decide) _ _ _ rfl (World.ownsRow.alloc HO1.out _) ⟨(bworld A wr).heap.size, 0, none⟩ 1 1 [.int .i64 0, .int .i64 0, .int .i64 (V : Int)] rfl rfl HC3.out (by simp [Value.oneCell']) (by unfold maxLen; omega) (by omega) (by simp; omega) ?_; intro v' w3 hown3 hgrow _)
                obtain ⟨hot, hu3⟩ := OToks.more (t := ⟨0, 0, (V : Int)⟩) HU1.out HO1.out hown3 hgrow
                have H1 := Lib.hid hot
                have H2 := Lib.hid hu3
                clear hot hu3 hown3 hgrow
                go_wp2_with fail
                go_roundw
                case rel => exact ⟨R, _, rfl, HDB.out, HJ.out, HSS.out.2 _, H1.out, H2.out⟩
                case measure => exact HSS.out.1
        · have hc0 : s[0].toNat = 49 := by
            cases s with
            | nil => simp at hpos
            | cons c r =>
              rcases (WoolBits.isB_iff _).1 hsb c (List.mem_cons_self ..) with rfl | rfl
              · exact absurd rfl h48
              · rfl
          rw [hc0, show ((49 : Nat) : Int) = 49 from rfl] at hi
          have hf1 := from_bs s 1 1 rfl (by omega)
          have hR1l : (s.drop 1).length = s.length - 1 := List.length_drop
          obtain ⟨k1, hk1⟩ : ∃ k, (WoolBits.rg (s.drop 1)).1 = k := ⟨_, rfl⟩
          obtain ⟨u1, hu1⟩ : ∃ u, (WoolBits.rg (s.drop 1)).2.1 = u := ⟨_, rfl⟩
          obtain ⟨x1, hx1⟩ : ∃ x, (WoolBits.rg (s.drop 1)).2.2 = x := ⟨_, rfl⟩
          have HG1 : Hid (three (WoolBits.rg (s.drop 1)) = .tuple #[.int .i64 (k1 : Int), .int .i64 (u1 : Int), .int .i64 (x1 : Int)]) := by
            show three _ = _
            unfold three
            rw [hk1, hu1, hx1]
          have hr : rtok s = if x1 ≠ 0 then (⟨0, 0, 0⟩, 0, x1) else if (WoolBits.rg (s.drop (1 + u1))).2.2 ≠ 0 then (⟨0, 0, 0⟩, 0, (WoolBits.rg (s.drop (1 + u1))).2.2)
              else (⟨(k1 : Int), ((WoolBits.rg (s.drop (1 + u1))).1 : Int), 0⟩, 1 + u1 + (WoolBits.rg (s.drop (1 + u1))).2.1, 0) := by
            unfold rtok
            rw [if_neg h48, hk1, hu1, hx1]
          by_cases hx : x1 = 0
          · obtain ⟨p1, p2, p3, p4, p5⟩ := WoolBits.rg_pos (s.drop 1) (by rw [hx1]; exact hx)
            rw [hu1] at p3 p4 p5
            rw [hk1] at p1 p2
            rw [hR1l] at p5
            subst hx
            rw [if_neg (by simp)] at hr
            have hf2 := from_bs s (1 + (u1 : Int)) (1 + u1) (by omega) (by omega)
            have hR2l : (s.drop (1 + u1)).length = s.length - (1 + u1) := List.length_drop
            obtain ⟨k2, hk2⟩ : ∃ k, (WoolBits.rg (s.drop (1 + u1))).1 = k := ⟨_, rfl⟩
            obtain ⟨u2, hu2⟩ : ∃ u, (WoolBits.rg (s.drop (1 + u1))).2.1 = u := ⟨_, rfl⟩
            obtain ⟨x2, hx2⟩ : ∃ x, (WoolBits.rg (s.drop (1 + u1))).2.2 = x := ⟨_, rfl⟩
            have HG2 : Hid (three (WoolBits.rg (s.drop (1 + u1))) = .tuple #[.int .i64 (k2 : Int), .int .i64 (u2 : Int), .int .i64 (x2 : Int)]) := by
              show three _ = _
              unfold three
              rw [hk2, hu2, hx2]
            rw [hk2, hu2, hx2] at hr
            have hp2 : x2 = 0 → u2 ≤ 61 ∧ u2 ≤ s.length - (1 + u1) := fun h => by
              have := (WoolBits.rg_pos (s.drop (1 + u1)) (by rw [hx2]; exact h)).2.2.2
              rw [hu2, hR2l] at this
              exact this
            by_cases hy : x2 = 0
            · obtain ⟨q4, q5⟩ := hp2 hy
              subst hy
              rw [if_neg (by simp)] at hr
              rw [hr] at hj
              have hj : joined (pre ++ [⟨(k1 : Int), (k2 : Int), 0⟩]) (rall (s.drop (1 + u1 + u2))) = rall s0 := by
                rw [if_neg (by simp)] at hj; exact hj
              have hfrom := from_bs s (1 + (u1 : Int) + (u2 : Int)) (1 + u1 + u2) (by omega) (by omega)
              have HDB := Lib.hid (WoolBits.isB_drop s (1 + u1 + u2) hsb)
              have hdl : (s.drop (1 + u1 + u2)).length = s.length - (1 + u1 + u2) := List.length_drop
              have HSS : Hid ((bs (s.drop (1 + u1 + u2))).size < (bs s).size ∧ ∀ t : Tok, (pre ++ [t]).length + (s.drop (1 + u1 + u2)).length ≤ s0.length) := by
                refine ⟨?_, fun t => ?_⟩
                · rw [bs_size, bs_size]; omega
                · rw [hdl, List.length_append, List.length_singleton]; omega
              obtain ⟨A, hA⟩ : ∃ A, s.drop 1 = A := ⟨_, rfl⟩
              obtain ⟨B, hB⟩ : ∃ B, s.drop (1 + u1) = B := ⟨_, rfl⟩
              obtain ⟨R, hR⟩ : ∃ R, s.drop (1 + u1 + u2) = R := ⟨_, rfl⟩
              rw [hA] at hf1 hR1l HG1
              rw [hB] at hf2 hR2l HG2
              rw [hR] at hfrom HDB HSS hj
              have HJ := Lib.hid hj
              have HAL : Hid (A.length ≤ 281474976710656) := by show A.length ≤ 281474976710656; omega
              have HBL : Hid (B.length ≤ 281474976710656) := by show B.length ≤ 281474976710656; omega
              obtain ⟨n, hn⟩ : ∃ n, s.length = n := ⟨_, rfl⟩
              rw [hn] at hsz hpos hpl p5 q5 hsl
              have hpre : pre.length + 1 ≤ 4000000000000 := by omega
              clear hu hown hs hc0 h48 hr hj hok hsb HV hn hA hB hR hdl hR1l hR2l hp2 hk1 hu1 hx1 hk2 hu2 hx2
              go_wp2_with fail
              refine (rGammaOf_any A _ HAL.out).mono ?_
              rintro e w2 ⟨rfl, v2⟩
              rw [HG1.out]
              go_wp2_with fail
              refine (rGammaOf_any B _ HBL.out).mono ?_
              rintro e w3 ⟨rfl, v3⟩
              rw [HG2.out]
              have HO1 := Lib.hid (HOWN.out.up (v2.trans v3))
              have HU1 := Lib.hid (HU.out.trans (v2.trans v3))
              have hs1 := HU1.out.size
              have HC3 := Lib.hid (cell_three_new w3 (.int .i64 (k1 : Int)) (.int .i64 (k2 : Int)) (.int .i64 0) 55)
              clear v2 v3
              go_wp2_with (at_builtin; refine wpList_append_own _ rfl _ _ 37 rfl w.heap.size 55 i0 (.agg #[.int .i64 0, .int .i64 0, .int .i64 0]) 3 24 Tryz.underlying37 HI.out HZ0.out HZ1.out HZ2.out rfl (by decide) _ _ _ rfl (World.ownsRow.alloc HO1.out _) ⟨w3.heap.size, 0, none⟩ 1 1 [.int .i64 (k1 : Int), .int .i64 (k2 : Int), .int .i64 0] rfl rfl HC3.out (by simp [Value.oneCell']) (by unfold maxLen; omega) (by omega) (by simp; omega) ?_; intro v' w4 hown3 hgrow _)
              obtain ⟨hot, hu3⟩ := OToks.more (t := ⟨(k1 : Int), (k2 : Int), 0⟩) HU1.out HO1.out hown3 hgrow
              have H1 := Lib.hid hot
              have H2 := Lib.hid hu3
              clear hot hu3 hown3 hgrow
              go_wp2_with fail
              go_roundw
              case rel => exact ⟨R, _, rfl, HDB.out, HJ.out, HSS.out.2 _, H1.out, H2.out⟩
              case measure => exact HSS.out.1
            · rw [if_pos hy] at hr
              rw [hr, if_pos hy] at hj
              have HV2 : Hid (toks s0 = ([], (x2 : Int))) := by
                have := HV.out
                rw [← hj, if_pos hy] at this
                exact this
              have hy0 : ((x2 : Int) == 0) = false := by simp; omega
              have hy1 : ((x2 : Int) != 0) = true := by simp; omega
              obtain ⟨A, hA⟩ : ∃ A, s.drop 1 = A := ⟨_, rfl⟩
              obtain ⟨B, hB⟩ : ∃ B, s.drop (1 + u1) = B := ⟨_, rfl⟩
              rw [hA] at hf1 hR1l HG1
              rw [hB] at hf2 hR2l HG2
              have HAL : Hid (A.length ≤ 281474976710656) := by show A.length ≤ 281474976710656; omega
              have HBL : Hid (B.length ≤ 281474976710656) := by show B.length ≤ 281474976710656; omega
              obtain ⟨n, hn⟩ : ∃ n, s.length = n := ⟨_, rfl⟩
              rw [hn] at hsz hpos hpl p5 hsl
              clear hu hown hs hc0 h48 hr hj hok hsb HV hn hA hB hR1l hR2l hp2 hk1 hu1 hx1 hk2 hu2 hx2 hy
              go_wp2_with fail
              refine (rGammaOf_any A _ HAL.out).mono ?_
              rintro e w2 ⟨rfl, v2⟩
              rw [HG1.out]
              go_wp2_with fail
              refine (rGammaOf_any B _ HBL.out).mono ?_
              rintro e w3 ⟨rfl, v3⟩
              rw [HG2.out]
              go_wp2
              go_ret2
              exact ⟨.slice none 0 0, by rw [HV2.out]; rfl, by rw [HV2.out]; exact World.ownsRow_nil _ _ _ _, (HU.out.trans v2).trans v3⟩
          · rw [if_pos hx] at hr
            rw [hr, if_pos hx] at hj
            have HV2 : Hid (toks s0 = ([], (x1 : Int))) := by
              have := HV.out
              rw [← hj, if_pos hx] at this
              exact this
            have hy0 : ((x1 : Int) == 0) = false := by simp; omega
            have hy1 : ((x1 : Int) != 0) = true := by simp; omega
            obtain ⟨A, hA⟩ : ∃ A, s.drop 1 = A := ⟨_, rfl⟩
            rw [hA] at hf1 hR1l HG1
            have HAL : Hid (A.length ≤ 281474976710656) := by show A.length ≤ 281474976710656; omega
            obtain ⟨n, hn⟩ : ∃ n, s.length = n := ⟨_, rfl⟩
            rw [hn] at hsz hpos hpl hsl
            clear hu hown hs hc0 h48 hr hj hok hsb HV hn hA hR1l hk1 hu1 hx1 hx
            go_wp2_with fail
            refine (rGammaOf_any A _ HAL.out).mono ?_
            rintro e w2 ⟨rfl, v2⟩
            rw [HG1.out]
            go_wp2
            go_ret2
            exact ⟨.slice none 0 0, by rw [HV2.out]; rfl, by rw [HV2.out]; exact World.ownsRow_nil _ _ _ _, HU.out.trans v2⟩

end Go.Proofs.YtloiciinmdmdkaaGreatDoor
