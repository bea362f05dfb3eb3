/-
  The law LogPlays: whatever is handed in, Log and Replay answer what the document says. Conditions: a slice of deeds that reads as deeds, a text that fits in memory.
-/
import Derived.Test.YtbeigaanlhaolaaGreatDoorJB43
import Derived.Test.YtbeigaanlhaolaaGreatDoorJB44
namespace Go.Proofs.YtbeigaanlhaolaaGreatDoor
open Go.RowKit
open Go.Proofs
open WoolBag
open WoolVol

def PlyLoop (l : List Opn) (E : Int) (w : World) (want all i : Value) (wr : World) : Prop :=
  ∃ k : Nat, k ≤ l.length ∧ i = .int .i64 (k : Int) ∧ Up w wr ∧ ((want = .int .i64 0 ∧ l.length ≤ 200 ∧ (∀ o ∈ l.take k, chkO o = 0) ∧ all = .string (bs (logG (frm 1) (l.take k)))) ∨ (E ≠ 0 ∧ want = .int .i64 E ∧ ∃ A, all = .string A))

theorem logV_err {l : List Opn} (h : (logV l).2 ≠ 0) : (logV l).1 = [] := by
  unfold logV at h ⊢
  by_cases h1 : 200 < l.length
  · rw [if_pos h1]
  · rw [if_neg h1] at h ⊢
    by_cases h2 : logE l ≠ 0
    · rw [if_pos h2]
    · rw [if_neg h2] at h; exact absurd rfl h

theorem logV_at {l : List Opn} {k : Nat} (hl : l.length ≤ 200) (h : k < l.length) (ha : ∀ o ∈ l.take k, chkO o = 0) (hc : chkO l[k] ≠ 0) : (logV l).2 = chkO l[k] := by
  have h9 := logE_at l k h ha hc
  unfold logV
  rw [if_neg (by omega), if_pos (by rw [h9]; exact hc)]
  exact h9

theorem logV_big {l : List Opn} (hl : 200 < l.length) : (logV l).2 = 2 := by
  unfold logV
  rw [if_pos hl]

set_option maxRecDepth 100000 in
set_option maxHeartbeats 4000000 in
theorem logPlays_walk (a0 : Option Addr) (len0 cap0 : Nat) (z0 : List Opn) (a1 : ByteArray) (w : World) (w0 : Ops w (.slice a0 len0 cap0) z0) (w1 : a1.size ≤ 140737488351232) :
    Calls Tryz.prog 3 #[.slice a0 len0 cap0, .string a1] w fun e w' => e = .returned (.bool true) ∧ Up w w' := by
  obtain ⟨s, rfl⟩ : ∃ s, bs s = a1 := ⟨a1.data.toList, bs_of a1⟩
  rw [bs_size] at w1
  have HOP := Lib.hid w0
  have HLOG := Lib.hid (log_any _ z0 w w0)
  have HRE := Lib.hid (fun W => replay_any s W (by omega))
  have HRR := Lib.hid (fun W => refReplay_any s W w1)
  unfold RepPost at HRE HRR
  obtain ⟨RS, hRS⟩ : ∃ RS, replayG FP getV s = RS := ⟨_, rfl⟩
  rw [hRS] at HRE HRR
  obtain ⟨o', c', hsl, p1, p2⟩ := w0.slice
  simp only [Value.slice.injEq] at hsl
  obtain ⟨rfl, rfl, rfl⟩ := hsl
  unfold maxLen at p2
  obtain ⟨LX, hLX⟩ : ∃ LX, (logV z0).1 = LX := ⟨_, rfl⟩
  obtain ⟨LE, hLE⟩ : ∃ LE, (logV z0).2 = LE := ⟨_, rfl⟩
  rw [hLX, hLE] at HLOG
  have HLX := Lib.hid hLX
  have HLE := Lib.hid hLE
  obtain ⟨n, hn⟩ : ∃ n, z0.length = n := ⟨_, rfl⟩
  rw [hn] at p1 HOP HLOG ⊢
  have HN := Lib.hid hn
  have HNE : Hid ((⟨#[]⟩ : ByteArray) = bs []) := rfl
  have HSTA : Hid (∀ W, Up w W → PlyLoop z0 LE w (.int .i64 (if 200 < n then 2 else 0)) (.string ⟨#[]⟩) (.int .i64 0) W) := by
    intro W hW
    refine ⟨0, Nat.zero_le _, rfl, hW, ?_⟩
    by_cases h2 : 200 < n
    · rw [if_pos h2]
      have h9 := logV_big (l := z0) (by omega)
      exact .inr ⟨by rw [← hLE, h9]; omega, by rw [← hLE, h9], _, rfl⟩
    · rw [if_neg h2]
      exact .inl ⟨rfl, by omega, by simp, by simp [logG_nil, bs]⟩
  clear hLX hLE hn hRS w0
  by_cases h2 : 200 < n
  · rw [if_pos h2] at HSTA
    have d2 : decide (200 < (n : Int)) = true := decide_eq_true (by omega)
    clear h2
    go_enter Tryz.func3, Tryz.ntmps3
    go_wp2_with fail
    refine HLOG.out.mono ?_
    rintro e w1 ⟨rfl, u1⟩
    have HU1 := Lib.hid u1
    clear u1
    go_wp2_with fail
    go_loopw [7, 8, 29] (PlyLoop z0 LE w) (fun _ _ i _ => n - (intOf i).toNat)
    case atStart => exact HSTA.out _ HU1.out
    case round =>
      clear HSTA HLOG
      obtain ⟨k, hk, rfl, hu, hrel⟩ := hrel
      have HU := Lib.hid hu
      rw [HN.out] at hk
      by_cases hlt : k < n
      · have d1 : decide (k < n) = true := decide_eq_true hlt
        have hkl : k < z0.length := by rw [HN.out]; exact hlt
        obtain ⟨b, off, hpo, hat⟩ := (HOP.out.up hu).at (fun e => by rw [e] at hkl; simp at hkl)
        subst hpo
        obtain ⟨a0, a1, a2, a3, a4⟩ := hat k hkl
        have HWF := Lib.hid (HOP.out.2 z0[k] (List.getElem_mem hkl))
        have HDE := Lib.hid (fun W => refDeed_any z0[k] W HWF.out)
        have HBO := Lib.hid (fun (hc : chkO (z0[k]'hkl) = 0) W => refBody_any (z0[k]'hkl) W hc)
        have HTK := Lib.hid (logG_take z0 k hkl)
        have HAT := Lib.hid (fun (h1 : z0.length ≤ 200) (h2 : ∀ o ∈ z0.take k, chkO o = 0) (h3 : chkO (z0[k]'hkl) ≠ 0) => logV_at (l := z0) (k := k) h1 hkl h2 h3)
        have HMEM : Hid ((∀ o ∈ z0.take k, chkO o = 0) → chkO z0[k] = 0 → ∀ o ∈ z0.take (k + 1), chkO o = 0) := by
          intro hall h0 o ho
          rw [List.take_succ_eq_append_getElem hkl, List.mem_append, List.mem_singleton] at ho
          rcases ho with ho | rfl
          · exact hall o ho
          · exact h0
        have HEL := Lib.hid (fun (h9 : chkO (z0[k]'hkl) = 0) => encO_len h9)
        obtain ⟨D, hD⟩ : ∃ D, z0[k] = D := ⟨_, rfl⟩
        rw [hD] at a0 a1 a2 a3 a4 HTK HAT HMEM HDE HBO HEL
        obtain ⟨C, hC⟩ : ∃ C, chkO D = C := ⟨_, rfl⟩
        rw [hC] at HAT HMEM HDE HBO HEL
        obtain ⟨EB, hEB⟩ : ∃ EB, encO D = EB := ⟨_, rfl⟩
        rw [hEB] at HTK HBO HEL
        unfold opA at HDE HBO
        generalize bs D.nm = S1 at a1 HDE HBO
        generalize bs D.to = S2 at a2 HDE HBO
        generalize bs D.tx = S3 at a4 HDE HBO
        generalize D.kd = K1 at a0 HDE HBO
        generalize D.pl = K2 at a3 HDE HBO
        clear hat hD hC hEB HWF hkl hu
        go_upto_region 9 with (fail)
        replace HU := Lib.hid (HU.out.trans (Up.alloc wr (.cells #[.int .i64 K1, .string S1, .string S2, .int .i64 K2, .string S3] 27)))
        have HOQ : Hid (RowC (wr.alloc (.cells #[.int .i64 K1, .string S1, .string S2, .int .i64 K2, .string S3] 27)) wr.heap.size 27 [.int .i64 K1, .string S1, .string S2, .int .i64 K2, .string S3]) := heap_alloc_new wr _
        generalize wr.alloc (.cells #[.int .i64 K1, .string S1, .string S2, .int .i64 K2, .string S3] 27) = WA at HU HOQ ⊢
        generalize wr.heap.size = Q at HOQ ⊢
        clear a0 a1 a2 a3 a4
        rcases hrel with ⟨rfl, hl2, hall, rfl⟩ | ⟨hne, rfl, A, rfl⟩
        · have y0 := HOQ.out.cell (j := 0) rfl
          have y1 := HOQ.out.cell (j := 1) rfl
          have y2 := HOQ.out.cell (j := 2) rfl
          have y3 := HOQ.out.cell (j := 3) rfl
          have y4 := HOQ.out.cell (j := 4) rfl
          have hlk := logG_len (z0.take k) hall
          rw [List.length_take] at hlk
          have HL2 := Lib.hid hl2
          have HALL := Lib.hid hall
          have HLK : Hid ((logG (frm 1) (z0.take k)).length ≤ 20000) := by show _ ≤ _; omega
          clear hl2 hall hlk
          go_wp2_with fail
          refine (HDE.out _).mono ?_
          rintro e w3 ⟨rfl, u3⟩
          replace HU := Lib.hid (HU.out.trans u3)
          replace HOQ := Lib.hid (HOQ.out.up u3)
          clear u3 y0 y1 y2 y3 y4
          by_cases hc : C = 0
          · subst hc
            have HM2 := Lib.hid (HMEM.out HALL.out (by first | rfl | trivial))
            have HB2 := Lib.hid (HBO.out (by first | rfl | trivial))
            obtain ⟨_, hl93, _⟩ := HEL.out (by first | rfl | trivial)
            have hpv : putV 1 EB = (frm 1 EB, 0) := by
              unfold putV
              rw [if_neg (by omega), if_neg (by omega)]
              rfl
            have HPU := Lib.hid (fun W => rframe_any 1 EB W (by omega))
            unfold putR at HPU
            rw [hpv] at HPU
            have hfl := frm_length 1 EB
            have HAD := Lib.hid (add_bs (logG (frm 1) (z0.take k)) (frm 1 EB) (by have := HLK.out; omega))
            rw [← HTK.out] at HAD
            clear HBO HMEM HEL HAT hpv hfl hl93 HDE
            have y0 := HOQ.out.cell (j := 0) rfl
            have y1 := HOQ.out.cell (j := 1) rfl
            have y2 := HOQ.out.cell (j := 2) rfl
            have y3 := HOQ.out.cell (j := 3) rfl
            have y4 := HOQ.out.cell (j := 4) rfl
            generalize bs (logG (frm 1) (z0.take k)) = G0 at *
            obtain ⟨G1, hG1⟩ : ∃ G1, bs (logG (frm 1) (z0.take (k + 1))) = G1 := ⟨_, rfl⟩
            rw [hG1] at HAD
            go_wp2_with fail
            refine (HB2.out _).mono ?_
            rintro e w4 ⟨rfl, u4⟩
            replace HU := Lib.hid (HU.out.trans u4)
            clear u4 y0 y1 y2 y3 y4
            go_wp2_with fail
            refine (HPU.out _).mono ?_
            rintro e w5 ⟨rfl, u5⟩
            replace HU := Lib.hid (HU.out.trans u5)
            clear u5
            have had := HAD.out
            go_wp2_with fail
            go_roundw
            case rel => exact ⟨k + 1, by rw [HN.out]; omega, by go_num, HU.out, .inl ⟨rfl, HL2.out, HM2.out, by rw [hG1]⟩⟩
            case measure => simp only [intOf]; omega
          · have hcn : (C == 0) = false := by rw [beq_eq_false_iff_ne]; exact hc
            have HV := Lib.hid (HAT.out HL2.out HALL.out hc)
            clear HBO HMEM HEL HAT HDE
            generalize bs (logG (frm 1) (z0.take k)) = G0 at *
            go_wp2_with fail
            go_roundw
            case rel => exact ⟨k + 1, by rw [HN.out]; omega, by go_num, HU.out, .inr ⟨by rw [← HLE.out, HV.out]; exact hc, by rw [← HLE.out, HV.out], _, rfl⟩⟩
            case measure => simp only [intOf]; omega
        · have hnn : (LE == 0) = false := by rw [beq_eq_false_iff_ne]; exact hne
          clear HBO HMEM HEL HAT HDE
          go_wp2_with fail
          go_roundw
          case rel => exact ⟨k + 1, by rw [HN.out]; omega, by go_num, HU.out, .inr ⟨hne, rfl, A, rfl⟩⟩
          case measure => simp only [intOf]; omega
      · have d1 : decide (k < n) = false := decide_eq_false hlt
        have hkn : k = n := by omega
        subst hkn
        clear hu hlt hk
        rcases hrel with ⟨rfl, hl2, hall, rfl⟩ | ⟨hne, rfl, A, rfl⟩
        · rw [List.take_of_length_le (by rw [HN.out]; omega)] at hall ⊢
          have h9 := logV_ok hall hl2
          rw [← HLX.out, ← HLE.out, h9] at *
          simp only
          clear h9 hall hl2
          generalize bs (logG (frm 1) z0) = G0 at *
          go_wp2_with fail
          refine (HRE.out _).mono ?_
          rintro e w5 ⟨o5, c5, o6, c6, rfl, hs5, u5⟩
          obtain ⟨m1, hm1⟩ : ∃ m, RS.1.b.length = m := ⟨_, rfl⟩
          obtain ⟨m2, hm2⟩ : ∃ m, RS.1.v.length = m := ⟨_, rfl⟩
          rw [hm1, hm2] at hs5 HRR ⊢
          have hv := u5.trans (Up.alloc w5 (.cells #[.slice o5 m1 c5, .slice o6 m2 c6] 36))
          have HX : Hid (RowC (w5.alloc (.cells #[.slice o5 m1 c5, .slice o6 m2 c6] 36)) w5.heap.size 36 [.slice o5 m1 c5, .slice o6 m2 c6]) := heap_alloc_new w5 _
          have HS := Lib.hid (hs5.up (Up.alloc w5 (.cells #[.slice o5 m1 c5, .slice o6 m2 c6] 36)))
          replace HU := Lib.hid (HU.out.trans hv)
          clear u5 hs5 hv hm1 hm2
          go_upto_region 21 with (fail)
          generalize w5.alloc (.cells #[.slice o5 m1 c5, .slice o6 m2 c6] 36) = W5 at HX HS HU ⊢
          generalize w5.heap.size = X at HX ⊢
          go_wp2_with fail
          refine (HRR.out _).mono ?_
          rintro e w6 ⟨o7, c7, o8, c8, rfl, hs6, u6⟩
          have hv := u6.trans (Up.alloc w6 (.cells #[.slice o7 m1 c7, .slice o8 m2 c8] 36))
          have HY : Hid (RowC (w6.alloc (.cells #[.slice o7 m1 c7, .slice o8 m2 c8] 36)) w6.heap.size 36 [.slice o7 m1 c7, .slice o8 m2 c8]) := heap_alloc_new w6 _
          have HT := Lib.hid (hs6.up (Up.alloc w6 (.cells #[.slice o7 m1 c7, .slice o8 m2 c8] 36)))
          replace HX := Lib.hid (HX.out.up hv)
          replace HS := Lib.hid (HS.out.up hv)
          replace HU := Lib.hid (HU.out.trans hv)
          clear u6 hs6 hv
          go_upto_region 22 with (fail)
          generalize w6.alloc (.cells #[.slice o7 m1 c7, .slice o8 m2 c8] 36) = W6 at HX HS HY HT HU ⊢
          generalize w6.heap.size = Y at HY ⊢
          have HC := Lib.hid (told_yes _ _ RS.1 RS.2.2 W6 HS.out HT.out)
          have x0 := HX.out.cell (j := 0) rfl
          have x1 := HX.out.cell (j := 1) rfl
          have y0 := HY.out.cell (j := 0) rfl
          have y1 := HY.out.cell (j := 1) rfl
          go_wp2_with fail
          refine HC.out.mono ?_
          rintro e w7 ⟨rfl, u7⟩
          replace HU := Lib.hid (HU.out.trans u7)
          clear u7
          go_wp2_with fail
          go_ret
          exact ⟨rfl, HU.out⟩
        · have h9 := logV_err (l := z0) (by rw [HLE.out]; exact hne)
          rw [HLX.out] at h9
          subst h9
          have hem := empty_txt
          have hnn : (LE == 0) = false := by rw [beq_eq_false_iff_ne]; exact hne
          generalize bs [] = S0 at *
          clear hne
          go_wp2_with fail
          refine (HRE.out _).mono ?_
          rintro e w5 ⟨o5, c5, o6, c6, rfl, hs5, u5⟩
          obtain ⟨m1, hm1⟩ : ∃ m, RS.1.b.length = m := ⟨_, rfl⟩
          obtain ⟨m2, hm2⟩ : ∃ m, RS.1.v.length = m := ⟨_, rfl⟩
          rw [hm1, hm2] at hs5 HRR ⊢
          have hv := u5.trans (Up.alloc w5 (.cells #[.slice o5 m1 c5, .slice o6 m2 c6] 36))
          have HX : Hid (RowC (w5.alloc (.cells #[.slice o5 m1 c5, .slice o6 m2 c6] 36)) w5.heap.size 36 [.slice o5 m1 c5, .slice o6 m2 c6]) := heap_alloc_new w5 _
          have HS := Lib.hid (hs5.up (Up.alloc w5 (.cells #[.slice o5 m1 c5, .slice o6 m2 c6] 36)))
          replace HU := Lib.hid (HU.out.trans hv)
          clear u5 hs5 hv hm1 hm2
          go_upto_region 21 with (fail)
          generalize w5.alloc (.cells #[.slice o5 m1 c5, .slice o6 m2 c6] 36) = W5 at HX HS HU ⊢
          generalize w5.heap.size = X at HX ⊢
          go_wp2_with fail
          refine (HRR.out _).mono ?_
          rintro e w6 ⟨o7, c7, o8, c8, rfl, hs6, u6⟩
          have hv := u6.trans (Up.alloc w6 (.cells #[.slice o7 m1 c7, .slice o8 m2 c8] 36))
          have HY : Hid (RowC (w6.alloc (.cells #[.slice o7 m1 c7, .slice o8 m2 c8] 36)) w6.heap.size 36 [.slice o7 m1 c7, .slice o8 m2 c8]) := heap_alloc_new w6 _
          have HT := Lib.hid (hs6.up (Up.alloc w6 (.cells #[.slice o7 m1 c7, .slice o8 m2 c8] 36)))
          replace HX := Lib.hid (HX.out.up hv)
          replace HS := Lib.hid (HS.out.up hv)
          replace HU := Lib.hid (HU.out.trans hv)
          clear u6 hs6 hv
          go_upto_region 22 with (fail)
          generalize w6.alloc (.cells #[.slice o7 m1 c7, .slice o8 m2 c8] 36) = W6 at HX HS HY HT HU ⊢
          generalize w6.heap.size = Y at HY ⊢
          have HC := Lib.hid (told_yes _ _ RS.1 RS.2.2 W6 HS.out HT.out)
          have x0 := HX.out.cell (j := 0) rfl
          have x1 := HX.out.cell (j := 1) rfl
          have y0 := HY.out.cell (j := 0) rfl
          have y1 := HY.out.cell (j := 1) rfl
          go_wp2_with fail
          refine HC.out.mono ?_
          rintro e w7 ⟨rfl, u7⟩
          replace HU := Lib.hid (HU.out.trans u7)
          clear u7
          go_wp2_with fail
          go_ret
          exact ⟨rfl, HU.out⟩
  · rw [if_neg h2] at HSTA
    have d2 : decide (200 < (n : Int)) = false := decide_eq_false (by omega)
    clear h2
    go_enter Tryz.func3, Tryz.ntmps3
    go_wp2_with fail
    refine HLOG.out.mono ?_
    rintro e w1 ⟨rfl, u1⟩
    have HU1 := Lib.hid u1
    clear u1
    go_wp2_with fail
    go_loopw [7, 8, 29] (PlyLoop z0 LE w) (fun _ _ i _ => n - (intOf i).toNat)
    case atStart => exact HSTA.out _ HU1.out
    case round =>
      clear HSTA HLOG
      obtain ⟨k, hk, rfl, hu, hrel⟩ := hrel
      have HU := Lib.hid hu
      rw [HN.out] at hk
      by_cases hlt : k < n
      · have d1 : decide (k < n) = true := decide_eq_true hlt
        have hkl : k < z0.length := by rw [HN.out]; exact hlt
        obtain ⟨b, off, hpo, hat⟩ := (HOP.out.up hu).at (fun e => by rw [e] at hkl; simp at hkl)
        subst hpo
        obtain ⟨a0, a1, a2, a3, a4⟩ := hat k hkl
        have HWF := Lib.hid (HOP.out.2 z0[k] (List.getElem_mem hkl))
        have HDE := Lib.hid (fun W => refDeed_any z0[k] W HWF.out)
        have HBO := Lib.hid (fun (hc : chkO (z0[k]'hkl) = 0) W => refBody_any (z0[k]'hkl) W hc)
        have HTK := Lib.hid (logG_take z0 k hkl)
        have HAT := Lib.hid (fun (h1 : z0.length ≤ 200) (h2 : ∀ o ∈ z0.take k, chkO o = 0) (h3 : chkO (z0[k]'hkl) ≠ 0) => logV_at (l := z0) (k := k) h1 hkl h2 h3)
        have HMEM : Hid ((∀ o ∈ z0.take k, chkO o = 0) → chkO z0[k] = 0 → ∀ o ∈ z0.take (k + 1), chkO o = 0) := by
          intro hall h0 o ho
          rw [List.take_succ_eq_append_getElem hkl, List.mem_append, List.mem_singleton] at ho
          rcases ho with ho | rfl
          · exact hall o ho
          · exact h0
        have HEL := Lib.hid (fun (h9 : chkO (z0[k]'hkl) = 0) => encO_len h9)
        obtain ⟨D, hD⟩ : ∃ D, z0[k] = D := ⟨_, rfl⟩
        rw [hD] at a0 a1 a2 a3 a4 HTK HAT HMEM HDE HBO HEL
        obtain ⟨C, hC⟩ : ∃ C, chkO D = C := ⟨_, rfl⟩
        rw [hC] at HAT HMEM HDE HBO HEL
        obtain ⟨EB, hEB⟩ : ∃ EB, encO D = EB := ⟨_, rfl⟩
        rw [hEB] at HTK HBO HEL
        unfold opA at HDE HBO
        generalize bs D.nm = S1 at a1 HDE HBO
        generalize bs D.to = S2 at a2 HDE HBO
        generalize bs D.tx = S3 at a4 HDE HBO
        generalize D.kd = K1 at a0 HDE HBO
        generalize D.pl = K2 at a3 HDE HBO
        clear hat hD hC hEB HWF hkl hu
        go_upto_region 9 with (fail)
        replace HU := Lib.hid (HU.out.trans (Up.alloc wr (.cells #[.int .i64 K1, .string S1, .string S2, .int .i64 K2, .string S3] 27)))
        have HOQ : Hid (RowC (wr.alloc (.cells #[.int .i64 K1, .string S1, .string S2, .int .i64 K2, .string S3] 27)) wr.heap.size 27 [.int .i64 K1, .string S1, .string S2, .int .i64 K2, .string S3]) := heap_alloc_new wr _
        generalize wr.alloc (.cells #[.int .i64 K1, .string S1, .string S2, .int .i64 K2, .string S3] 27) = WA at HU HOQ ⊢
        generalize wr.heap.size = Q at HOQ ⊢
        clear a0 a1 a2 a3 a4
        rcases hrel with ⟨rfl, hl2, hall, rfl⟩ | ⟨hne, rfl, A, rfl⟩
        · have y0 := HOQ.out.cell (j := 0) rfl
          have y1 := HOQ.out.cell (j := 1) rfl
          have y2 := HOQ.out.cell (j := 2) rfl
          have y3 := HOQ.out.cell (j := 3) rfl
          have y4 := HOQ.out.cell (j := 4) rfl
          have hlk := logG_len (z0.take k) hall
          rw [List.length_take] at hlk
          have HL2 := Lib.hid hl2
          have HALL := Lib.hid hall
          have HLK : Hid ((logG (frm 1) (z0.take k)).length ≤ 20000) := by show _ ≤ _; omega
          clear hl2 hall hlk
          go_wp2_with fail
          refine (HDE.out _).mono ?_
          rintro e w3 ⟨rfl, u3⟩
          replace HU := Lib.hid (HU.out.trans u3)
          replace HOQ := Lib.hid (HOQ.out.up u3)
          clear u3 y0 y1 y2 y3 y4
          by_cases hc : C = 0
          · subst hc
            have HM2 := Lib.hid (HMEM.out HALL.out (by first | rfl | trivial))
            have HB2 := Lib.hid (HBO.out (by first | rfl | trivial))
            obtain ⟨_, hl93, _⟩ := HEL.out (by first | rfl | trivial)
            have hpv : putV 1 EB = (frm 1 EB, 0) := by
              unfold putV
              rw [if_neg (by omega), if_neg (by omega)]
              rfl
            have HPU := Lib.hid (fun W => rframe_any 1 EB W (by omega))
            unfold putR at HPU
            rw [hpv] at HPU
            have hfl := frm_length 1 EB
            have HAD := Lib.hid (add_bs (logG (frm 1) (z0.take k)) (frm 1 EB) (by have := HLK.out; omega))
            rw [← HTK.out] at HAD
            clear HBO HMEM HEL HAT hpv hfl hl93 HDE
            have y0 := HOQ.out.cell (j := 0) rfl
            have y1 := HOQ.out.cell (j := 1) rfl
            have y2 := HOQ.out.cell (j := 2) rfl
            have y3 := HOQ.out.cell (j := 3) rfl
            have y4 := HOQ.out.cell (j := 4) rfl
            generalize bs (logG (frm 1) (z0.take k)) = G0 at *
            obtain ⟨G1, hG1⟩ : ∃ G1, bs (logG (frm 1) (z0.take (k + 1))) = G1 := ⟨_, rfl⟩
            rw [hG1] at HAD
            go_wp2_with fail
            refine (HB2.out _).mono ?_
            rintro e w4 ⟨rfl, u4⟩
            replace HU := Lib.hid (HU.out.trans u4)
            clear u4 y0 y1 y2 y3 y4
            go_wp2_with fail
            refine (HPU.out _).mono ?_
            rintro e w5 ⟨rfl, u5⟩
            replace HU := Lib.hid (HU.out.trans u5)
            clear u5
            have had := HAD.out
            go_wp2_with fail
            go_roundw
            case rel => exact ⟨k + 1, by rw [HN.out]; omega, by go_num, HU.out, .inl ⟨rfl, HL2.out, HM2.out, by rw [hG1]⟩⟩
            case measure => simp only [intOf]; omega
          · have hcn : (C == 0) = false := by rw [beq_eq_false_iff_ne]; exact hc
            have HV := Lib.hid (HAT.out HL2.out HALL.out hc)
            clear HBO HMEM HEL HAT HDE
            generalize bs (logG (frm 1) (z0.take k)) = G0 at *
            go_wp2_with fail
            go_roundw
            case rel => exact ⟨k + 1, by rw [HN.out]; omega, by go_num, HU.out, .inr ⟨by rw [← HLE.out, HV.out]; exact hc, by rw [← HLE.out, HV.out], _, rfl⟩⟩
            case measure => simp only [intOf]; omega
        · have hnn : (LE == 0) = false := by rw [beq_eq_false_iff_ne]; exact hne
          clear HBO HMEM HEL HAT HDE
          go_wp2_with fail
          go_roundw
          case rel => exact ⟨k + 1, by rw [HN.out]; omega, by go_num, HU.out, .inr ⟨hne, rfl, A, rfl⟩⟩
          case measure => simp only [intOf]; omega
      · have d1 : decide (k < n) = false := decide_eq_false hlt
        have hkn : k = n := by omega
        subst hkn
        clear hu hlt hk
        rcases hrel with ⟨rfl, hl2, hall, rfl⟩ | ⟨hne, rfl, A, rfl⟩
        · rw [List.take_of_length_le (by rw [HN.out]; omega)] at hall ⊢
          have h9 := logV_ok hall hl2
          rw [← HLX.out, ← HLE.out, h9] at *
          simp only
          clear h9 hall hl2
          generalize bs (logG (frm 1) z0) = G0 at *
          go_wp2_with fail
          refine (HRE.out _).mono ?_
          rintro e w5 ⟨o5, c5, o6, c6, rfl, hs5, u5⟩
          obtain ⟨m1, hm1⟩ : ∃ m, RS.1.b.length = m := ⟨_, rfl⟩
          obtain ⟨m2, hm2⟩ : ∃ m, RS.1.v.length = m := ⟨_, rfl⟩
          rw [hm1, hm2] at hs5 HRR ⊢
          have hv := u5.trans (Up.alloc w5 (.cells #[.slice o5 m1 c5, .slice o6 m2 c6] 36))
          have HX : Hid (RowC (w5.alloc (.cells #[.slice o5 m1 c5, .slice o6 m2 c6] 36)) w5.heap.size 36 [.slice o5 m1 c5, .slice o6 m2 c6]) := heap_alloc_new w5 _
          have HS := Lib.hid (hs5.up (Up.alloc w5 (.cells #[.slice o5 m1 c5, .slice o6 m2 c6] 36)))
          replace HU := Lib.hid (HU.out.trans hv)
          clear u5 hs5 hv hm1 hm2
          go_upto_region 21 with (fail)
          generalize w5.alloc (.cells #[.slice o5 m1 c5, .slice o6 m2 c6] 36) = W5 at HX HS HU ⊢
          generalize w5.heap.size = X at HX ⊢
          go_wp2_with fail
          refine (HRR.out _).mono ?_
          rintro e w6 ⟨o7, c7, o8, c8, rfl, hs6, u6⟩
          have hv := u6.trans (Up.alloc w6 (.cells #[.slice o7 m1 c7, .slice o8 m2 c8] 36))
          have HY : Hid (RowC (w6.alloc (.cells #[.slice o7 m1 c7, .slice o8 m2 c8] 36)) w6.heap.size 36 [.slice o7 m1 c7, .slice o8 m2 c8]) := heap_alloc_new w6 _
          have HT := Lib.hid (hs6.up (Up.alloc w6 (.cells #[.slice o7 m1 c7, .slice o8 m2 c8] 36)))
          replace HX := Lib.hid (HX.out.up hv)
          replace HS := Lib.hid (HS.out.up hv)
          replace HU := Lib.hid (HU.out.trans hv)
          clear u6 hs6 hv
          go_upto_region 22 with (fail)
          generalize w6.alloc (.cells #[.slice o7 m1 c7, .slice o8 m2 c8] 36) = W6 at HX HS HY HT HU ⊢
          generalize w6.heap.size = Y at HY ⊢
          have HC := Lib.hid (told_yes _ _ RS.1 RS.2.2 W6 HS.out HT.out)
          have x0 := HX.out.cell (j := 0) rfl
          have x1 := HX.out.cell (j := 1) rfl
          have y0 := HY.out.cell (j := 0) rfl
          have y1 := HY.out.cell (j := 1) rfl
          go_wp2_with fail
          refine HC.out.mono ?_
          rintro e w7 ⟨rfl, u7⟩
          replace HU := Lib.hid (HU.out.trans u7)
          clear u7
          go_wp2_with fail
          go_ret
          exact ⟨rfl, HU.out⟩
        · have h9 := logV_err (l := z0) (by rw [HLE.out]; exact hne)
          rw [HLX.out] at h9
          subst h9
          have hem := empty_txt
          have hnn : (LE == 0) = false := by rw [beq_eq_false_iff_ne]; exact hne
          generalize bs [] = S0 at *
          clear hne
          go_wp2_with fail
          refine (HRE.out _).mono ?_
          rintro e w5 ⟨o5, c5, o6, c6, rfl, hs5, u5⟩
          obtain ⟨m1, hm1⟩ : ∃ m, RS.1.b.length = m := ⟨_, rfl⟩
          obtain ⟨m2, hm2⟩ : ∃ m, RS.1.v.length = m := ⟨_, rfl⟩
          rw [hm1, hm2] at hs5 HRR ⊢
          have hv := u5.trans (Up.alloc w5 (.cells #[.slice o5 m1 c5, .slice o6 m2 c6] 36))
          have HX : Hid (RowC (w5.alloc (.cells #[.slice o5 m1 c5, .slice o6 m2 c6] 36)) w5.heap.size 36 [.slice o5 m1 c5, .slice o6 m2 c6]) := heap_alloc_new w5 _
          have HS := Lib.hid (hs5.up (Up.alloc w5 (.cells #[.slice o5 m1 c5, .slice o6 m2 c6] 36)))
          replace HU := Lib.hid (HU.out.trans hv)
          clear u5 hs5 hv hm1 hm2
          go_upto_region 21 with (fail)
          generalize w5.alloc (.cells #[.slice o5 m1 c5, .slice o6 m2 c6] 36) = W5 at HX HS HU ⊢
          generalize w5.heap.size = X at HX ⊢
          go_wp2_with fail
          refine (HRR.out _).mono ?_
          rintro e w6 ⟨o7, c7, o8, c8, rfl, hs6, u6⟩
          have hv := u6.trans (Up.alloc w6 (.cells #[.slice o7 m1 c7, .slice o8 m2 c8] 36))
          have HY : Hid (RowC (w6.alloc (.cells #[.slice o7 m1 c7, .slice o8 m2 c8] 36)) w6.heap.size 36 [.slice o7 m1 c7, .slice o8 m2 c8]) := heap_alloc_new w6 _
          have HT := Lib.hid (hs6.up (Up.alloc w6 (.cells #[.slice o7 m1 c7, .slice o8 m2 c8] 36)))
          replace HX := Lib.hid (HX.out.up hv)
          replace HS := Lib.hid (HS.out.up hv)
          replace HU := Lib.hid (HU.out.trans hv)
          clear u6 hs6 hv
          go_upto_region 22 with (fail)
          generalize w6.alloc (.cells #[.slice o7 m1 c7, .slice o8 m2 c8] 36) = W6 at HX HS HY HT HU ⊢
          generalize w6.heap.size = Y at HY ⊢
          have HC := Lib.hid (told_yes _ _ RS.1 RS.2.2 W6 HS.out HT.out)
          have x0 := HX.out.cell (j := 0) rfl
          have x1 := HX.out.cell (j := 1) rfl
          have y0 := HY.out.cell (j := 0) rfl
          have y1 := HY.out.cell (j := 1) rfl
          go_wp2_with fail
          refine HC.out.mono ?_
          rintro e w7 ⟨rfl, u7⟩
          replace HU := Lib.hid (HU.out.trans u7)
          clear u7
          go_wp2_with fail
          go_ret
          exact ⟨rfl, HU.out⟩

end Go.Proofs.YtbeigaanlhaolaaGreatDoor
