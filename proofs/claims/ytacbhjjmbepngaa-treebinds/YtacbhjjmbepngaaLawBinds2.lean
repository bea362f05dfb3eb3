/-
  The law TreeBinds, walked: for every list, all numbers, every text and all steps the Go text returns true; nothing that was there turns. Conditions: as each says.
-/
import Derived.Test.YtacbhjjmbepngaaLawBinds
namespace Go.Proofs.Ytacbhjjmbepngaa
open Go.RowKit
open Go.Proofs
open WoolTree

theorem vs_range : ∀ (t : List Bool) (x : Nat) (p : List (Bool × Int)) (r : Int), vs TH t x p r = true → ∀ s ∈ p, 0 ≤ s.2 ∧ s.2 ≤ 2147483647
  | [], _, [], _, _, s, hs => by simp at hs
  | [], _, _ :: _, _, h, _, _ => by simp [vs] at h
  | _ :: _, _, [], _, _, s, hs => by simp at hs
  | b :: t, x, y :: q, r, h, s, hs => by
    rw [vs, Bool.and_eq_true, Bool.and_eq_true, Bool.and_eq_true, decide_eq_true_eq, decide_eq_true_eq] at h
    rw [List.mem_cons] at hs
    rcases hs with rfl | hs
    · exact h.1.2
    · exact vs_range t _ q r h.2 s hs

theorem sd_length : ∀ k n i : Nat, (sd k n i).length ≤ k
  | 0, _, _ => by simp [sd]
  | k + 1, n, i => by
    have := sd_length k ((n + 1) / 2) (i / 2)
    rw [sd, List.length_append]
    split <;> simp <;> omega

theorem verE_cases (n : Nat) (i : Nat) (s : List UInt8) (h : i < n) (hn : n ≤ 32) : (verE (n : Int) (i : Int) s = 2) ∨ (verE (n : Int) (i : Int) s = 0 ∧ s.length ≤ 64) := by
  unfold verE
  rw [if_neg (by omega)]
  by_cases hs : 64 < s.length
  · left; rw [if_pos hs]
  · right; rw [if_neg hs]; exact ⟨rfl, by omega⟩

def BdRel (K0 : Nat) (w : World) (i : Value) (wr : World) : Prop := ∃ k : Nat, k ≤ K0 ∧ i = .int .i64 (k : Int) ∧ Up w wr

set_option maxRecDepth 100000 in
set_option maxHeartbeats 4000000 in
theorem treeBinds_core (a0 : Option Addr) (len0 cap0 : Nat) (z0 : List (List UInt8)) (a1 : Int) (s : List UInt8) (a3 : Option Addr) (len3 cap3 : Nat) (z3 : List (Bool × Int)) (w : World) (w0 : Txs w (.slice a0 len0 cap0) z0) (w3 : Stps w (.slice a3 len3 cap3) z3) :
    Calls Try.prog 7 #[.slice a0 len0 cap0, .int .i64 a1, .string (bs s), .slice a3 len3 cap3] w fun e w' => e = .returned (.bool true) ∧ Up w w' := by
  have HLIT := Lib.hid (Txs.lit w [[97]] 1 rfl (by omega))
  have HRC := Lib.hid (rootT_any _ _ _ HLIT.out)
  obtain ⟨hc0, hc1⟩ := root_a
  rw [hc0] at HRC
  obtain ⟨c0, hcc⟩ : ∃ c, rootV [[97]] = c := ⟨_, rfl⟩
  rw [hcc] at HRC hc1
  have dc : (c0 == 0) = false := by rw [beq_eq_false_iff_ne]; exact hc1
  have HR := Lib.hid (fun W (hW : Up w W) => rootT_any _ z0 W (w0.up hW))
  obtain ⟨hlen, hcap⟩ := w0.len
  obtain ⟨hlen3, hcap3⟩ := w3.len
  by_cases hE : chkT z0 = 0
  · obtain ⟨h0, h32, hs⟩ := chkT_ok hE
    rw [hE] at HR
    have hI : within a1 z0.length < z0.length := within_lt a1 _ h0
    have HWI := Lib.hid (fun W => within_any a1 (z0.length : Int) W (by omega) (by omega))
    rw [Int.toNat_natCast] at HWI
    obtain ⟨I, hII⟩ : ∃ I, within a1 z0.length = I := ⟨_, rfl⟩
    rw [hII] at HWI hI
    have HP := Lib.hid (fun W (hW : Up w W) => proofT_any _ z0 (I : Int) W (w0.up hW))
    unfold PrPost at HP
    rw [(prfV_ok hE hI).1] at HP
    have HV := Lib.hid (fun W (hW : Up w W) => verify_any (rootV z0) (z0.length : Int) (I : Int) s _ z3 W (w3.up hW))
    obtain ⟨b, off, rfl, hat⟩ := w0.at (fun e => by rw [e] at h0; simp at h0)
    have hcell := hat I hI
    have HC := Lib.hid hcell
    have hqq := txt_eqT s z0[I]
    rcases verE_cases z0.length I s hI h32 with hv2 | ⟨hv0, hs64⟩
    · rw [hv2] at HV
      rw [← hlen] at HWI HV hI
      generalize z0[I] = t at *
      generalize rootV z0 = R at *
      generalize verV R (len0 : Int) (I : Int) s z3 = VV at *
      generalize prfV z0 (I : Int) = PP at *
      have hl63 : len0 ≤ 32 := by omega
      clear hE h0 h32 hs hlen w0 w3 hat hcell hcc HLIT hII hv2 hlen3
      go_enter Try.func7, Try.ntmps7
      go_wp2_with fail
      refine HRC.out.mono ?_
      rintro e w1 ⟨rfl, u1⟩
      have HU1 := Lib.hid ((Up.alloc _ _).trans u1)
      clear u1
      go_wp2_with fail
      refine (HR.out _ HU1.out).mono ?_
      rintro e w2 ⟨rfl, u2⟩
      have HU2 := Lib.hid (HU1.out.trans u2)
      clear u2
      go_wp2_with fail
      refine (HWI.out _).mono ?_
      rintro e w3 ⟨rfl, rfl⟩
      go_wp2_with fail
      refine (HP.out _ HU2.out).mono ?_
      rintro e w3 ⟨v3, rfl, hst3, u3⟩
      have HS3 := Lib.hid hst3.stps
      obtain ⟨o3, c3, rfl, _, _⟩ := hst3.stps.slice
      have HU3 := Lib.hid (HU2.out.trans u3)
      have q := (HU3.out.cell (World.block_lt_of_cell? w _ HC.out)).trans HC.out
      clear hst3 u3
      go_wp2_with fail
      refine (HV.out _ HU3.out).mono ?_
      rintro e w4 ⟨rfl, u4⟩
      have HU4 := Lib.hid (HU3.out.trans u4)
      have HS4 := Lib.hid (HS3.out.up u4)
      have q4 := (u4.cell (World.block_lt_of_cell? w3 _ q)).trans q
      clear u4 q HS3
      go_wp2_with fail
      go_ret
      exact ⟨rfl, HU4.out⟩
    · rw [hv0] at HV
      cases hvv : verV (rootV z0) (z0.length : Int) (I : Int) s z3 with
      | false =>
        rw [hvv] at HV
        rw [← hlen] at HWI HV hI
        generalize z0[I] = t at *
        generalize rootV z0 = R at *
        generalize prfV z0 (I : Int) = PP at *
        have hl63 : len0 ≤ 32 := by omega
        clear hE h0 h32 hs hlen w0 w3 hat hcell hcc HLIT hII hv0 hvv hlen3
        go_enter Try.func7, Try.ntmps7
        go_wp2_with fail
        refine HRC.out.mono ?_
        rintro e w1 ⟨rfl, u1⟩
        have HU1 := Lib.hid ((Up.alloc _ _).trans u1)
        clear u1
        go_wp2_with fail
        refine (HR.out _ HU1.out).mono ?_
        rintro e w2 ⟨rfl, u2⟩
        have HU2 := Lib.hid (HU1.out.trans u2)
        clear u2
        go_wp2_with fail
        refine (HWI.out _).mono ?_
        rintro e w3 ⟨rfl, rfl⟩
        go_wp2_with fail
        refine (HP.out _ HU2.out).mono ?_
        rintro e w3 ⟨v3, rfl, hst3, u3⟩
        have HS3 := Lib.hid hst3.stps
        obtain ⟨o3, c3, rfl, _, _⟩ := hst3.stps.slice
        have HU3 := Lib.hid (HU2.out.trans u3)
        have q := (HU3.out.cell (World.block_lt_of_cell? w _ HC.out)).trans HC.out
        clear hst3 u3
        go_wp2_with fail
        refine (HV.out _ HU3.out).mono ?_
        rintro e w4 ⟨rfl, u4⟩
        have HU4 := Lib.hid (HU3.out.trans u4)
        have HS4 := Lib.hid (HS3.out.up u4)
        have q4 := (u4.cell (World.block_lt_of_cell? w3 _ q)).trans q
        clear u4 q HS3
        go_wp2_with fail
        go_ret
        exact ⟨rfl, HU4.out⟩
      | true =>
        rw [hvv] at HV
        by_cases hst : s = z0[I]
        · have heq : ((bs s).toList == (bs z0[I]).toList) = true := by rw [hqq, beq_iff_eq]; exact hst
          rw [← hlen] at HWI HV hI
          generalize z0[I] = t at *
          generalize rootV z0 = R at *
          generalize prfV z0 (I : Int) = PP at *
          have hl63 : len0 ≤ 32 := by omega
          clear hE h0 h32 hs hlen w0 w3 hat hcell hcc HLIT hII hv0 hvv hqq hlen3 hst
          go_enter Try.func7, Try.ntmps7
          go_wp2_with fail
          refine HRC.out.mono ?_
          rintro e w1 ⟨rfl, u1⟩
          have HU1 := Lib.hid ((Up.alloc _ _).trans u1)
          clear u1
          go_wp2_with fail
          refine (HR.out _ HU1.out).mono ?_
          rintro e w2 ⟨rfl, u2⟩
          have HU2 := Lib.hid (HU1.out.trans u2)
          clear u2
          go_wp2_with fail
          refine (HWI.out _).mono ?_
          rintro e w3 ⟨rfl, rfl⟩
          go_wp2_with fail
          refine (HP.out _ HU2.out).mono ?_
          rintro e w3 ⟨v3, rfl, hst3, u3⟩
          have HS3 := Lib.hid hst3.stps
          obtain ⟨o3, c3, rfl, _, _⟩ := hst3.stps.slice
          have HU3 := Lib.hid (HU2.out.trans u3)
          have q := (HU3.out.cell (World.block_lt_of_cell? w _ HC.out)).trans HC.out
          clear hst3 u3
          go_wp2_with fail
          refine (HV.out _ HU3.out).mono ?_
          rintro e w4 ⟨rfl, u4⟩
          have HU4 := Lib.hid (HU3.out.trans u4)
          have HS4 := Lib.hid (HS3.out.up u4)
          have q4 := (u4.cell (World.block_lt_of_cell? w3 _ q)).trans q
          clear u4 q HS3
          go_wp2_with fail
          go_ret
          exact ⟨rfl, HU4.out⟩
        · have heq : ((bs s).toList == (bs z0[I]).toList) = false := by rw [hqq, beq_eq_false_iff_ne]; exact hst
          have hpp := proves_plain hE hI
          have hp2 := hpp.2
          have hp3 := hvv
          unfold verV at hp2 hp3
          rw [hpp.1, if_pos rfl, Int.toNat_natCast, Int.toNat_natCast, vf_vs] at hp2
          rw [hv0, if_pos rfl, Int.toNat_natCast, Int.toNat_natCast, vf_vs] at hp3
          have hr1 := vs_range _ _ _ _ hp2
          have hr2 := vs_range _ _ _ _ hp3
          have hn1 := vs_length TH _ _ _ _ hp2
          have hn2 := vs_length TH _ _ _ _ hp3
          have hn5 := sd_length 5 z0.length I
          have hti := hs _ (List.getElem_mem hI)
          obtain ⟨K0, X0, Y0, k1, k2, k3, k4⟩ := vs_binds TH (fun s => by have := TH_lt s; omega) _ _ _ _ _ _ hp2 hp3 (fun e => hst (lf_inj e).symm)
          have HLA := Lib.hid (fun W v (h : Stps W v (prfV z0 (I : Int))) => leads_any z0[I] v _ W h hti (by omega) hr1)
          have HLB := Lib.hid (fun W (hW : Up w W) => leads_any s _ z3 W (w3.up hW) hs64 (by omega) hr2)
          unfold LdPost at HLA HLB
          have hsz1 := ch_size TH (prfV z0 (I : Int)) (lf z0[I]) 65 (by omega) (by unfold lf; rw [List.length_cons]; omega)
          have hsz2 := ch_size TH z3 (lf s) 65 (by omega) (by unfold lf; rw [List.length_cons]; omega)
          have hcl1 := ch_length TH (prfV z0 (I : Int)) (lf z0[I])
          have hcl2 := ch_length TH z3 (lf s)
          rw [← hlen] at HWI HV hI
          generalize ch TH (lf z0[I]) (prfV z0 (I : Int)) = CA at *
          generalize ch TH (lf s) z3 = CB at *
          generalize z0[I] = t at *
          generalize rootV z0 = R at *
          generalize prfV z0 (I : Int) = PP at *
          have hl63 : len0 ≤ 32 := by omega
          obtain ⟨m, hm⟩ : ∃ m, CA.length = m := ⟨_, rfl⟩
          have hm2 : CB.length = m := by omega
          have HM := Lib.hid hm
          have HM2 := Lib.hid hm2
          have hm6 : m ≤ 6 := by omega
          have hK : K0 < m := by rw [← hm]; exact (List.getElem?_eq_some_iff.1 k1).1
          have K1 := Lib.hid k1
          have K2 := Lib.hid k2
          have K3 := Lib.hid k3
          have K4 := Lib.hid k4
          have HZ1 := Lib.hid hsz1
          have HZ2 := Lib.hid hsz2
          clear hE h0 h32 hs hlen w0 w3 hat hcell hcc HLIT hII hv0 hvv hqq hlen3 hst hpp hp2 hp3 hr1 hr2 hn1 hn2 hn5 k1 k2 k3 k4 hsz1 hsz2 hcl1 hcl2 hm hm2
          go_enter Try.func7, Try.ntmps7
          go_wp2_with fail
          refine HRC.out.mono ?_
          rintro e w1 ⟨rfl, u1⟩
          have HU1 := Lib.hid ((Up.alloc _ _).trans u1)
          clear u1
          go_wp2_with fail
          refine (HR.out _ HU1.out).mono ?_
          rintro e w2 ⟨rfl, u2⟩
          have HU2 := Lib.hid (HU1.out.trans u2)
          clear u2
          go_wp2_with fail
          refine (HWI.out _).mono ?_
          rintro e w3 ⟨rfl, rfl⟩
          go_wp2_with fail
          refine (HP.out _ HU2.out).mono ?_
          rintro e w3 ⟨v3, rfl, hst3, u3⟩
          have HS3 := Lib.hid hst3.stps
          obtain ⟨o3, c3, rfl, _, _⟩ := hst3.stps.slice
          have HU3 := Lib.hid (HU2.out.trans u3)
          have q := (HU3.out.cell (World.block_lt_of_cell? w _ HC.out)).trans HC.out
          clear hst3 u3
          go_wp2_with fail
          refine (HV.out _ HU3.out).mono ?_
          rintro e w4 ⟨rfl, u4⟩
          have HU4 := Lib.hid (HU3.out.trans u4)
          have HS4 := Lib.hid (HS3.out.up u4)
          have q4 := (u4.cell (World.block_lt_of_cell? w3 _ q)).trans q
          clear u4 q HS3
          go_wp2_with fail
          refine (HLA.out _ _ HS4.out).mono ?_
          rintro e w5 ⟨v5, rfl, ho5, u5⟩
          have HT5 := Lib.hid ho5.txs
          obtain ⟨o5, c5, rfl, _, _⟩ := ho5.txs.slice
          have HU5 := Lib.hid (HU4.out.trans u5)
          clear ho5 u5
          go_wp2_with fail
          refine (HLB.out _ HU5.out).mono ?_
          rintro e w6 ⟨v6, rfl, ho6, u6⟩
          have HT6 := Lib.hid ho6.txs
          obtain ⟨o6, c6, rfl, _, _⟩ := ho6.txs.slice
          have HT56 := Lib.hid (HT5.out.up u6)
          have HU6 := Lib.hid (HU5.out.trans u6)
          clear ho6 u6 HT5
          rw [HM.out] at HT56 ⊢
          rw [HM2.out] at HT6 ⊢
          have dmm : ((m : Int) != (m : Int)) = false := by simp
          go_wp2_with fail
          clear dmm
          go_loopw [18, 19, 20, 21, 22, 107] (fun _ _ _ _ _ i wr => BdRel K0 w6 i wr) (fun _ _ _ _ _ i _ => m - (intOf i).toNat)
          case atStart => exact ⟨0, Nat.zero_le _, rfl, Up.refl _⟩
          case round =>
            obtain ⟨k, hk, rfl, hu⟩ := hrel
            have HU7 := Lib.hid hu
            have dk : decide (k < m) = true := decide_eq_true (by omega)
            have hka : k < CA.length := by rw [HM.out]; omega
            have hkb : k < CB.length := by rw [HM2.out]; omega
            obtain ⟨b1, f1, rfl, g1⟩ := (HT56.out.up hu).at (fun e => by rw [e] at hka; simp at hka)
            obtain ⟨b2, f2, rfl, g2⟩ := (HT6.out.up hu).at (fun e => by rw [e] at hkb; simp at hkb)
            have q1 := g1 k hka
            have q2 := g2 k hkb
            have l1 := HZ1.out _ (List.getElem_mem hka)
            have l2 := HZ2.out _ (List.getElem_mem hkb)
            have hqq := txt_eqT CA[k] CB[k]
            have HOA := Lib.hid (fun W => of_bs2 CA[k] W (by omega))
            have HOB := Lib.hid (fun W => of_bs2 CB[k] W (by omega))
            have hfin : k = K0 → TH CA[k] = TH CB[k] ∧ CA[k] ≠ CB[k] := by
              intro e
              subst e
              have e1 := K1.out
              have e2 := K2.out
              rw [List.getElem?_eq_getElem hka] at e1
              rw [List.getElem?_eq_getElem hkb] at e2
              rw [Option.some.inj e1, Option.some.inj e2]
              exact ⟨K3.out, K4.out⟩
            generalize CA[k] = X at *
            generalize CB[k] = Y at *
            obtain ⟨bx, hbx⟩ : ∃ q, ((TH X : Int) == (TH Y : Int)) = q := ⟨_, rfl⟩
            obtain ⟨by', hby⟩ : ∃ q, (X == Y) = q := ⟨_, rfl⟩
            have hf2 : bx = false ∨ by' = true → k ≠ K0 := by
              rintro h e
              obtain ⟨e1, e2⟩ := hfin e
              rw [e1, beq_self_eq_true] at hbx
              rw [show (X == Y) = false by rw [beq_eq_false_iff_ne]; exact e2] at hby
              subst hbx hby
              simp at h
            rw [hby] at hqq
            generalize TH X = TX at *
            generalize TH Y = TY at *
            have HF := Lib.hid hf2
            clear g1 g2 l1 l2 hfin hu hf2 hby
            go_wp2_with fail
            refine (HOA.out _).mono ?_
            rintro e w8 ⟨rfl, u8⟩
            have HU8 := Lib.hid (HU7.out.trans u8)
            have r1 := (u8.cell (World.block_lt_of_cell? wr _ q1)).trans q1
            have r2 := (u8.cell (World.block_lt_of_cell? wr _ q2)).trans q2
            clear u8 q1 q2
            go_wp2_with fail
            refine (HOB.out _).mono ?_
            rintro e w9 ⟨rfl, u9⟩
            have HU9 := Lib.hid (HU8.out.trans u9)
            have p1 := (u9.cell (World.block_lt_of_cell? w8 _ r1)).trans r1
            have p2 := (u9.cell (World.block_lt_of_cell? w8 _ r2)).trans r2
            clear u9 r1 r2
            have j1 : (0 : Int) ≤ (k : Int) := by omega
            have j2 : (k : Int) < (m : Int) := by omega
            cases bx with
            | false =>
              have hne := HF.out (.inl rfl)
              go_wp2_with fail
              go_quiet (fail)
              go_wp2_with fail
              go_roundw
              case rel => exact ⟨k + 1, by omega, by go_num, HU9.out.trans (Up.drewN _ _)⟩
              case measure => simp only [intOf]; omega
            | true =>
              cases by' with
              | true =>
                have hne := HF.out (.inr rfl)
                have hqn : ((bs X).toList != (bs Y).toList) = false := by unfold bne; rw [hqq]; rfl
                go_wp2_with fail
                go_quiet (fail)
                go_wp2_with fail
                go_roundw
                case rel => exact ⟨k + 1, by omega, by go_num, HU9.out.trans (Up.drewN _ _)⟩
                case measure => simp only [intOf]; omega
              | false =>
                have hqn : ((bs X).toList != (bs Y).toList) = true := by unfold bne; rw [hqq]; rfl
                go_wp2_with fail
                go_quiet (fail)
                go_wp2_with fail
                go_ret
                exact ⟨rfl, HU6.out.trans (HU9.out.trans (Up.drewN _ _))⟩
  · have hne : (chkT z0 != 0) = true := by rw [bne_iff_ne]; exact hE
    have hr0 : rootV z0 = 0 := if_neg hE
    rw [hr0] at HR
    generalize chkT z0 = E at *
    clear hE hr0 hlen w0 HLIT hcc w3 hlen3
    go_enter Try.func7, Try.ntmps7
    go_wp2_with fail
    refine HRC.out.mono ?_
    rintro e w1 ⟨rfl, u1⟩
    have HU1 := Lib.hid ((Up.alloc _ _).trans u1)
    clear u1
    go_wp2_with fail
    refine (HR.out _ HU1.out).mono ?_
    rintro e w2 ⟨rfl, u2⟩
    have HU2 := Lib.hid (HU1.out.trans u2)
    clear u2
    go_wp2_with fail
    go_ret
    exact ⟨rfl, HU2.out⟩

theorem treeBinds_walk (a0 : Option Addr) (len0 cap0 : Nat) (z0 : List (List UInt8)) (a1 : Int) (a2 : ByteArray) (a3 : Option Addr) (len3 cap3 : Nat) (z3 : List (Bool × Int)) (w : World) (w0 : Txs w (.slice a0 len0 cap0) z0) (_w1 : (Lit.int .i64 a1).wf = true) (_w2 : a2.size ≤ 140737488351232) (w3 : Stps w (.slice a3 len3 cap3) z3) :
    Calls Try.prog 7 #[.slice a0 len0 cap0, .int .i64 a1, .string a2, .slice a3 len3 cap3] w fun e w' => e = .returned (.bool true) ∧ Up w w' := by
  have := treeBinds_core a0 len0 cap0 z0 a1 a2.data.toList a3 len3 cap3 z3 w w0 w3
  rwa [bs_of] at this

end Go.Proofs.Ytacbhjjmbepngaa
