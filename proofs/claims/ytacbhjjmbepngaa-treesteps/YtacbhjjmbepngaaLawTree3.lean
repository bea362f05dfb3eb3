/-
  The law TreeSteps, walked: for every list and all numbers the Go text returns true; nothing that was there turns. Conditions: as each says.
-/
import Derived.Test.YtacbhjjmbepngaaLawTree1
namespace Go.Proofs.Ytacbhjjmbepngaa
open Go.RowKit
open Go.Proofs
open WoolTree

theorem steps_abc : prfE [[97], [98], [99]] 2 = 0 ∧ (prfV [[97], [98], [99]] 2).map Prod.fst = [true] := by decide +kernel

theorem shl_one (j K : Nat) (hj : j ≤ 60) (hK : 2 ^ j = K) : wrap64 ((2 : Int) ^ j) = (K : Int) := by
  have h : 2 ^ j ≤ 2 ^ 60 := Nat.pow_le_pow_right (by omega) hj
  have h6 : (2 : Nat) ^ 60 = 1152921504606846976 := by decide
  have e : ((2 : Int) ^ j) = (K : Int) := by rw [← hK]; simp
  rw [e]
  unfold wrap64
  omega

/-- how many levels there are, counted up -/
def LvlRel (n : Nat) (i : Value) : Prop := ∃ j : Nat, j ≤ 5 ∧ (∀ k, k < j → 2 ^ k < n) ∧ i = .int .i64 (j : Int)

set_option maxRecDepth 100000 in
set_option maxHeartbeats 1000000 in
theorem treeSteps_walk (a0 : Option Addr) (len0 cap0 : Nat) (z0 : List (List UInt8)) (a1 : Int) (w : World) (w0 : Txs w (.slice a0 len0 cap0) z0) (_w1 : (Lit.int .i64 a1).wf = true) :
    Calls Try.prog 12 #[.slice a0 len0 cap0, .int .i64 a1] w fun e w' => e = .returned (.bool true) ∧ Up w w' := by
  have HLIT := Lib.hid (Txs.lit w [[97], [98], [99]] 3 rfl (by omega))
  have HPC := Lib.hid (proofT_any _ _ 2 _ HLIT.out)
  unfold PrPost at HPC
  obtain ⟨hc0, hc1⟩ := steps_abc
  rw [hc0] at HPC
  obtain ⟨c0, hcc⟩ : ∃ c, prfV [[97], [98], [99]] 2 = c := ⟨_, rfl⟩
  rw [hcc] at HPC hc1
  obtain ⟨x, rfl⟩ : ∃ x, c0 = [(true, x)] := by
    match c0, hc1 with
    | [(b, x)], h => exact ⟨x, by simp at h; rw [h]⟩
    | [], h => simp at h
    | _ :: _ :: _, h => simp at h
  have HW0 := Lib.hid w0
  have HR := Lib.hid (fun W (hW : Up w W) => rootT_any _ z0 W (w0.up hW))
  obtain ⟨hlen, hcap⟩ := w0.len
  clear hc0 hc1 hcc
  by_cases hE : chkT z0 = 0
  · obtain ⟨h0, h32, hs⟩ := chkT_ok hE
    rw [hE] at HR
    have hI : within a1 z0.length < z0.length := within_lt a1 _ h0
    have HWI := Lib.hid (fun W => within_any a1 (z0.length : Int) W (by omega) (by omega))
    rw [Int.toNat_natCast] at HWI
    obtain ⟨I, hII⟩ : ∃ I, within a1 z0.length = I := ⟨_, rfl⟩
    rw [hII] at HWI hI
    have HP := Lib.hid (fun W (hW : Up w W) => proofT_any _ z0 (I : Int) W (w0.up hW))
    have HP2 := Lib.hid (fun W (hW : Up w W) => proofT_any _ z0 ((z0.length - 1 : Nat) : Int) W (w0.up hW))
    unfold PrPost at HP HP2
    rw [(prfV_ok hE hI).1] at HP
    rw [(prfV_ok hE (show z0.length - 1 < z0.length by omega)).1] at HP2
    have hl1 : ∀ k, z0.length ≤ 2 ^ k → (prfV z0 (I : Int)).length ≤ k := by
      intro k hk
      rw [(prfV_ok hE hI).2]
      unfold stI
      rw [List.length_map]
      exact prf_length TH k _ _ (by rw [lh_length]; exact hI) (by rw [lh_length]; exact h32) (by rw [lh_length]; exact hk)
    have hl2 : 0 < (prfV z0 ((z0.length - 1 : Nat) : Int)).length ↔ 1 < z0.length := by
      rw [(prfV_ok hE (show z0.length - 1 < z0.length by omega)).2]
      unfold stI
      rw [List.length_map]
      have := prf_last TH (lh TH z0) (by rw [lh_length]; exact h0) (by rw [lh_length]; exact h32)
      rw [lh_length] at this
      exact this
    have hl5 := hl1 5 (by omega)
    have hm5 : (prfV z0 ((z0.length - 1 : Nat) : Int)).length ≤ 5 := by
      rw [(prfV_ok hE (show z0.length - 1 < z0.length by omega)).2]
      unfold stI
      rw [List.length_map]
      exact pf_length TH 5 _ _
    rw [← hlen] at HWI HP2 hI hl1 hl2 h0 h32 hm5
    have hsub : (len0 : Int) - 1 = ((len0 - 1 : Nat) : Int) := by omega
    generalize rootV z0 = R at *
    generalize prfV z0 (I : Int) = P at *
    generalize prfV z0 ((len0 - 1 : Nat) : Int) = Q at *
    have HL1 := Lib.hid hl1
    have HL2 := Lib.hid hl2
    obtain ⟨M, hM⟩ : ∃ M, len0 - 1 = M := ⟨_, rfl⟩
    rw [hM] at HP2 hsub
    clear hE hs hlen w0 HLIT hII hl1 hl2 hM hI
    go_enter Try.func12, Try.ntmps12
    go_wp2_with fail
    refine HPC.out.mono ?_
    rintro e w1 ⟨v1, rfl, hst1, u1⟩
    have HS1 := Lib.hid hst1.stps
    obtain ⟨o1, c1, rfl, _, _⟩ := hst1.stps.slice
    obtain ⟨b1, f1, rfl, hat⟩ := HS1.out.at (by simp)
    obtain ⟨q1, _⟩ := hat 0 (by simp)
    simp only [List.getElem_cons_zero, Nat.zero_mul, Nat.add_zero, List.length_singleton] at q1 ⊢
    have HU1 := Lib.hid ((Up.alloc _ _).trans u1)
    clear u1 hst1 hat HS1
    go_wp2_with fail
    refine (HR.out _ HU1.out).mono ?_
    rintro e w2 ⟨rfl, u2⟩
    have HU2 := Lib.hid (HU1.out.trans u2)
    clear u2
    go_wp2_with fail
    refine (HWI.out _).mono ?_
    rintro e w3 ⟨rfl, rfl⟩
    go_wp2_with fail
    refine (HP.out _ HU2.out).mono ?_
    rintro e w3 ⟨v3, rfl, hst3, u3⟩
    obtain ⟨o3, c3, rfl, _, _⟩ := hst3.stps.slice
    have HU3 := Lib.hid (HU2.out.trans u3)
    clear hst3 u3
    go_wp2_with fail
    refine (HP2.out _ HU3.out).mono ?_
    rintro e w4 ⟨v4, rfl, hst4, u4⟩
    obtain ⟨o4, c4, rfl, _, _⟩ := hst4.stps.slice
    have HU4 := Lib.hid (HU3.out.trans u4)
    clear hst4 u4
    obtain ⟨p, hp⟩ : ∃ p, P.length = p := ⟨_, rfl⟩
    obtain ⟨q, hq⟩ : ∃ q, Q.length = q := ⟨_, rfl⟩
    rw [hp] at HL1 hl5 ⊢
    rw [hq] at HL2 hm5 ⊢
    clear hp hq
    go_wp2_with fail
    go_loop [13] (fun i => LvlRel len0 i) (fun i => 6 - (intOf i).toNat)
    case atStart => exact ⟨0, by omega, fun k hk => by omega, rfl⟩
    case round =>
      obtain ⟨j, hj, hk, rfl⟩ := hrel
      have HK := Lib.hid hk
      clear hk
      obtain ⟨K, hKK⟩ : ∃ K, 2 ^ j = K := ⟨_, rfl⟩
      have HKK := Lib.hid hKK
      have hsh := shl_one j K (by omega) hKK
      clear hKK
      by_cases h3 : K < len0
      · have d3 : decide (K < len0) = true := decide_eq_true h3
        have hj4 : j + 1 ≤ 5 := by
          apply Nat.lt_of_not_le
          intro h5
          have : j = 5 := by omega
          subst this
          have := HKK.out
          simp at this
          omega
        go_wp2_with fail
        go_round
        case rel =>
          refine ⟨j + 1, hj4, fun k hk => ?_, by go_num⟩
          by_cases e : k = j
          · subst e; rw [HKK.out]; exact h3
          · exact HK.out k (by omega)
        case measure => simp only [intOf]; omega
      · have d3 : decide (K < len0) = false := decide_eq_false h3
        have hpj : p ≤ j := HL1.out j (by rw [HKK.out]; omega)
        have dp : decide (p ≤ j) = true := decide_eq_true hpj
        by_cases hq : 0 < q
        · have h1 := HL2.out.1 hq
          have e1 : decide (0 < q) = true := decide_eq_true hq
          have e2 : decide ((q : Int) > 0) = true := decide_eq_true (by omega)
          have e3 : decide (0 < (q : Int)) = true := decide_eq_true (by omega)
          have e4 : decide ((len0 : Int) > 1) = true := decide_eq_true (by omega)
          have e5 : decide (1 < (len0 : Int)) = true := decide_eq_true (by omega)
          go_wp2_with fail
          go_ret
          exact ⟨rfl, HU4.out⟩
        · have h1 : ¬ 1 < len0 := fun h => hq (HL2.out.2 h)
          have e1 : decide (0 < q) = false := decide_eq_false hq
          have e2 : decide ((q : Int) > 0) = false := decide_eq_false (by omega)
          have e3 : decide (0 < (q : Int)) = false := decide_eq_false (by omega)
          have e4 : decide ((len0 : Int) > 1) = false := decide_eq_false (by omega)
          have e5 : decide (1 < (len0 : Int)) = false := decide_eq_false (by omega)
          go_wp2_with fail
          go_ret
          exact ⟨rfl, HU4.out⟩
  · have hne : (chkT z0 != 0) = true := by rw [bne_iff_ne]; exact hE
    obtain ⟨R, hRR⟩ : ∃ R, rootV z0 = R := ⟨_, rfl⟩
    obtain ⟨E, hEE⟩ : ∃ E, chkT z0 = E := ⟨_, rfl⟩
    rw [hEE, hRR] at HR
    rw [hEE] at hne
    clear hE hRR hEE hlen w0 HLIT
    go_enter Try.func12, Try.ntmps12
    go_wp2_with fail
    refine HPC.out.mono ?_
    rintro e w1 ⟨v1, rfl, hst1, u1⟩
    have HS1 := Lib.hid hst1.stps
    obtain ⟨o1, c1, rfl, _, _⟩ := hst1.stps.slice
    obtain ⟨b1, f1, rfl, hat⟩ := HS1.out.at (by simp)
    obtain ⟨q1, _⟩ := hat 0 (by simp)
    simp only [List.getElem_cons_zero, Nat.zero_mul, Nat.add_zero, List.length_singleton] at q1 ⊢
    have HU1 := Lib.hid ((Up.alloc _ _).trans u1)
    clear u1 hst1 hat HS1
    go_wp2_with fail
    refine (HR.out _ HU1.out).mono ?_
    rintro e w2 ⟨rfl, u2⟩
    have HU2 := Lib.hid (HU1.out.trans u2)
    clear u2
    go_wp2_with fail
    go_ret
    exact ⟨rfl, HU2.out⟩

end Go.Proofs.Ytacbhjjmbepngaa
