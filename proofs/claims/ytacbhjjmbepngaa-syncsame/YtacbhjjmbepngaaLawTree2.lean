/-
  The law TreeHalves, walked: for every list the Go text returns true; nothing that was there turns. Conditions: as each says.
-/
import Derived.Test.YtacbhjjmbepngaaTreeF
namespace Go.Proofs.Ytacbhjjmbepngaa
open Go.RowKit
open Go.Proofs
open WoolTree

theorem chkT_of {l : List (List UInt8)} (h0 : 0 < l.length) (h32 : l.length ≤ 32) (hs : ∀ t ∈ l, t.length ≤ 64) : chkT l = 0 := by
  unfold chkT
  rw [if_neg (by omega), if_neg]
  simp only [Bool.or_eq_true, decide_eq_true_eq, List.any_eq_true, not_or, not_exists, not_and]
  exact ⟨by omega, fun t ht => by have := hs t ht; omega⟩

theorem chkT_take {l : List (List UInt8)} (h : chkT l = 0) (k : Nat) (h0 : 0 < k) (hk : k ≤ l.length) : chkT (l.take k) = 0 := by
  obtain ⟨_, h32, hs⟩ := chkT_ok h
  have hl : (l.take k).length = k := by rw [List.length_take]; omega
  exact chkT_of (by omega) (by omega) (fun t ht => hs t (List.mem_of_mem_take ht))

theorem chkT_drop {l : List (List UInt8)} (h : chkT l = 0) (k : Nat) (hk : k < l.length) : chkT (l.drop k) = 0 := by
  obtain ⟨_, h32, hs⟩ := chkT_ok h
  have hl : (l.drop k).length = l.length - k := List.length_drop
  exact chkT_of (by omega) (by omega) (fun t ht => hs t (List.mem_of_mem_drop ht))

theorem rootV_ok {l : List (List UInt8)} (h : chkT l = 0) : rootV l = ((rtx TH l : Nat) : Int) := if_pos h

theorem rtx_lt (l : List (List UInt8)) (h0 : 0 < l.length) (h32 : l.length ≤ 32) : rtx TH l < 1073741824 := by
  have h := it_root TH 5 (lh TH l) (by rw [lh_length]; exact h0) (by rw [lh_length]; exact h32)
  have hb := it_bound TH 1073741824 TH_lt 5 (lh TH l) (lh_bound TH _ TH_lt l)
  rw [h] at hb
  exact hb _ (by simp; rfl)

theorem root_a2 : chkT [[97]] = 0 ∧ rootV [[97]] = ((fp 1073741907 [108, 97] : Nat) : Int) ∧ fp 1073741907 [108, 97] ≠ 0 := by decide +kernel

/-- what doubles up to a number -/
def SpRel (n : Nat) (i : Value) : Prop := ∃ j K : Nat, K = 2 ^ j ∧ K < n ∧ i = .int .i64 (K : Int)

set_option maxRecDepth 100000 in
set_option maxHeartbeats 1000000 in
theorem treeHalves_walk (a0 : Option Addr) (len0 cap0 : Nat) (z0 : List (List UInt8)) (w : World) (w0 : Txs w (.slice a0 len0 cap0) z0) :
    Calls Try.prog 11 #[.slice a0 len0 cap0] w fun e w' => e = .returned (.bool true) ∧ Up w w' := by
  have HLIT := Lib.hid (Txs.lit w [[97]] 1 rfl (by omega))
  have HRC := Lib.hid (rootT_any _ _ _ HLIT.out)
  obtain ⟨hc0, hc1, hc2⟩ := root_a2
  rw [hc0, hc1] at HRC
  have HOF := Lib.hid (fun W => of_ok 1073741907 (bs [108, 97]) W (by omega) (by omega) (by rw [bs_size]; simp))
  rw [bs_list] at HOF
  obtain ⟨C, hC⟩ : ∃ c, fp 1073741907 [108, 97] = c := ⟨_, rfl⟩
  rw [hC] at HRC HOF hc2
  have dc : ((C : Int) == 0) = false := by rw [beq_eq_false_iff_ne]; omega
  have dc2 : ((C : Int) != (C : Int)) = false := by simp
  have HW0 := Lib.hid w0
  have HR := Lib.hid (fun W (hW : Up w W) => rootT_any _ z0 W (w0.up hW))
  obtain ⟨hlen, hcap⟩ := w0.len
  by_cases hE : chkT z0 = 0
  · obtain ⟨h0, h32, hs⟩ := chkT_ok hE
    rw [hE] at HR
    by_cases h2 : 2 ≤ len0
    · have d2 : decide ((len0 : Int) < 2) = false := decide_eq_false (by omega)
      have s1 := spn_lt z0.length (by omega)
      have s0 := spn_pos z0.length
      have hsu := spn_unique z0.length
      have hhalf := rtx_halves TH z0 (by omega) h32
      have lt1 := rtx_lt (z0.take (spn z0.length)) (by rw [List.length_take]; omega) (by rw [List.length_take]; omega)
      have lt2 := rtx_lt (z0.drop (spn z0.length)) (by rw [List.length_drop]; omega) (by rw [List.length_drop]; omega)
      have cA := chkT_take hE (spn z0.length) s0 (by omega)
      have cB := chkT_drop hE (spn z0.length) s1
      obtain ⟨oA, runA, rdA⟩ := w0.upto (spn z0.length) (by omega)
      obtain ⟨oB, runB, rdB⟩ := w0.from (spn z0.length) (by omega)
      have HRA := Lib.hid (fun W (hW : Up w W) => rootT_any _ _ W (rdA.up hW))
      have HRB := Lib.hid (fun W (hW : Up w W) => rootT_any _ _ W (rdB.up hW))
      rw [cA, rootV_ok cA] at HRA
      rw [cB, rootV_ok cB] at HRB
      rw [rootV_ok hE] at HR
      have HSD := Lib.hid (fun W => refSaid_any (rtx TH (z0.take (spn z0.length))) (rtx TH (z0.drop (spn z0.length))) W (by omega) (by omega))
      have HPO := Lib.hid (fun W => of_ok 1073741907 (bs (pr (rtx TH (z0.take (spn z0.length))) (rtx TH (z0.drop (spn z0.length))))) W (by omega) (by omega) (by rw [bs_size, pr_length]; omega))
      rw [bs_list] at HPO
      rw [show fp 1073741907 (pr (rtx TH (z0.take (spn z0.length))) (rtx TH (z0.drop (spn z0.length)))) = rtx TH z0 from hhalf.symm] at HPO
      have hsu' : ∀ j, 2 ^ j < len0 → len0 ≤ 2 * 2 ^ j → spn len0 = 2 ^ j := fun j a b => by rw [hlen]; exact hsu j (by omega) (by omega) (by omega)
      have HSU := Lib.hid hsu'
      rw [← hlen] at *
      generalize rtx TH z0 = R at *
      generalize rtx TH (z0.take (spn len0)) = RA at *
      generalize rtx TH (z0.drop (spn len0)) = RB at *
      generalize pr RA RB = P at *
      generalize spn len0 = K at *
      have drr : ((R : Int) == (R : Int)) = true := by simp
      clear hE hs w0 HLIT hC hc2 hsu hhalf lt1 lt2 cA cB rdA rdB hc0 hc1 hsu' h0
      go_enter Try.func11, Try.ntmps11
      go_wp2_with fail
      refine HRC.out.mono ?_
      rintro e w1 ⟨rfl, u1⟩
      have HU1 := Lib.hid ((Up.alloc _ _).trans u1)
      clear u1
      go_wp2_with fail
      refine (HOF.out _).mono ?_
      rintro e w2 ⟨rfl, u2⟩
      have HU2 := Lib.hid (HU1.out.trans u2)
      clear u2
      go_wp2_with fail
      refine (HR.out _ HU2.out).mono ?_
      rintro e w3 ⟨rfl, u3⟩
      have HU3 := Lib.hid (HU2.out.trans u3)
      clear u3
      go_wp2_with fail
      go_loop [7] (fun i => SpRel len0 i) (fun i => len0 - (intOf i).toNat)
      case atStart => exact ⟨0, 1, rfl, by omega, rfl⟩
      case round =>
        obtain ⟨j, k, hj, hk, rfl⟩ := hrel
        have HJ := Lib.hid hj
        have hj0 : 0 < k := by rw [hj]; exact Nat.pow_pos (by omega)
        clear hj
        by_cases h3 : 2 * k < len0
        · have d3 : decide (2 * (k : Int) < (len0 : Int)) = true := decide_eq_true (by omega)
          go_wp2_with fail
          go_round
          case rel => exact ⟨j + 1, 2 * k, by rw [Nat.pow_succ, ← HJ.out, Nat.mul_comm], h3, by go_num⟩
          case measure => simp only [intOf]; omega
        · have d3 : decide (2 * (k : Int) < (len0 : Int)) = false := decide_eq_false (by omega)
          have hkK : K = k := by have := HSU.out j (by rw [← HJ.out]; omega) (by rw [← HJ.out]; omega); rw [this, HJ.out]
          subst hkK
          go_wp2_with fail
          refine (HRA.out _ HU3.out).mono ?_
          rintro e w4 ⟨rfl, u4⟩
          have HU4 := Lib.hid (HU3.out.trans u4)
          clear u4
          go_wp2_with fail
          refine (HRB.out _ HU4.out).mono ?_
          rintro e w5 ⟨rfl, u5⟩
          have HU5 := Lib.hid (HU4.out.trans u5)
          clear u5
          go_wp2_with fail
          refine (HSD.out _).mono ?_
          rintro e w6 ⟨rfl, u6⟩
          have HU6 := Lib.hid (HU5.out.trans u6)
          clear u6
          go_wp2_with fail
          refine (HPO.out _).mono ?_
          rintro e w7 ⟨rfl, u7⟩
          have HU7 := Lib.hid (HU6.out.trans u7)
          clear u7
          go_wp2_with fail
          go_ret
          exact ⟨rfl, HU7.out⟩
    · have d2 : decide ((len0 : Int) < 2) = true := decide_eq_true (by omega)
      rw [rootV_ok hE] at HR
      generalize rtx TH z0 = R at *
      clear hE hs w0 HLIT hC hc2 hc0 hc1 hlen h0 h32
      go_enter Try.func11, Try.ntmps11
      go_wp2_with fail
      refine HRC.out.mono ?_
      rintro e w1 ⟨rfl, u1⟩
      have HU1 := Lib.hid ((Up.alloc _ _).trans u1)
      clear u1
      go_wp2_with fail
      refine (HOF.out _).mono ?_
      rintro e w2 ⟨rfl, u2⟩
      have HU2 := Lib.hid (HU1.out.trans u2)
      clear u2
      go_wp2_with fail
      refine (HR.out _ HU2.out).mono ?_
      rintro e w3 ⟨rfl, u3⟩
      have HU3 := Lib.hid (HU2.out.trans u3)
      clear u3
      go_wp2_with fail
      go_ret
      exact ⟨rfl, HU3.out⟩
  · have hne : (chkT z0 != 0) = true := by rw [bne_iff_ne]; exact hE
    have heq : (chkT z0 == 0) = false := by rw [beq_eq_false_iff_ne]; exact hE
    have hr0 : rootV z0 = 0 := if_neg hE
    rw [hr0] at HR
    obtain ⟨E, hEE⟩ : ∃ E, chkT z0 = E := ⟨_, rfl⟩
    rw [hEE] at HR hne heq
    clear hE hr0 hEE hlen w0 HLIT hC hc2 hc0 hc1
    go_enter Try.func11, Try.ntmps11
    go_wp2_with fail
    refine HRC.out.mono ?_
    rintro e w1 ⟨rfl, u1⟩
    have HU1 := Lib.hid ((Up.alloc _ _).trans u1)
    clear u1
    go_wp2_with fail
    refine (HOF.out _).mono ?_
    rintro e w2 ⟨rfl, u2⟩
    have HU2 := Lib.hid (HU1.out.trans u2)
    clear u2
    go_wp2_with fail
    refine (HR.out _ HU2.out).mono ?_
    rintro e w3 ⟨rfl, u3⟩
    have HU3 := Lib.hid (HU2.out.trans u3)
    clear u3
    go_wp2_with fail
    go_ret
    exact ⟨rfl, HU3.out⟩

end Go.Proofs.Ytacbhjjmbepngaa
