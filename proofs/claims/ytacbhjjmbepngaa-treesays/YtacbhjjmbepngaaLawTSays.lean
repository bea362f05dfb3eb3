/-
  The law TreeSays, walked: for every list and all numbers the Go text returns true; nothing that was there turns. Conditions: as each says.
-/
import Derived.Test.YtacbhjjmbepngaaRefTree2
import Derived.Test.YtacbhjjmbepngaaLawTree1
namespace Go.Proofs.Ytacbhjjmbepngaa
open Go.RowKit
open Go.Proofs
open WoolTree

theorem chk_nil : chkT [] = 4 := rfl

set_option maxRecDepth 100000 in
set_option maxHeartbeats 4000000 in
theorem treeSays_walk (a0 : Option Addr) (len0 cap0 : Nat) (z0 : List (List UInt8)) (a1 : Int) (w : World) (w0 : Txs w (.slice a0 len0 cap0) z0) (_w1 : (Lit.int .i64 a1).wf = true) :
    Calls Try.prog 3 #[.slice a0 len0 cap0, .int .i64 a1] w fun e w' => e = .returned (.bool true) ∧ Up w w' := by
  have HR := Lib.hid (fun W (hW : Up w W) => rootT_any _ z0 W (w0.up hW))
  have HP := Lib.hid (fun W (hW : Up w W) => proofT_any _ z0 a1 W (w0.up hW))
  have HLV := Lib.hid (fun W (hW : Up w W) => refLeaves_any _ z0 W (w0.up hW))
  have HCK := Lib.hid (fun W (hW : Up w W) => checkT_any _ z0 W (w0.up hW))
  have HCN := Lib.hid (fun W => checkT_any _ [] W (Txs.nil W))
  rw [chk_nil] at HCN
  unfold PrPost at HP
  obtain ⟨hlen, hcap⟩ := w0.len
  have dee : ∀ E : Int, (E != E) = false := fun E => by simp
  have dee2 : ∀ E : Int, (E == E) = true := fun E => by simp
  by_cases hE : chkT z0 = 0
  · obtain ⟨h0, h32, hs⟩ := chkT_ok hE
    have HRR := Lib.hid (fun W (hW : Up w W) => refRoot_any z0.length z0 _ W (w0.up hW) hE (Nat.le_refl _))
    rw [hE, rootV_ok hE] at HR
    rw [hE] at HLV HCK
    by_cases hi : a1 < 0 ∨ (z0.length : Int) ≤ a1
    · have hp : prfE z0 a1 = 1 := by unfold prfE; rw [if_neg (by rw [hE]; simp), if_pos hi]
      have hv : prfV z0 a1 = [] := by unfold prfV; rw [hp, if_neg (by omega)]
      rw [hp, hv] at HP
      rw [← hlen] at hi h0 h32
      generalize rtx TH z0 = R at *
      have drr := dee (R : Int)
      clear hE hs w0 hp hv hlen dee dee2
      by_cases hi0 : a1 < 0
      · have d1 : decide (a1 < 0) = true := decide_eq_true hi0
        clear hi
        go_enter Try.func3, Try.ntmps3
        go_wp2_with fail
        refine (HR.out _ (Up.refl _)).mono ?_
        rintro e w2 ⟨rfl, u2⟩
        have HU2 := Lib.hid u2
        clear u2
        go_wp2_with fail
        refine (HP.out _ HU2.out).mono ?_
        rintro e w3 ⟨v3, rfl, hst3, u3⟩
        have HS3 := Lib.hid hst3.stps
        obtain ⟨o3, c3, rfl, _, _⟩ := hst3.stps.slice
        have HU3 := Lib.hid (HU2.out.trans u3)
        clear hst3 u3
        go_wp2_with fail
        refine (HLV.out _ HU3.out).mono ?_
        rintro e w4 ⟨rfl, rfl⟩
        go_wp2_with fail
        refine (HCK.out _ HU3.out).mono ?_
        rintro e w5 ⟨rfl, u5⟩
        have HU5 := Lib.hid (HU3.out.trans u5)
        have HS5 := Lib.hid (HS3.out.up u5)
        clear u5 HS3
        go_wp2_with fail
        refine (HCN.out _).mono ?_
        rintro e w6 ⟨rfl, u6⟩
        have HU6 := Lib.hid (HU5.out.trans u6)
        have HS6 := Lib.hid (HS5.out.up u6)
        clear u6 HS5
        go_wp2_with fail
        refine (HRR.out _ HU6.out).mono ?_
        rintro e w7 ⟨rfl, u7⟩
        go_wp2_with fail
        go_ret
        exact ⟨rfl, HU6.out.trans u7⟩
      · have d1 : decide (a1 < 0) = false := decide_eq_false hi0
        have d2 : decide ((len0 : Int) ≤ a1) = true := decide_eq_true (by omega)
        have d3 : decide (a1 ≥ (len0 : Int)) = true := decide_eq_true (by omega)
        clear hi
        go_enter Try.func3, Try.ntmps3
        go_wp2_with fail
        refine (HR.out _ (Up.refl _)).mono ?_
        rintro e w2 ⟨rfl, u2⟩
        have HU2 := Lib.hid u2
        clear u2
        go_wp2_with fail
        refine (HP.out _ HU2.out).mono ?_
        rintro e w3 ⟨v3, rfl, hst3, u3⟩
        have HS3 := Lib.hid hst3.stps
        obtain ⟨o3, c3, rfl, _, _⟩ := hst3.stps.slice
        have HU3 := Lib.hid (HU2.out.trans u3)
        clear hst3 u3
        go_wp2_with fail
        refine (HLV.out _ HU3.out).mono ?_
        rintro e w4 ⟨rfl, rfl⟩
        go_wp2_with fail
        refine (HCK.out _ HU3.out).mono ?_
        rintro e w5 ⟨rfl, u5⟩
        have HU5 := Lib.hid (HU3.out.trans u5)
        have HS5 := Lib.hid (HS3.out.up u5)
        clear u5 HS3
        go_wp2_with fail
        refine (HCN.out _).mono ?_
        rintro e w6 ⟨rfl, u6⟩
        have HU6 := Lib.hid (HU5.out.trans u6)
        have HS6 := Lib.hid (HS5.out.up u6)
        clear u6 HS5
        go_wp2_with fail
        refine (HRR.out _ HU6.out).mono ?_
        rintro e w7 ⟨rfl, u7⟩
        go_wp2_with fail
        go_ret
        exact ⟨rfl, HU6.out.trans u7⟩
    · obtain ⟨I, rfl⟩ := Int.eq_ofNat_of_zero_le (show 0 ≤ a1 by omega)
      have hI : I < z0.length := by omega
      rw [(prfV_ok hE hI).1, (prfV_ok hE hI).2] at HP
      have HRP := Lib.hid (fun W (hW : Up w W) => refProof_any z0.length z0 I _ W (w0.up hW) hE (Nat.le_refl _) hI)
      unfold RpPost at HRP
      have hl5 : (stI (prf TH (lh TH z0) I)).length ≤ 5 := by unfold stI; rw [List.length_map]; exact pf_length TH 5 _ _
      have HEQ := Lib.hid (fun W x y (h1 : Stps W x (stI (prf TH (lh TH z0) I))) (h2 : Stps W y (stI (prf TH (lh TH z0) I))) => equalP_yes x y _ W (by omega) h1 h2)
      generalize stI (prf TH (lh TH z0) I) = PP at *
      rw [← hlen] at hI h0 h32
      have d1 : decide ((I : Int) < 0) = false := decide_eq_false (by omega)
      have d2 : decide (len0 ≤ I) = false := decide_eq_false (by omega)
      have d3 : decide ((I : Int) ≥ (len0 : Int)) = false := decide_eq_false (by omega)
      generalize rtx TH z0 = R at *
      have drr := dee (R : Int)
      clear hE hs w0 hlen dee dee2 hi
      go_enter Try.func3, Try.ntmps3
      go_wp2_with fail
      refine (HR.out _ (Up.refl _)).mono ?_
      rintro e w2 ⟨rfl, u2⟩
      have HU2 := Lib.hid u2
      clear u2
      go_wp2_with fail
      refine (HP.out _ HU2.out).mono ?_
      rintro e w3 ⟨v3, rfl, hst3, u3⟩
      have HS3 := Lib.hid hst3.stps
      obtain ⟨o3, c3, rfl, _, _⟩ := hst3.stps.slice
      have HU3 := Lib.hid (HU2.out.trans u3)
      clear hst3 u3
      go_wp2_with fail
      refine (HLV.out _ HU3.out).mono ?_
      rintro e w4 ⟨rfl, rfl⟩
      go_wp2_with fail
      refine (HCK.out _ HU3.out).mono ?_
      rintro e w5 ⟨rfl, u5⟩
      have HU5 := Lib.hid (HU3.out.trans u5)
      have HS5 := Lib.hid (HS3.out.up u5)
      clear u5 HS3
      go_wp2_with fail
      refine (HCN.out _).mono ?_
      rintro e w6 ⟨rfl, u6⟩
      have HU6 := Lib.hid (HU5.out.trans u6)
      have HS6 := Lib.hid (HS5.out.up u6)
      clear u6 HS5
      go_wp2_with fail
      refine (HRR.out _ HU6.out).mono ?_
      rintro e w7 ⟨rfl, u7⟩
      have HU7 := Lib.hid (HU6.out.trans u7)
      have HS7 := Lib.hid (HS6.out.up u7)
      clear u7 HS6
      go_wp2_with fail
      refine (HRP.out _ HU7.out).mono ?_
      rintro e w8 ⟨v8, rfl, ho8, u8⟩
      have HS8 := Lib.hid ho8.stps
      have HS78 := Lib.hid (HS7.out.up u8)
      have HU8 := Lib.hid (HU7.out.trans u8)
      clear ho8 u8 HS7
      go_wp2_with fail
      refine (HEQ.out _ _ _ HS78.out HS8.out).mono ?_
      rintro e w9 ⟨rfl, u9⟩
      go_wp2_with fail
      go_ret
      exact ⟨rfl, HU8.out.trans u9⟩
  · have hr0 : rootV z0 = 0 := if_neg hE
    have hp : prfE z0 a1 = chkT z0 := by unfold prfE; rw [if_pos hE]
    have hv : prfV z0 a1 = [] := by unfold prfV; rw [hp, if_neg hE]
    rw [hr0] at HR
    rw [hp, hv] at HP
    have hne : (chkT z0 != 0) = true := by rw [bne_iff_ne]; exact hE
    generalize chkT z0 = E at *
    have d1 := dee E
    have d2 := dee2 E
    clear hE hr0 hp hv w0 dee dee2 hlen
    go_enter Try.func3, Try.ntmps3
    go_wp2_with fail
    refine (HR.out _ (Up.refl _)).mono ?_
    rintro e w2 ⟨rfl, u2⟩
    have HU2 := Lib.hid u2
    clear u2
    go_wp2_with fail
    refine (HP.out _ HU2.out).mono ?_
    rintro e w3 ⟨v3, rfl, hst3, u3⟩
    have HS3 := Lib.hid hst3.stps
    obtain ⟨o3, c3, rfl, _, _⟩ := hst3.stps.slice
    have HU3 := Lib.hid (HU2.out.trans u3)
    clear hst3 u3
    go_wp2_with fail
    refine (HLV.out _ HU3.out).mono ?_
    rintro e w4 ⟨rfl, rfl⟩
    go_wp2_with fail
    refine (HCK.out _ HU3.out).mono ?_
    rintro e w5 ⟨rfl, u5⟩
    have HU5 := Lib.hid (HU3.out.trans u5)
    have HS5 := Lib.hid (HS3.out.up u5)
    clear u5 HS3
    go_wp2_with fail
    refine (HCN.out _).mono ?_
    rintro e w6 ⟨rfl, u6⟩
    have HU6 := Lib.hid (HU5.out.trans u6)
    have HS6 := Lib.hid (HS5.out.up u6)
    clear u6 HS5
    go_wp2_with fail
    go_ret
    exact ⟨rfl, HU6.out⟩

end Go.Proofs.Ytacbhjjmbepngaa
