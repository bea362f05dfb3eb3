/-
  The law TreeClashes, walked: for every two lists the Go text returns true; nothing that was there turns. Conditions: as each says.
-/
import Derived.Test.YtacbhjjmbepngaaRefTree3
import Derived.Test.YtacbhjjmbepngaaRefTree4
import Derived.Test.YtacbhjjmbepngaaLawTree5
import Derived.Test.YtacbhjjmbepngaaLawSync1
namespace Go.Proofs.Ytacbhjjmbepngaa
open Go.RowKit
open Go.Proofs
open WoolTree

set_option maxRecDepth 100000 in
set_option maxHeartbeats 4000000 in
theorem treeClashes_walk (a0 : Option Addr) (len0 cap0 : Nat) (z0 : List (List UInt8)) (a1 : Option Addr) (len1 cap1 : Nat) (z1 : List (List UInt8)) (w : World) (w0 : Txs w (.slice a0 len0 cap0) z0) (w1 : Txs w (.slice a1 len1 cap1) z1) :
    Calls Try.prog 5 #[.slice a0 len0 cap0, .slice a1 len1 cap1] w fun e w' => e = .returned (.bool true) ∧ Up w w' := by
  have HCL := Lib.hid (fun W (hW : Up w W) => clash_any _ _ z0 z1 W (w0.up hW) (w1.up hW))
  have HCM := Lib.hid (fun W (hW : Up w W) => compareT_any _ _ z0 z1 W (w0.up hW) (w1.up hW))
  have HLA := Lib.hid (fun W (hW : Up w W) => refLeaves_any _ z0 W (w0.up hW))
  have HLB := Lib.hid (fun W (hW : Up w W) => refLeaves_any _ z1 W (w1.up hW))
  unfold CmpPost at HCM
  have hem := empty_eq
  obtain ⟨hlen0, _⟩ := w0.len
  obtain ⟨hlen1, _⟩ := w1.len
  by_cases hcp : cpE z0 z1 = 0
  · obtain ⟨ha, hb, hl⟩ := cpE_ok hcp
    obtain ⟨h0, h32, sa⟩ := chkT_ok ha
    obtain ⟨_, _, sb⟩ := chkT_ok hb
    have hv : cpV z0 z1 = cm TH z0.length z0 z1 0 := if_pos hcp
    have hcl := cpV_len z0 z1
    rw [hcp] at HCM
    rw [ha] at HLA
    rw [hb] at HLB
    have HRC := Lib.hid (fun W (hW : Up w W) => refCompare_any z0.length z0 z1 _ _ W (w0.up hW) (w1.up hW) ha hb hl (Nat.le_refl _))
    unfold RcPost at HRC
    rw [← hv] at HRC
    have HE2 := Lib.hid (fun W x y b1 b2 (h1 : Ints W b1 x (cpV z0 z1).1) (h2 : Ints W b2 y (cpV z0 z1).1) => equal_yes x y b1 b2 _ W (by omega) h1 h2)
    have HEQ := Lib.hid (fun W (hW : Up w W) => equalT_any _ _ z0 z1 W (by omega) (w0.up hW) (w1.up hW))
    have HR1 := Lib.hid (fun W (hW : Up w W) => refRoot_any z0.length z0 _ W (w0.up hW) ha (Nat.le_refl _))
    have HR2 := Lib.hid (fun W (hW : Up w W) => refRoot_any z1.length z1 _ W (w1.up hW) hb (Nat.le_refl _))
    have HKC := Lib.hid (fun W (hW : Up w W) => refClash_any _ _ z0 z1 W (w0.up hW) (w1.up hW) ha hb hl)
    generalize cpV z0 z1 = r at *
    obtain ⟨r1, r2⟩ := r
    simp only at HCM HRC HE2
    have dr2 : ((r2 : Int) != (r2 : Int)) = false := by simp
    have hlen : len0 = len1 := by omega
    subst hlen
    have dm : ((len0 : Int) != (len0 : Int)) = false := by simp
    cases he : (z0 == z1) with
    | true =>
      rw [clR_none hcp (by rw [he]; rfl)] at HCL
      rw [he] at HEQ
      clear hcp ha hb hl h0 h32 sa sb w0 w1 hlen0 hlen1 he hv hcl
      go_enter Try.func5, Try.ntmps5
      go_wp2_with fail
      refine (HCL.out _ (Up.refl _)).mono ?_
      rintro e w1 ⟨rfl, u1⟩
      have HU1 := Lib.hid u1
      clear u1
      go_wp2_with fail
      refine (HCM.out _ HU1.out).mono ?_
      rintro e w2 ⟨v2, rfl, hi2, u2⟩
      obtain ⟨o2, c2, hv2⟩ := hi2.shape
      subst hv2
      have HI2 := Lib.hid hi2
      have HU2 := Lib.hid (HU1.out.trans u2)
      clear hi2 u2
      go_wp2_with fail
      refine (HLA.out _ HU2.out).mono ?_
      rintro e w3 ⟨rfl, rfl⟩
      go_wp2_with fail
      refine (HLB.out _ HU2.out).mono ?_
      rintro e w3 ⟨rfl, rfl⟩
      go_wp2_with fail
      refine (HRC.out _ HU2.out).mono ?_
      rintro e w4 ⟨v4, rfl, hi4, u4⟩
      obtain ⟨o4, c4, hv4⟩ := hi4.shape
      subst hv4
      have HI4 := Lib.hid hi4
      have HI24 := Lib.hid (HI2.out.up u4)
      have HU4 := Lib.hid (HU2.out.trans u4)
      clear hi4 u4 HI2
      go_wp2_with fail
      refine (HE2.out _ _ _ _ _ HI24.out HI4.out).mono ?_
      rintro e w5 ⟨rfl, u5⟩
      have HU5 := Lib.hid (HU4.out.trans u5)
      clear u5
      go_wp2_with fail
      refine (HEQ.out _ HU5.out).mono ?_
      rintro e w6 ⟨rfl, u6⟩
      have HU6 := Lib.hid (HU5.out.trans u6)
      clear u6
      go_wp2_with fail
      go_ret
      exact ⟨rfl, HU6.out⟩
    | false =>
      rw [he] at HEQ
      by_cases hr : rtx TH z0 = rtx TH z1
      · have dr : ((rtx TH z0 : Int) != (rtx TH z1 : Int)) = false := by rw [hr]; simp
        rw [clR_ok hcp (by rw [he, dr]; rfl)] at HCL
        generalize (clash TH z0 z1).1 = S at *
        generalize (clash TH z0 z1).2 = T at *
        generalize rtx TH z0 = RA at *
        generalize rtx TH z1 = RB at *
        clear hr hcp ha hb hl h0 h32 sa sb w0 w1 hlen0 hlen1 he hv hcl
        go_enter Try.func5, Try.ntmps5
        go_wp2_with fail
        refine (HCL.out _ (Up.refl _)).mono ?_
        rintro e w1 ⟨rfl, u1⟩
        have HU1 := Lib.hid u1
        clear u1
        go_wp2_with fail
        refine (HCM.out _ HU1.out).mono ?_
        rintro e w2 ⟨v2, rfl, hi2, u2⟩
        obtain ⟨o2, c2, hv2⟩ := hi2.shape
        subst hv2
        have HI2 := Lib.hid hi2
        have HU2 := Lib.hid (HU1.out.trans u2)
        clear hi2 u2
        go_wp2_with fail
        refine (HLA.out _ HU2.out).mono ?_
        rintro e w3 ⟨rfl, rfl⟩
        go_wp2_with fail
        refine (HLB.out _ HU2.out).mono ?_
        rintro e w3 ⟨rfl, rfl⟩
        go_wp2_with fail
        refine (HRC.out _ HU2.out).mono ?_
        rintro e w4 ⟨v4, rfl, hi4, u4⟩
        obtain ⟨o4, c4, hv4⟩ := hi4.shape
        subst hv4
        have HI4 := Lib.hid hi4
        have HI24 := Lib.hid (HI2.out.up u4)
        have HU4 := Lib.hid (HU2.out.trans u4)
        clear hi4 u4 HI2
        go_wp2_with fail
        refine (HE2.out _ _ _ _ _ HI24.out HI4.out).mono ?_
        rintro e w5 ⟨rfl, u5⟩
        have HU5 := Lib.hid (HU4.out.trans u5)
        clear u5
        go_wp2_with fail
        refine (HEQ.out _ HU5.out).mono ?_
        rintro e w6 ⟨rfl, u6⟩
        have HU6 := Lib.hid (HU5.out.trans u6)
        clear u6
        go_wp2_with fail
        refine (HR1.out _ HU6.out).mono ?_
        rintro e w7 ⟨rfl, u7⟩
        have HU7 := Lib.hid (HU6.out.trans u7)
        clear u7
        go_wp2_with fail
        refine (HR2.out _ HU7.out).mono ?_
        rintro e w8 ⟨rfl, u8⟩
        have HU8 := Lib.hid (HU7.out.trans u8)
        clear u8
        go_wp2_with fail
        refine (HKC.out _ HU8.out).mono ?_
        rintro e w9 ⟨rfl, u9⟩
        go_wp2_with fail
        go_ret
        exact ⟨rfl, HU8.out.trans u9⟩
      · have dr : ((rtx TH z0 : Int) != (rtx TH z1 : Int)) = true := by rw [bne_iff_ne]; omega
        rw [clR_none hcp (by rw [dr, Bool.or_true])] at HCL
        generalize rtx TH z0 = RA at *
        generalize rtx TH z1 = RB at *
        clear hr hcp ha hb hl h0 h32 sa sb w0 w1 hlen0 hlen1 he hv hcl
        go_enter Try.func5, Try.ntmps5
        go_wp2_with fail
        refine (HCL.out _ (Up.refl _)).mono ?_
        rintro e w1 ⟨rfl, u1⟩
        have HU1 := Lib.hid u1
        clear u1
        go_wp2_with fail
        refine (HCM.out _ HU1.out).mono ?_
        rintro e w2 ⟨v2, rfl, hi2, u2⟩
        obtain ⟨o2, c2, hv2⟩ := hi2.shape
        subst hv2
        have HI2 := Lib.hid hi2
        have HU2 := Lib.hid (HU1.out.trans u2)
        clear hi2 u2
        go_wp2_with fail
        refine (HLA.out _ HU2.out).mono ?_
        rintro e w3 ⟨rfl, rfl⟩
        go_wp2_with fail
        refine (HLB.out _ HU2.out).mono ?_
        rintro e w3 ⟨rfl, rfl⟩
        go_wp2_with fail
        refine (HRC.out _ HU2.out).mono ?_
        rintro e w4 ⟨v4, rfl, hi4, u4⟩
        obtain ⟨o4, c4, hv4⟩ := hi4.shape
        subst hv4
        have HI4 := Lib.hid hi4
        have HI24 := Lib.hid (HI2.out.up u4)
        have HU4 := Lib.hid (HU2.out.trans u4)
        clear hi4 u4 HI2
        go_wp2_with fail
        refine (HE2.out _ _ _ _ _ HI24.out HI4.out).mono ?_
        rintro e w5 ⟨rfl, u5⟩
        have HU5 := Lib.hid (HU4.out.trans u5)
        clear u5
        go_wp2_with fail
        refine (HEQ.out _ HU5.out).mono ?_
        rintro e w6 ⟨rfl, u6⟩
        have HU6 := Lib.hid (HU5.out.trans u6)
        clear u6
        go_wp2_with fail
        refine (HR1.out _ HU6.out).mono ?_
        rintro e w7 ⟨rfl, u7⟩
        have HU7 := Lib.hid (HU6.out.trans u7)
        clear u7
        go_wp2_with fail
        refine (HR2.out _ HU7.out).mono ?_
        rintro e w8 ⟨rfl, u8⟩
        have HU8 := Lib.hid (HU7.out.trans u8)
        clear u8
        go_wp2_with fail
        go_ret
        exact ⟨rfl, HU8.out⟩
  · rw [clR_err hcp] at HCL
    have hv : cpV z0 z1 = ([], 0) := if_neg hcp
    rw [hv] at HCM
    simp only at HCM
    by_cases ha : chkT z0 = 0
    · rw [ha] at HLA
      by_cases hb : chkT z1 = 0
      · rw [hb] at HLB
        have hl : z0.length ≠ z1.length := by
          intro hl
          apply hcp
          unfold cpE
          rw [if_neg (by rw [ha]; simp), if_neg (by rw [hb]; simp), if_neg (by omega)]
        have hce : cpE z0 z1 = 11 := by unfold cpE; rw [if_neg (by rw [ha]; simp), if_neg (by rw [hb]; simp), if_pos hl]
        rw [hce] at HCL HCM
        have dm : ((len0 : Int) != (len1 : Int)) = true := by rw [bne_iff_ne]; omega
        clear hcp ha hb hl w0 w1 hlen0 hlen1 hv hce
        go_enter Try.func5, Try.ntmps5
        go_wp2_with fail
        refine (HCL.out _ (Up.refl _)).mono ?_
        rintro e w1 ⟨rfl, u1⟩
        have HU1 := Lib.hid u1
        clear u1
        go_wp2_with fail
        refine (HCM.out _ HU1.out).mono ?_
        rintro e w2 ⟨v2, rfl, hi2, u2⟩
        obtain ⟨o2, c2, hv2⟩ := hi2.shape
        subst hv2
        have HI2 := Lib.hid hi2
        have HU2 := Lib.hid (HU1.out.trans u2)
        clear hi2 u2
        go_wp2_with fail
        refine (HLA.out _ HU2.out).mono ?_
        rintro e w3 ⟨rfl, rfl⟩
        go_wp2_with fail
        refine (HLB.out _ HU2.out).mono ?_
        rintro e w3 ⟨rfl, rfl⟩
        go_wp2_with fail
        go_ret
        exact ⟨rfl, HU2.out⟩
      · have hce : cpE z0 z1 = chkT z1 := by unfold cpE; rw [if_neg (by rw [ha]; simp), if_pos hb]
        rw [hce] at HCL HCM
        have eb : (chkT z1 != 0) = true := by rw [bne_iff_ne]; exact hb
        have eb2 : (chkT z1 == 0) = false := by rw [beq_eq_false_iff_ne]; exact hb
        have ee : (chkT z1 == chkT z1) = true := by simp
        generalize chkT z1 = E at *
        clear hcp ha hb w0 w1 hlen0 hlen1 hv hce
        go_enter Try.func5, Try.ntmps5
        go_wp2_with fail
        refine (HCL.out _ (Up.refl _)).mono ?_
        rintro e w1 ⟨rfl, u1⟩
        have HU1 := Lib.hid u1
        clear u1
        go_wp2_with fail
        refine (HCM.out _ HU1.out).mono ?_
        rintro e w2 ⟨v2, rfl, hi2, u2⟩
        obtain ⟨o2, c2, hv2⟩ := hi2.shape
        subst hv2
        have HI2 := Lib.hid hi2
        have HU2 := Lib.hid (HU1.out.trans u2)
        clear hi2 u2
        go_wp2_with fail
        refine (HLA.out _ HU2.out).mono ?_
        rintro e w3 ⟨rfl, rfl⟩
        go_wp2_with fail
        refine (HLB.out _ HU2.out).mono ?_
        rintro e w3 ⟨rfl, rfl⟩
        go_wp2_with fail
        go_ret
        exact ⟨rfl, HU2.out⟩
    · have hce : cpE z0 z1 = chkT z0 := by unfold cpE; rw [if_pos ha]
      rw [hce] at HCL HCM
      have eb : (chkT z0 != 0) = true := by rw [bne_iff_ne]; exact ha
      have eb2 : (chkT z0 == 0) = false := by rw [beq_eq_false_iff_ne]; exact ha
      have ee : (chkT z0 == chkT z0) = true := by simp
      generalize chkT z0 = E at *
      clear hcp ha w0 w1 hlen0 hlen1 hv hce
      go_enter Try.func5, Try.ntmps5
      go_wp2_with fail
      refine (HCL.out _ (Up.refl _)).mono ?_
      rintro e w1 ⟨rfl, u1⟩
      have HU1 := Lib.hid u1
      clear u1
      go_wp2_with fail
      refine (HCM.out _ HU1.out).mono ?_
      rintro e w2 ⟨v2, rfl, hi2, u2⟩
      obtain ⟨o2, c2, hv2⟩ := hi2.shape
      subst hv2
      have HI2 := Lib.hid hi2
      have HU2 := Lib.hid (HU1.out.trans u2)
      clear hi2 u2
      go_wp2_with fail
      refine (HLA.out _ HU2.out).mono ?_
      rintro e w3 ⟨rfl, rfl⟩
      go_wp2_with fail
      go_ret
      exact ⟨rfl, HU2.out⟩

end Go.Proofs.Ytacbhjjmbepngaa
