/-
  The law TreeClash, walked: for every two lists the Go text returns true; nothing that was there turns. Conditions: as each says.
-/
import Derived.Test.YtacbhjjmbepngaaTreeI
namespace Go.Proofs.Ytacbhjjmbepngaa
open Go.RowKit
open Go.Proofs
open WoolTree

theorem clash_aa : clR [[97]] [[97]] = .tuple #[.string (bs []), .string (bs []), .int .i64 4] := by
  have h : clE [[97]] [[97]] = 4 := by decide +kernel
  unfold clR clV
  rw [h]
  rfl

theorem clR_err {a b : List (List UInt8)} (h : cpE a b ≠ 0) : clR a b = .tuple #[.string (bs []), .string (bs []), .int .i64 (cpE a b)] := by
  have hce : clE a b = cpE a b := by unfold clE; rw [if_pos h]
  unfold clR clV
  rw [hce, if_neg h]

theorem clR_none {a b : List (List UInt8)} (h : cpE a b = 0) (h2 : ((a == b) || ((rtx TH a : Int) != (rtx TH b : Int))) = true) : clR a b = .tuple #[.string (bs []), .string (bs []), .int .i64 4] := by
  have hce : clE a b = 4 := by unfold clE; rw [if_neg (by rw [h]; simp), if_pos h2]
  unfold clR clV
  rw [hce]
  rfl

theorem clR_ok {a b : List (List UInt8)} (h : cpE a b = 0) (h2 : ((a == b) || ((rtx TH a : Int) != (rtx TH b : Int))) = false) : clR a b = .tuple #[.string (bs (clash TH a b).1), .string (bs (clash TH a b).2), .int .i64 0] := by
  have hce : clE a b = 0 := by unfold clE; rw [if_neg (by rw [h]; simp), if_neg (by rw [h2]; simp)]
  unfold clR clV
  rw [hce, if_pos rfl]

theorem empty_eq : (bs []).toList = [] := by rw [ByteArray.toList_eq]; rfl

theorem of_bs (s : List UInt8) (W : World) (h : s.length ≤ 600) : Calls Try.prog 33 #[.int .i64 1073741907, .string (bs s)] W fun e w' => e = .returned (.tuple #[.int .i64 ((TH s : Nat) : Int), .int .i64 0]) ∧ Up W w' := by
  have h := of_ok 1073741907 (bs s) W (by omega) (by omega) (by rw [bs_size]; exact h)
  rw [bs_list] at h
  exact h

set_option maxRecDepth 100000 in
set_option maxHeartbeats 2000000 in
theorem treeClash_walk (a0 : Option Addr) (len0 cap0 : Nat) (z0 : List (List UInt8)) (a1 : Option Addr) (len1 cap1 : Nat) (z1 : List (List UInt8)) (w : World) (w0 : Txs w (.slice a0 len0 cap0) z0) (w1 : Txs w (.slice a1 len1 cap1) z1) :
    Calls Try.prog 8 #[.slice a0 len0 cap0, .slice a1 len1 cap1] w fun e w' => e = .returned (.bool true) ∧ Up w w' := by
  have hl1 := Txs.lit w [[97]] 1 rfl (by omega)
  have hl2 := Txs.lit (w.alloc (.cells (fl txC [[97]]).toArray 9)) [[97]] 1 rfl (by omega)
  rw [show (w.alloc (.cells (fl txC [[97]]).toArray 9)).heap.size = w.heap.size + 1 by simp] at hl2
  have hcc := clash_any _ _ _ _ _ (hl1.up (Up.alloc _ _)) hl2
  rw [clash_aa] at hcc
  have HCC : Hid (Calls Try.prog 25 #[.slice (some ⟨w.heap.size, 0, none⟩) 1 1, .slice (some ⟨w.heap.size + 1, 0, none⟩) 1 1] ((w.alloc (.cells #[.string ⟨#[97]⟩] 9)).alloc (.cells #[.string ⟨#[97]⟩] 9)) fun e w' => e = .returned (.tuple #[.string (bs []), .string (bs []), .int .i64 4]) ∧ Up ((w.alloc (.cells #[.string ⟨#[97]⟩] 9)).alloc (.cells #[.string ⟨#[97]⟩] 9)) w') := hcc
  clear hcc
  have HR1 := Lib.hid (fun W (hW : Up w W) => rootT_any _ z0 W (w0.up hW))
  have HR2 := Lib.hid (fun W (hW : Up w W) => rootT_any _ z1 W (w1.up hW))
  have HCL := Lib.hid (fun W (hW : Up w W) => clash_any _ _ z0 z1 W (w0.up hW) (w1.up hW))
  have hem := empty_eq
  obtain ⟨hlen0, _⟩ := w0.len
  obtain ⟨hlen1, _⟩ := w1.len
  clear hl1 hl2
  by_cases hcp : cpE z0 z1 = 0
  · obtain ⟨ha, hb, hl⟩ := cpE_ok hcp
    obtain ⟨h0, h32, sa⟩ := chkT_ok ha
    obtain ⟨_, _, sb⟩ := chkT_ok hb
    have HEQ := Lib.hid (fun W (hW : Up w W) => equalT_any _ _ z0 z1 W (by omega) (w0.up hW) (w1.up hW))
    rw [ha, rootV_ok ha] at HR1
    rw [hb, rootV_ok hb] at HR2
    have hlen : len0 = len1 := by omega
    subst hlen
    have dm : ((len0 : Int) != (len0 : Int)) = false := by simp
    by_cases hr : rtx TH z0 = rtx TH z1
    · have dr : ((rtx TH z0 : Int) != (rtx TH z1 : Int)) = false := by rw [hr]; simp
      cases he : (z0 == z1) with
      | true =>
        rw [clR_none hcp (by rw [he, dr]; rfl)] at HCL
        rw [he] at HEQ
        generalize rtx TH z0 = RA at *
        generalize rtx TH z1 = RB at *
        clear hr hcp ha hb hl h0 h32 sa sb w0 w1 hlen0 hlen1 he
        go_enter Try.func8, Try.ntmps8
        go_wp2_with fail
        refine HCC.out.mono ?_
        rintro e w1 ⟨rfl, u1⟩
        have HU1 := Lib.hid (((Up.alloc _ _).trans (Up.alloc _ _)).trans u1)
        clear u1
        go_wp2_with fail
        refine (HR1.out _ HU1.out).mono ?_
        rintro e w2 ⟨rfl, u2⟩
        have HU2 := Lib.hid (HU1.out.trans u2)
        clear u2
        go_wp2_with fail
        refine (HR2.out _ HU2.out).mono ?_
        rintro e w3 ⟨rfl, u3⟩
        have HU3 := Lib.hid (HU2.out.trans u3)
        clear u3
        go_wp2_with fail
        refine (HCL.out _ HU3.out).mono ?_
        rintro e w4 ⟨rfl, u4⟩
        have HU4 := Lib.hid (HU3.out.trans u4)
        clear u4
        go_wp2_with fail
        refine (HEQ.out _ HU4.out).mono ?_
        rintro e w5 ⟨rfl, u5⟩
        go_wp2_with fail
        go_ret
        exact ⟨rfl, HU4.out.trans u5⟩
      | false =>
        rw [clR_ok hcp (by rw [he, dr]; rfl)] at HCL
        rw [he] at HEQ
        obtain ⟨k1, k2, k3, k4⟩ := clash_ok TH TH_lt32 z0 z1 hl h0 h32 hr (fun e => by rw [e, beq_self_eq_true] at he; cases he) sa sb
        have ht := txt_eqT (clash TH z0 z1).1 (clash TH z0 z1).2
        rw [show ((clash TH z0 z1).1 == (clash TH z0 z1).2) = false by rw [beq_eq_false_iff_ne]; exact k1] at ht
        have HO1 := Lib.hid (fun W => of_bs (clash TH z0 z1).1 W (by omega))
        have HO2 := Lib.hid (fun W => of_bs (clash TH z0 z1).2 W (by omega))
        rw [k2] at HO1
        generalize (clash TH z0 z1).1 = S at *
        generalize (clash TH z0 z1).2 = T at *
        generalize TH T = X at *
        have dx : ((X : Int) == (X : Int)) = true := by simp
        have ht2 : ((bs S).toList != (bs T).toList) = true := by unfold bne; rw [ht]; rfl
        generalize rtx TH z0 = RA at *
        generalize rtx TH z1 = RB at *
        clear hr hcp ha hb hl h0 h32 sa sb w0 w1 hlen0 hlen1 he k1 k2 k3 k4
        go_enter Try.func8, Try.ntmps8
        go_wp2_with fail
        refine HCC.out.mono ?_
        rintro e w1 ⟨rfl, u1⟩
        have HU1 := Lib.hid (((Up.alloc _ _).trans (Up.alloc _ _)).trans u1)
        clear u1
        go_wp2_with fail
        refine (HR1.out _ HU1.out).mono ?_
        rintro e w2 ⟨rfl, u2⟩
        have HU2 := Lib.hid (HU1.out.trans u2)
        clear u2
        go_wp2_with fail
        refine (HR2.out _ HU2.out).mono ?_
        rintro e w3 ⟨rfl, u3⟩
        have HU3 := Lib.hid (HU2.out.trans u3)
        clear u3
        go_wp2_with fail
        refine (HCL.out _ HU3.out).mono ?_
        rintro e w4 ⟨rfl, u4⟩
        have HU4 := Lib.hid (HU3.out.trans u4)
        clear u4
        go_wp2_with fail
        refine (HEQ.out _ HU4.out).mono ?_
        rintro e w5 ⟨rfl, u5⟩
        have HU5 := Lib.hid (HU4.out.trans u5)
        clear u5
        go_wp2_with fail
        refine (HO1.out _).mono ?_
        rintro e w6 ⟨rfl, u6⟩
        have HU6 := Lib.hid (HU5.out.trans u6)
        clear u6
        go_wp2_with fail
        refine (HO2.out _).mono ?_
        rintro e w7 ⟨rfl, u7⟩
        go_wp2_with fail
        go_ret
        exact ⟨rfl, HU6.out.trans u7⟩
    · have dr : ((rtx TH z0 : Int) != (rtx TH z1 : Int)) = true := by rw [bne_iff_ne]; omega
      rw [clR_none hcp (by rw [dr, Bool.or_true])] at HCL
      generalize rtx TH z0 = RA at *
      generalize rtx TH z1 = RB at *
      clear hr hcp ha hb hl h0 h32 sa sb w0 w1 hlen0 hlen1 HEQ
      go_enter Try.func8, Try.ntmps8
      go_wp2_with fail
      refine HCC.out.mono ?_
      rintro e w1 ⟨rfl, u1⟩
      have HU1 := Lib.hid (((Up.alloc _ _).trans (Up.alloc _ _)).trans u1)
      clear u1
      go_wp2_with fail
      refine (HR1.out _ HU1.out).mono ?_
      rintro e w2 ⟨rfl, u2⟩
      have HU2 := Lib.hid (HU1.out.trans u2)
      clear u2
      go_wp2_with fail
      refine (HR2.out _ HU2.out).mono ?_
      rintro e w3 ⟨rfl, u3⟩
      have HU3 := Lib.hid (HU2.out.trans u3)
      clear u3
      go_wp2_with fail
      refine (HCL.out _ HU3.out).mono ?_
      rintro e w4 ⟨rfl, u4⟩
      have HU4 := Lib.hid (HU3.out.trans u4)
      clear u4
      go_wp2_with fail
      go_ret
      exact ⟨rfl, HU4.out⟩
  · rw [clR_err hcp] at HCL
    have hne : (cpE z0 z1 != 0) = true := by rw [bne_iff_ne]; exact hcp
    by_cases ha : chkT z0 = 0
    · have ea : (chkT z0 != 0) = false := by rw [ha]; rfl
      by_cases hb : chkT z1 = 0
      · have eb : (chkT z1 != 0) = false := by rw [hb]; rfl
        have hl : z0.length ≠ z1.length := by
          intro hl
          apply hcp
          unfold cpE
          rw [if_neg (by rw [ha]; simp), if_neg (by rw [hb]; simp), if_neg (by omega)]
        have dm : ((len0 : Int) != (len1 : Int)) = true := by rw [bne_iff_ne]; omega
        generalize cpE z0 z1 = G at *
        generalize chkT z0 = E1 at *
        generalize chkT z1 = E2 at *
        generalize rootV z0 = RA at *
        generalize rootV z1 = RB at *
        clear hcp ha hb hl w0 w1 hlen0 hlen1
        go_enter Try.func8, Try.ntmps8
        go_wp2_with fail
        refine HCC.out.mono ?_
        rintro e w1 ⟨rfl, u1⟩
        have HU1 := Lib.hid (((Up.alloc _ _).trans (Up.alloc _ _)).trans u1)
        clear u1
        go_wp2_with fail
        refine (HR1.out _ HU1.out).mono ?_
        rintro e w2 ⟨rfl, u2⟩
        have HU2 := Lib.hid (HU1.out.trans u2)
        clear u2
        go_wp2_with fail
        refine (HR2.out _ HU2.out).mono ?_
        rintro e w3 ⟨rfl, u3⟩
        have HU3 := Lib.hid (HU2.out.trans u3)
        clear u3
        go_wp2_with fail
        refine (HCL.out _ HU3.out).mono ?_
        rintro e w4 ⟨rfl, u4⟩
        have HU4 := Lib.hid (HU3.out.trans u4)
        clear u4
        go_wp2_with fail
        go_ret
        exact ⟨rfl, HU4.out⟩
      · have eb : (chkT z1 != 0) = true := by rw [bne_iff_ne]; exact hb
        generalize cpE z0 z1 = G at *
        generalize chkT z0 = E1 at *
        generalize chkT z1 = E2 at *
        generalize rootV z0 = RA at *
        generalize rootV z1 = RB at *
        clear hcp ha hb w0 w1 hlen0 hlen1
        go_enter Try.func8, Try.ntmps8
        go_wp2_with fail
        refine HCC.out.mono ?_
        rintro e w1 ⟨rfl, u1⟩
        have HU1 := Lib.hid (((Up.alloc _ _).trans (Up.alloc _ _)).trans u1)
        clear u1
        go_wp2_with fail
        refine (HR1.out _ HU1.out).mono ?_
        rintro e w2 ⟨rfl, u2⟩
        have HU2 := Lib.hid (HU1.out.trans u2)
        clear u2
        go_wp2_with fail
        refine (HR2.out _ HU2.out).mono ?_
        rintro e w3 ⟨rfl, u3⟩
        have HU3 := Lib.hid (HU2.out.trans u3)
        clear u3
        go_wp2_with fail
        refine (HCL.out _ HU3.out).mono ?_
        rintro e w4 ⟨rfl, u4⟩
        have HU4 := Lib.hid (HU3.out.trans u4)
        clear u4
        go_wp2_with fail
        go_ret
        exact ⟨rfl, HU4.out⟩
    · have ea : (chkT z0 != 0) = true := by rw [bne_iff_ne]; exact ha
      generalize cpE z0 z1 = G at *
      generalize chkT z0 = E1 at *
      generalize chkT z1 = E2 at *
      generalize rootV z0 = RA at *
      generalize rootV z1 = RB at *
      clear hcp ha w0 w1 hlen0 hlen1
      go_enter Try.func8, Try.ntmps8
      go_wp2_with fail
      refine HCC.out.mono ?_
      rintro e w1 ⟨rfl, u1⟩
      have HU1 := Lib.hid (((Up.alloc _ _).trans (Up.alloc _ _)).trans u1)
      clear u1
      go_wp2_with fail
      refine (HR1.out _ HU1.out).mono ?_
      rintro e w2 ⟨rfl, u2⟩
      have HU2 := Lib.hid (HU1.out.trans u2)
      clear u2
      go_wp2_with fail
      refine (HR2.out _ HU2.out).mono ?_
      rintro e w3 ⟨rfl, u3⟩
      have HU3 := Lib.hid (HU2.out.trans u3)
      clear u3
      go_wp2_with fail
      refine (HCL.out _ HU3.out).mono ?_
      rintro e w4 ⟨rfl, u4⟩
      have HU4 := Lib.hid (HU3.out.trans u4)
      clear u4
      go_wp2_with fail
      go_ret
      exact ⟨rfl, HU4.out⟩

end Go.Proofs.Ytacbhjjmbepngaa
