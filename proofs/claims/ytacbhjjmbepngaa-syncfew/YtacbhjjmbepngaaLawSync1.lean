/-
  The law SyncSame, walked: for every two lists the Go text returns true; nothing that was there turns. Conditions: as each says.
-/
import Derived.Test.YtacbhjjmbepngaaTreeJ
namespace Go.Proofs.Ytacbhjjmbepngaa
open Go.RowKit
open Go.Proofs
open WoolTree

theorem cmp_ab : cpE [[97]] [[98]] = 0 ∧ cpV [[97]] [[98]] = ([0], 1) := by decide +kernel

theorem cpE_self (a : List (List UInt8)) : cpE a a = chkT a := by
  unfold cpE
  by_cases h : chkT a ≠ 0
  · rw [if_pos h]
  · rw [if_neg h, if_neg h, if_neg (by simp)]; omega

theorem cpV_self (a : List (List UInt8)) : cpV a a = if chkT a = 0 then ([], 1) else ([], 0) := by
  unfold cpV
  rw [cpE_self]
  by_cases h : chkT a = 0
  · rw [if_pos h, if_pos h]
    obtain ⟨m, hm⟩ : ∃ m, a.length = m + 1 := ⟨a.length - 1, by have := (chkT_ok h).1; omega⟩
    rw [hm, cm_same TH m a a 0 rfl]
  · rw [if_neg h, if_neg h]

theorem cpE_of {a b : List (List UInt8)} (h1 : chkT a = 0) (h2 : chkT b = 0) (h3 : a.length = b.length) : cpE a b = 0 := by
  unfold cpE; rw [if_neg (by rw [h1]; simp), if_neg (by rw [h2]; simp), if_neg (by omega)]

theorem cpE_sym (a b : List (List UInt8)) : (cpE a b == 0) = (cpE b a == 0) := by
  rw [Bool.eq_iff_iff, beq_iff_eq, beq_iff_eq]
  constructor
  · intro h
    obtain ⟨h1, h2, h3⟩ := cpE_ok h
    exact cpE_of h2 h1 h3.symm
  · intro h
    obtain ⟨h1, h2, h3⟩ := cpE_ok h
    exact cpE_of h2 h1 h3.symm

theorem cpV_sym (a b : List (List UInt8)) : cpV a b = cpV b a := by
  by_cases h : cpE a b = 0
  · obtain ⟨h1, h2, h3⟩ := cpE_ok h
    unfold cpV
    rw [if_pos h, if_pos (cpE_of h2 h1 h3.symm), cm_sym TH _ a b 0 h3, h3]
  · have h' : cpE b a ≠ 0 := by
      intro e
      have := cpE_sym a b
      rw [e] at this
      simp at this
      exact h this
    unfold cpV
    rw [if_neg h, if_neg h']

theorem cpV_len (a b : List (List UInt8)) : (cpV a b).1.length ≤ 32 ∧ (cpV a b).2 ≤ 64 := by
  by_cases h : cpE a b = 0
  · obtain ⟨h1, h2, h3⟩ := cpE_ok h
    obtain ⟨h0, h32, _⟩ := chkT_ok h1
    have := cm_short a.length a b 0 h0 (Nat.le_refl _)
    unfold cpV
    rw [if_pos h]
    omega
  · unfold cpV
    rw [if_neg h]
    simp

theorem one_lit (w : World) (x : Nat) : Ints (w.alloc (.cells #[.int .i64 (x : Int)] 3)) w.heap.size (.slice (some ⟨w.heap.size, 0, none⟩) 1 1) [x] :=
  World.ownsRow_lit w _ 1 (Nat.le_refl _) (by unfold maxLen; omega) rfl

set_option maxRecDepth 100000 in
set_option maxHeartbeats 2000000 in
theorem syncSame_walk (a0 : Option Addr) (len0 cap0 : Nat) (z0 : List (List UInt8)) (a1 : Option Addr) (len1 cap1 : Nat) (z1 : List (List UInt8)) (w : World) (w0 : Txs w (.slice a0 len0 cap0) z0) (w1 : Txs w (.slice a1 len1 cap1) z1) :
    Calls Try.prog 13 #[.slice a0 len0 cap0, .slice a1 len1 cap1] w fun e w' => e = .returned (.bool true) ∧ Up w w' := by
  have hl1 := Txs.lit w [[97]] 1 rfl (by omega)
  have hl2 := Txs.lit (w.alloc (.cells (fl txC [[97]]).toArray 9)) [[98]] 1 rfl (by omega)
  rw [show (w.alloc (.cells (fl txC [[97]]).toArray 9)).heap.size = w.heap.size + 1 by simp] at hl2
  have hcc := compareT_any _ _ _ _ _ (hl1.up (Up.alloc _ _)) hl2
  unfold CmpPost at hcc
  rw [cmp_ab.1, cmp_ab.2] at hcc
  have HCC : Hid (Calls Try.prog 26 #[.slice (some ⟨w.heap.size, 0, none⟩) 1 1, .slice (some ⟨w.heap.size + 1, 0, none⟩) 1 1] ((w.alloc (.cells #[.string ⟨#[97]⟩] 9)).alloc (.cells #[.string ⟨#[98]⟩] 9)) fun e w' => ∃ v, e = .returned (.tuple #[v, .int .i64 1, .int .i64 0]) ∧ Ints w' ((w.alloc (.cells #[.string ⟨#[97]⟩] 9)).alloc (.cells #[.string ⟨#[98]⟩] 9)).heap.size v [0] ∧ Up ((w.alloc (.cells #[.string ⟨#[97]⟩] 9)).alloc (.cells #[.string ⟨#[98]⟩] 9)) w') := hcc
  clear hcc hl1 hl2
  have HEQ : Hid (∀ W v b, Ints W b v [0] → Calls Try.prog 28 #[v, .slice (some ⟨W.heap.size, 0, none⟩) 1 1] (W.alloc (.cells #[.int .i64 0] 3)) fun e w' => e = .returned (.bool true) ∧ Up (W.alloc (.cells #[.int .i64 0] 3)) w') :=
    fun W v b h => equal_yes _ _ b _ [0] _ (by simp) (h.up (Up.alloc _ _)) (one_lit W 0)
  have HAA := Lib.hid (fun W (hW : Up w W) => compareT_any _ _ z0 z0 W (w0.up hW) (w0.up hW))
  have HAB := Lib.hid (fun W (hW : Up w W) => compareT_any _ _ z0 z1 W (w0.up hW) (w1.up hW))
  have HBA := Lib.hid (fun W (hW : Up w W) => compareT_any _ _ z1 z0 W (w1.up hW) (w0.up hW))
  unfold CmpPost at HAA HAB HBA
  rw [cpE_self, cpV_self] at HAA
  rw [← cpV_sym] at HBA
  have hEE := cpE_sym z0 z1
  have hcl := cpV_len z0 z1
  have HE2 := Lib.hid (fun W x y b1 b2 (h1 : Ints W b1 x (cpV z0 z1).1) (h2 : Ints W b2 y (cpV z0 z1).1) => equal_yes x y b1 b2 _ W (by omega) h1 h2)
  generalize cpV z0 z1 = r at *
  obtain ⟨r1, r2⟩ := r
  simp only at HAB HBA HE2 hcl
  generalize cpE z0 z1 = E1 at *
  generalize cpE z1 z0 = E2 at *
  obtain ⟨q, hq⟩ : ∃ q, (E1 == 0) = q := ⟨_, rfl⟩
  rw [hq] at hEE
  have hq2 := hEE.symm
  by_cases hE : chkT z0 = 0
  · rw [if_pos hE, hE] at HAA
    have drr : ((r2 : Int) == (r2 : Int)) = true := by simp
    clear hE w0 w1 hEE
    cases q
    all_goals
      go_enter Try.func13, Try.ntmps13
      go_wp2_with fail
      refine HCC.out.mono ?_
      rintro e w1 ⟨v1, rfl, hi1, u1⟩
      obtain ⟨o1, c1, hv1⟩ := hi1.shape
      subst hv1
      have HI1 := Lib.hid hi1
      have HU1 := Lib.hid (((Up.alloc _ _).trans (Up.alloc _ _)).trans u1)
      clear u1 hi1
      go_wp2_with fail
      refine (HEQ.out _ _ _ HI1.out).mono ?_
      rintro e w2 ⟨rfl, u2⟩
      have HU2 := Lib.hid ((HU1.out.trans (Up.alloc _ _)).trans u2)
      clear u2 HI1
      go_wp2_with fail
      refine (HAA.out _ HU2.out).mono ?_
      rintro e w3 ⟨v3, rfl, hi3, u3⟩
      obtain ⟨o3, c3, hv3⟩ := hi3.shape
      subst hv3
      have HU3 := Lib.hid (HU2.out.trans u3)
      clear u3 hi3
      go_wp2_with fail
      refine (HAB.out _ HU3.out).mono ?_
      rintro e w4 ⟨v4, rfl, hi4, u4⟩
      obtain ⟨o4, c4, hv4⟩ := hi4.shape
      subst hv4
      have HI4 := Lib.hid hi4
      have HU4 := Lib.hid (HU3.out.trans u4)
      clear u4 hi4
      go_wp2_with fail
      refine (HBA.out _ HU4.out).mono ?_
      rintro e w5 ⟨v5, rfl, hi5, u5⟩
      obtain ⟨o5, c5, hv5⟩ := hi5.shape
      subst hv5
      have HI5 := Lib.hid hi5
      have HI45 := Lib.hid (HI4.out.up u5)
      have HU5 := Lib.hid (HU4.out.trans u5)
      clear u5 hi5 HI4
      go_wp2_with fail
      refine (HE2.out _ _ _ _ _ HI45.out HI5.out).mono ?_
      rintro e w6 ⟨rfl, u6⟩
      go_wp2_with fail
      go_ret
      exact ⟨rfl, HU5.out.trans u6⟩
  · rw [if_neg hE] at HAA
    have hne : (chkT z0 != 0) = true := by rw [bne_iff_ne]; exact hE
    generalize chkT z0 = E at *
    clear hE w0 w1 hEE
    go_enter Try.func13, Try.ntmps13
    go_wp2_with fail
    refine HCC.out.mono ?_
    rintro e w1 ⟨v1, rfl, hi1, u1⟩
    obtain ⟨o1, c1, hv1⟩ := hi1.shape
    subst hv1
    have HI1 := Lib.hid hi1
    have HU1 := Lib.hid (((Up.alloc _ _).trans (Up.alloc _ _)).trans u1)
    clear u1 hi1
    go_wp2_with fail
    refine (HEQ.out _ _ _ HI1.out).mono ?_
    rintro e w2 ⟨rfl, u2⟩
    have HU2 := Lib.hid ((HU1.out.trans (Up.alloc _ _)).trans u2)
    clear u2 HI1
    go_wp2_with fail
    refine (HAA.out _ HU2.out).mono ?_
    rintro e w3 ⟨v3, rfl, hi3, u3⟩
    obtain ⟨o3, c3, hv3⟩ := hi3.shape
    subst hv3
    have HU3 := Lib.hid (HU2.out.trans u3)
    clear u3 hi3
    go_wp2_with fail
    go_ret
    exact ⟨rfl, HU3.out⟩

end Go.Proofs.Ytacbhjjmbepngaa
