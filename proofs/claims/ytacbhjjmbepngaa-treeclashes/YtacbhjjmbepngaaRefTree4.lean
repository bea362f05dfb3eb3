/-
  The reference's Clash. Conditions: as each says.
-/
import Derived.Test.YtacbhjjmbepngaaRefTree1
import Derived.Test.YtacbhjjmbepngaaTreeI
import Derived.Deep.CutRange
namespace Go.Proofs.Ytacbhjjmbepngaa
open Go.RowKit
open Go.Proofs
open WoolTree

theorem min_run (a b m : Nat) (h : min a b = m) : ∀ (ts : Array TypeId) (t : TypeId) (W : World), (Builtin.min_ ts t #[.int .i64 (a : Int), .int .i64 (b : Int)]).run Try.prog W = .ok (.int .i64 (m : Int)) W := by
  intro ts t W
  subst h
  simp [Builtin.min_, Builtin.min2]
  split <;> omega

/-- a pair of a level is the pair of two parts' roots -/
theorem pair_parts (a : List (List UInt8)) (k J : Nat) (hk : k ≤ 4) (h : (2 * J + 1) * 2 ^ k < a.length) :
    (it TH k (lh TH a))[2 * J]? = some (rtx TH ((a.take (2 * J * 2 ^ k + 2 ^ k)).drop (2 * J * 2 ^ k))) ∧
      (it TH k (lh TH a))[2 * J + 1]? = some (rtx TH ((a.take (min a.length (2 * J * 2 ^ k + 2 * 2 ^ k))).drop (2 * J * 2 ^ k + 2 ^ k))) := by
  have hp : 0 < 2 ^ k := Nat.pow_pos (by omega)
  have e0 : (2 * J + 1) * 2 ^ k = 2 * J * 2 ^ k + 2 ^ k := by rw [Nat.add_mul, Nat.one_mul]
  have g0 : 2 * J * 2 ^ k < a.length := by omega
  have l0 := (lt_it TH k (lh TH a) (2 * J)).2 (by rw [lh_length]; exact g0)
  have l1 := (lt_it TH k (lh TH a) (2 * J + 1)).2 (by rw [lh_length]; exact h)
  rw [List.getElem?_eq_getElem l0, List.getElem?_eq_getElem l1, Option.some.injEq, Option.some.injEq]
  refine ⟨?_, ?_⟩
  · rw [rtx_part TH k a (2 * J) (by omega) g0, List.drop_take, Nat.add_sub_cancel_left]
  · rw [rtx_part TH k a (2 * J + 1) (by omega) h, List.drop_take, e0]
    congr 1
    by_cases hm : a.length ≤ 2 * J * 2 ^ k + 2 * 2 ^ k
    · rw [Nat.min_eq_left hm, List.take_of_length_le (by rw [List.length_drop]; omega), List.take_of_length_le (by rw [List.length_drop]; omega)]
    · rw [Nat.min_eq_right (by omega)]
      congr 1
      omega

theorem part_chk {a : List (List UInt8)} (h : chkT a = 0) (i j : Nat) (hij : i < j) (hj : j ≤ a.length) : chkT ((a.take j).drop i) = 0 := by
  have h1 := chkT_take h j (by omega) hj
  exact chkT_drop h1 i (by rw [List.length_take]; omega)

theorem two_of (p q : Nat) (h : q = 2 * p) (h1 : 1 ≤ p) (h2 : p ≤ 16) : p < q ∧ q ≤ 32 := by omega

def RkRel (A B : List Nat) (PC : Option (List UInt8 × List UInt8)) (w : World) (d : Value) (wr : World) : Prop := ∃ D : Nat, D ≤ 5 ∧ d = .int .i64 (D : Int) ∧ PC = pci TH A B D ∧ Up w wr
def RiRel (X Y : List Nat) (P2 n : Nat) (w : World) (i : Value) (wr : World) : Prop := ∃ J AT : Nat, AT = J * P2 ∧ AT ≤ n + 32 ∧ i = .int .i64 (AT : Int) ∧ pc X Y = pc (X.drop (2 * J)) (Y.drop (2 * J)) ∧ Up w wr

def RfRel (a b : List (List UInt8)) (n : Nat) (w : World) (i : Value) (wr : World) : Prop :=
  ∃ I : Nat, I ≤ n ∧ i = .int .i64 (I : Int) ∧ fd a b = fd (a.drop I) (b.drop I) ∧ Up w wr

theorem shl_oneR (j K : Nat) (hj : j ≤ 60) (hK : 2 ^ j = K) : wrap64 ((2 : Int) ^ j) = (K : Int) := by
  have h : 2 ^ j ≤ 2 ^ 60 := Nat.pow_le_pow_right (by omega) hj
  have h6 : (2 : Nat) ^ 60 = 1152921504606846976 := by decide
  have e : ((2 : Int) ^ j) = (K : Int) := by rw [← hK]; simp
  rw [e]
  unfold wrap64
  omega

set_option maxRecDepth 100000 in
set_option maxHeartbeats 4000000 in
theorem refClash_any (v1 v2 : Value) (a b : List (List UInt8)) (w : World) (h1 : Txs w v1 a) (h2 : Txs w v2 b) (ca : chkT a = 0) (cb : chkT b = 0) (hl : a.length = b.length) :
    Calls Try.prog 30 #[v1, v2] w fun e w' => e = .returned (.tuple #[.string (bs (clash TH a b).1), .string (bs (clash TH a b).2)]) ∧ Up w w' := by
  obtain ⟨a0, a32, sa⟩ := chkT_ok ca
  obtain ⟨_, _, sb⟩ := chkT_ok cb
  have H1 := Lib.hid h1
  have H2 := Lib.hid h2
  have CA := Lib.hid ca
  have CB := Lib.hid cb
  have SA := Lib.hid sa
  have SB := Lib.hid sb
  have HL := Lib.hid hl
  obtain ⟨o1, c1, rfl, _, _⟩ := h1.slice
  obtain ⟨o2, c2, rfl, _, _⟩ := h2.slice
  obtain ⟨R, hR⟩ : ∃ R, clash TH a b = R := ⟨_, rfl⟩
  rw [hR]
  have HR : Hid ((match pci TH (lh TH a) (lh TH b) 5 with | some r => r | none => match fd a b with | some r => r | none => ([], [])) = R) := hR
  obtain ⟨n, hn⟩ : ∃ n, a.length = n := ⟨_, rfl⟩
  have HN := Lib.hid hn
  have HM : Hid (b.length = n) := by show _ = _; omega
  rw [hn] at H1 a0 a32 ⊢
  rw [HM.out] at H2 ⊢
  have hlh : (lh TH a).length = (lh TH b).length := by rw [lh_length, lh_length, hl]
  have HLH := Lib.hid hlh
  obtain ⟨PC, hPC⟩ : ∃ PC, pci TH (lh TH a) (lh TH b) 5 = PC := ⟨_, rfl⟩
  rw [hPC] at HR
  have HPC := Lib.hid hPC
  clear h1 h2 ca cb sa sb hl hR hn hlh hPC
  go_enter Try.func30, Try.ntmps30
  go_wp2_with fail
  go_loopw [6, 7, 8, 9, 10, 11] (fun d _ _ _ _ _ wr => RkRel (lh TH a) (lh TH b) PC w d wr) (fun d _ _ _ _ _ _ => (intOf d).toNat)
  case atStart => exact ⟨5, Nat.le_refl _, rfl, HPC.out.symm, Up.refl w⟩
  case round =>
    obtain ⟨D, hD, rfl, hp, hu⟩ := hrel
    have HU := Lib.hid hu
    cases D with
    | zero =>
      have HF : Hid ((match fd a b with | some r => r | none => ([], [])) = R) := by
        show _ = _
        have := HR.out
        rw [hp] at this
        exact this
      clear hp hu
      go_wp2_with fail
      go_loopw [12, 69] (fun _ i wr => RfRel a b n w i wr) (fun _ i _ => n - (intOf i).toNat)
      case atStart => exact ⟨0, Nat.zero_le _, rfl, rfl, HU.out⟩
      case round =>
        obtain ⟨I, hI, rfl, hfd, hu⟩ := hrel
        have HU2 := Lib.hid hu
        by_cases hlt : I < n
        · have dI : decide (I < n) = true := decide_eq_true hlt
          have hk1 : I < a.length := by rw [HN.out]; exact hlt
          have hk2 : I < b.length := by rw [HM.out]; exact hlt
          obtain ⟨b1, f1, rfl, g1⟩ := (H1.out.up hu).at (fun e => by rw [e] at hk1; simp at hk1)
          obtain ⟨b2, f2, rfl, g2⟩ := (H2.out.up hu).at (fun e => by rw [e] at hk2; simp at hk2)
          have q1 := g1 I hk1
          have q2 := g2 I hk2
          have t1 := SA.out _ (List.getElem_mem hk1)
          have t2 := SB.out _ (List.getElem_mem hk2)
          have qq := txt_eqT a[I] b[I]
          rw [List.drop_eq_getElem_cons hk1, List.drop_eq_getElem_cons hk2, fd] at hfd
          generalize a[I] = x at *
          generalize b[I] = y at *
          by_cases hxy : x = y
          · rw [if_pos hxy] at hfd
            have HFD := Lib.hid hfd
            have heq : ((bs x).toList != (bs y).toList) = false := by unfold bne; rw [qq, show (x == y) = true by rw [beq_iff_eq]; exact hxy]; rfl
            have heq2 : ((bs x).toList == (bs y).toList) = true := by rw [qq, beq_iff_eq]; exact hxy
            clear g1 g2 hu hfd qq hxy
            go_wp2_with fail
            go_quiet (fail)
            go_wp2_with fail
            go_roundw
            case rel => exact ⟨I + 1, hlt, by go_num, HFD.out, HU2.out.trans (Up.drewN _ _)⟩
            case measure => simp only [intOf]; omega
          · rw [if_neg hxy] at hfd
            have HRR : Hid (R = (lf x, lf y)) := by
              show _ = _
              have := HF.out
              rw [hfd] at this
              exact this.symm
            have heq : ((bs x).toList != (bs y).toList) = true := by unfold bne; rw [qq, show (x == y) = false by rw [beq_eq_false_iff_ne]; exact hxy]; rfl
            have heq2 : ((bs x).toList == (bs y).toList) = false := by rw [qq, beq_eq_false_iff_ne]; exact hxy
            have ha1 : ∀ v : World, (Op.stringOp .add ⟨#[108]⟩ (bs x)).run Try.prog v = .ok (.string (bs (lf x))) v := add_bs [108] x (by simp; omega)
            have ha2 : ∀ v : World, (Op.stringOp .add ⟨#[108]⟩ (bs y)).run Try.prog v = .ok (.string (bs (lf y))) v := add_bs [108] y (by simp; omega)
            clear g1 g2 hu hfd qq hxy
            go_wp2_with fail
            go_quiet (fail)
            go_wp2_with fail
            have q3 := ((Up.drewN wr nq).cell (World.block_lt_of_cell? wr _ q1)).trans q1
            have q4 := ((Up.drewN wr nq).cell (World.block_lt_of_cell? wr _ q2)).trans q2
            have HU3 := Lib.hid (HU2.out.trans (Up.drewN wr nq))
            generalize wr.drewN nq = W at q3 q4 HU3 ⊢
            clear q1 q2
            go_quiet (fail)
            go_wp2_with fail
            go_ret2
            exact ⟨by rw [HRR.out]; rfl, HU3.out.trans (Up.drewN _ _)⟩
        · have dI : decide (I < n) = false := decide_eq_false hlt
          rw [List.drop_of_length_le (by rw [HN.out]; omega)] at hfd
          have hRn : Hid (R = ([], [])) := by
            show _ = _
            have := HF.out
            rw [hfd] at this
            exact this.symm
          clear hfd hu
          go_wp2_with fail
          go_ret2
          exact ⟨by rw [hRn.out]; rfl, HU2.out⟩
    | succ k =>
      rw [pci] at hp
      have hD1 : decide (((k + 1 : Nat) : Int) ≥ 1) = true := decide_eq_true (by omega)
      obtain ⟨D, hDe⟩ : ∃ D, k + 1 = D := ⟨_, rfl⟩
      have hDi : (D : Int) - 1 = (k : Int) := by omega
      obtain ⟨P1, hP1⟩ : ∃ P, 2 ^ k = P := ⟨_, rfl⟩
      obtain ⟨P2, hP2⟩ : ∃ P, 2 ^ D = P := ⟨_, rfl⟩
      have hw1 := shl_oneR k P1 (by omega) hP1
      have hw2 := shl_oneR D P2 (by omega) hP2
      have hp12 : P2 = 2 * P1 := by rw [← hP2, ← hDe, Nat.pow_succ, hP1, Nat.mul_comm]
      have hp1 : 1 ≤ P1 := by rw [← hP1]; exact Nat.pow_pos (by omega)
      have hp16 : P1 ≤ 16 := by rw [← hP1]; exact Nat.pow_le_pow_right (n := 2) (by omega) (show k ≤ 4 by omega)
      have HPA := Lib.hid (pair_parts a k)
      have HPB := Lib.hid (pair_parts b k)
      have HIL := Lib.hid (fun J => lt_it TH k (lh TH a) J)
      have HLX := Lib.hid (it_length_eq TH k _ _ HLH.out)
      have HXb := Lib.hid (it_bound TH 4294967296 TH_lt32 k (lh TH a) (lh_bound TH _ TH_lt32 a))
      have HYb := Lib.hid (it_bound TH 4294967296 TH_lt32 k (lh TH b) (lh_bound TH _ TH_lt32 b))
      rw [hP1] at HPA HPB HIL
      rw [hDe]
      rw [hDe] at hD hD1
      have HDE := Lib.hid hDe
      obtain ⟨X, hX⟩ : ∃ X, it TH k (lh TH a) = X := ⟨_, rfl⟩
      obtain ⟨Y, hY⟩ : ∃ Y, it TH k (lh TH b) = Y := ⟨_, rfl⟩
      simp only [hX] at HPA HIL HLX HXb hp
      simp only [hY] at HPB HLX HYb hp
      have HP := Lib.hid hp
      have HP12 := Lib.hid hp12
      have hD0 : 1 ≤ D := by omega
      obtain ⟨hp20, hp21⟩ := two_of P1 P2 hp12 hp1 hp16
      clear hp hu hDe hP1 hP2 hX hY hp12
      go_wp2_with fail
      go_loopw [7, 8, 9, 10, 11] (fun i _ _ _ _ wr => RiRel X Y P2 n w i wr) (fun i _ _ _ _ _ => n + 64 - (intOf i).toNat)
      case atStart => exact ⟨0, 0, by simp, by omega, rfl, rfl, HU.out⟩
      case round =>
        obtain ⟨J, AT, hAT, hATn, rfl, hpc, hu⟩ := hrel
        have HU2 := Lib.hid hu
        have hAT1 : 2 * J * P1 = AT := by rw [hAT, HP12.out, Nat.mul_comm 2 J, Nat.mul_assoc]
        have hAT2 : (2 * J + 1) * P1 = AT + P1 := by rw [Nat.add_mul, Nat.one_mul, hAT1]
        have HATN := Lib.hid (show AT + P2 = (J + 1) * P2 by rw [Nat.add_mul, Nat.one_mul, hAT])
        have hXn : 2 * J + 1 < X.length ↔ AT + P1 < n := by rw [HIL.out, lh_length, HN.out, hAT2]
        have HXN := Lib.hid hXn
        have HPC2 := Lib.hid hpc
        have HA1 := Lib.hid hAT1
        have HA2 := Lib.hid hAT2
        clear hAT hAT1 hAT2 hXn hpc hu
        by_cases hlt : AT < n
        · have dlt : decide (AT < n) = true := decide_eq_true hlt
          obtain ⟨S2, hS2⟩ : ∃ S, AT + P2 = S := ⟨_, rfl⟩
          obtain ⟨MID, hMID⟩ : ∃ S, AT + P1 = S := ⟨_, rfl⟩
          obtain ⟨HIGH, hHIGH⟩ : ∃ S, min n S2 = S := ⟨_, rfl⟩
          have hmin := min_run n S2 HIGH hHIGH
          have hs2 : (AT : Int) + (P2 : Int) = (S2 : Int) := by omega
          have hs1 : (AT : Int) + (P1 : Int) = (MID : Int) := by omega
          by_cases hm : MID < n
          · have hmh : MID < HIGH := by omega
            have hhn : HIGH ≤ n := by omega
            have dmh : decide (MID < HIGH) = true := decide_eq_true hmh
            obtain ⟨x0, x1⟩ := HPA.out J (by omega) (by rw [HA2.out, HN.out]; omega)
            obtain ⟨y0, y1⟩ := HPB.out J (by omega) (by rw [HA2.out, HM.out]; omega)
            rw [HA1.out] at x0 x1 y0 y1
            rw [hMID] at x0 x1 y0 y1
            rw [← HP12.out, hS2, HN.out, hHIGH] at x1
            rw [← HP12.out, hS2, HM.out, hHIGH] at y1
            obtain ⟨oA1, runA1, rdA1⟩ := H1.out.between AT MID (by omega) (by rw [HN.out]; omega)
            obtain ⟨oA2, runA2, rdA2⟩ := H1.out.between MID HIGH (by omega) (by rw [HN.out]; omega)
            obtain ⟨oB1, runB1, rdB1⟩ := H2.out.between AT MID (by omega) (by rw [HM.out]; omega)
            obtain ⟨oB2, runB2, rdB2⟩ := H2.out.between MID HIGH (by omega) (by rw [HM.out]; omega)
            have cA1 := part_chk CA.out AT MID (by omega) (by rw [HN.out]; omega)
            have cA2 := part_chk CA.out MID HIGH (by omega) (by rw [HN.out]; omega)
            have cB1 := part_chk CB.out AT MID (by omega) (by rw [HM.out]; omega)
            have cB2 := part_chk CB.out MID HIGH (by omega) (by rw [HM.out]; omega)
            have HRA1 := Lib.hid (fun W (hW : Up w W) => refRoot_any _ _ _ W (rdA1.up hW) cA1 (Nat.le_refl _))
            have HRA2 := Lib.hid (fun W (hW : Up w W) => refRoot_any _ _ _ W (rdA2.up hW) cA2 (Nat.le_refl _))
            have HRB1 := Lib.hid (fun W (hW : Up w W) => refRoot_any _ _ _ W (rdB1.up hW) cB1 (Nat.le_refl _))
            have HRB2 := Lib.hid (fun W (hW : Up w W) => refRoot_any _ _ _ W (rdB2.up hW) cB2 (Nat.le_refl _))
            have lA1 := rtx_lt _ (chkT_ok cA1).1 (chkT_ok cA1).2.1
            have lA2 := rtx_lt _ (chkT_ok cA2).1 (chkT_ok cA2).2.1
            have lB1 := rtx_lt _ (chkT_ok cB1).1 (chkT_ok cB1).2.1
            have lB2 := rtx_lt _ (chkT_ok cB2).1 (chkT_ok cB2).2.1
            have hXl : 2 * J + 1 < X.length := HXN.out.2 (by omega)
            have hYl : 2 * J + 1 < Y.length := by rw [← HLX.out]; exact hXl
            have hpc := HPC2.out
            rw [pc_step X Y (2 * J) hXl hYl] at hpc
            rw [List.getElem?_eq_getElem (by omega)] at x0 y0
            rw [List.getElem?_eq_getElem hXl] at x1
            rw [List.getElem?_eq_getElem hYl] at y1
            rw [Option.some.inj x0, Option.some.inj x1, Option.some.inj y0, Option.some.inj y1] at hpc
            clear x0 x1 y0 y1
            generalize rtx TH ((a.take MID).drop AT) = RA1 at *
            generalize rtx TH ((a.take HIGH).drop MID) = RA2 at *
            generalize rtx TH ((b.take MID).drop AT) = RB1 at *
            generalize rtx TH ((b.take HIGH).drop MID) = RB2 at *
            have HSA := Lib.hid (fun W => refSaid_any RA1 RA2 W (by omega) (by omega))
            have HSB := Lib.hid (fun W => refSaid_any RB1 RB2 W (by omega) (by omega))
            have ht := txt_eqT (pr RA1 RA2) (pr RB1 RB2)
            generalize pr RA1 RA2 = S at *
            generalize pr RB1 RB2 = T at *
            have HPC3 := Lib.hid hpc
            have HT := Lib.hid ht
            clear hpc ht lA1 lA2 lB1 lB2 cA1 cA2 cB1 cB2 rdA1 rdA2 rdB1 rdB2 hXl hYl hMID hHIGH
            go_upto_region 10 with fail
            go_cut [10, 11] from 17 to 66 (fun p q wx => p = .string (bs S) ∧ q = .string (bs T) ∧ Up w wx)
            case first =>
              go_region_held3 (fun _ => True) (trivial) (first
                | (go_at_call 18; ((with_reducible refine (HRA1.out _ (by first | exact ux | exact HU2.out.trans (Up.drew _))).mono ?_); rintro e wz ⟨rfl, uz⟩; have uy : Up w wz := (by first | exact ux.trans uz | exact HU2.out.trans ((Up.drew _).trans uz)); clear uz; have ux : Up w wz := uy; clear uy))
                | (go_at_call 18; ((with_reducible refine (HRA2.out _ (by first | exact ux | exact HU2.out.trans (Up.drew _))).mono ?_); rintro e wz ⟨rfl, uz⟩; have uy : Up w wz := (by first | exact ux.trans uz | exact HU2.out.trans ((Up.drew _).trans uz)); clear uz; have ux : Up w wz := uy; clear uy))
                | (go_at_call 18; ((with_reducible refine (HRB1.out _ (by first | exact ux | exact HU2.out.trans (Up.drew _))).mono ?_); rintro e wz ⟨rfl, uz⟩; have uy : Up w wz := (by first | exact ux.trans uz | exact HU2.out.trans ((Up.drew _).trans uz)); clear uz; have ux : Up w wz := uy; clear uy))
                | (go_at_call 18; ((with_reducible refine (HRB2.out _ (by first | exact ux | exact HU2.out.trans (Up.drew _))).mono ?_); rintro e wz ⟨rfl, uz⟩; have uy : Up w wz := (by first | exact ux.trans uz | exact HU2.out.trans ((Up.drew _).trans uz)); clear uz; have ux : Up w wz := uy; clear uy))
                | (go_at_call 24; ((with_reducible refine (HSA.out _).mono ?_); rintro e wz ⟨rfl, uz⟩; have uy : Up w wz := (by first | exact ux.trans uz | exact HU2.out.trans ((Up.drew _).trans uz)); clear uz; have ux : Up w wz := uy; clear uy))
                | (go_at_call 24; ((with_reducible refine (HSB.out _).mono ?_); rintro e wz ⟨rfl, uz⟩; have uy : Up w wz := (by first | exact ux.trans uz | exact HU2.out.trans ((Up.drew _).trans uz)); clear uz; have ux : Up w wz := uy; clear uy)))
              all_goals
                go_wp2_with fail
                go_meet
                exact ⟨rfl, rfl, ux⟩
            case rest =>
              obtain ⟨rfl, rfl, hux⟩ := hcut
              have HUX := Lib.hid hux
              clear hux
              by_cases hst : S = T
              · subst hst
                have hpn : Hid (pc X Y = pc (X.drop (2 * (J + 1))) (Y.drop (2 * (J + 1)))) := by
                  show _ = _
                  rw [HPC2.out] at HPC3
                  have := HPC3.out
                  rw [if_pos rfl] at this
                  rw [HPC2.out, this, show 2 * (J + 1) = 2 * J + 2 from rfl]
                have heq : ((bs S).toList == (bs S).toList) = true := by simp
                have hne : ((bs S).toList != (bs S).toList) = false := by simp
                go_wp2_with fail
                go_roundw
                case rel => exact ⟨J + 1, S2, by have := HATN.out; omega, by omega, by go_num, hpn.out, HUX.out⟩
                case measure => simp only [intOf]; omega
              · have hRs : Hid (R = (S, T)) := by
                  show _ = _
                  have e1 : pc X Y = some (S, T) := by rw [HPC3.out, if_neg hst]
                  have e2 := HP.out
                  rw [e1] at e2
                  have e3 := HR.out
                  rw [e2] at e3
                  exact e3.symm
                have heq : ((bs S).toList == (bs T).toList) = false := by rw [HT.out, beq_eq_false_iff_ne]; exact hst
                have hne : ((bs S).toList != (bs T).toList) = true := by unfold bne; rw [heq]; rfl
                clear hst
                go_wp2_with fail
                go_ret2
                exact ⟨by rw [hRs.out]; rfl, HUX.out⟩
          · have hhm : ¬ MID < HIGH := by omega
            have dmh : decide (MID < HIGH) = false := decide_eq_false hhm
            have hpn : Hid (pc X Y = pc (X.drop (2 * (J + 1))) (Y.drop (2 * (J + 1)))) := by
              show _ = _
              rw [HPC2.out, pc_end X Y (2 * J) (fun h => hm (by have := HXN.out.1 h; omega)), pc_end X Y (2 * (J + 1)) (fun h => hm (by have := HXN.out.1 (by omega); omega))]
            have hS40 : S2 ≤ n + 32 := by omega
            have HS2 := Lib.hid hS2
            clear hMID hHIGH
            go_wp2_with fail
            go_roundw
            case rel => exact ⟨J + 1, S2, by have := HATN.out; omega, by omega, by go_num, hpn.out, HU2.out⟩
            case measure => simp only [intOf]; omega
        · have dlt : decide (AT < n) = false := decide_eq_false hlt
          have hpe : Hid (PC = pci TH (lh TH a) (lh TH b) k) := by
            show _ = _
            have e1 : pc X Y = none := by rw [HPC2.out]; exact pc_end X Y (2 * J) (fun h => hlt (by have := HXN.out.1 h; omega))
            have e2 := HP.out
            rw [e1] at e2
            exact e2
          go_wp2_with fail
          go_roundw
          case rel => exact ⟨k, by omega, by go_num, hpe.out, HU2.out⟩
          case measure => simp only [intOf]; omega

end Go.Proofs.Ytacbhjjmbepngaa
