/-
  The law TopProof: of a volume's blocks each has a proof that its text stands under their root, and no other root. Conditions: a slice of deeds that reads as deeds.
-/
import Derived.Test.YtkghinpajogdhaaJTopProof20
import Derived.Test.YtkghinpajogdhaaJTopProof46
import Derived.Test.YtkghinpajogdhaaJTopProof50
import Derived.Test.YtkghinpajogdhaaJTopProof51
import Derived.Deep.DeepCutAuto
import Derived.Deep.RegionHeld3
namespace Go.Proofs.Ytkghinpajogdhaa
open Go.RowKit
open Go.Proofs
open WoolBag
open WoolVol
open WoolTree

theorem begunP_any (w : World) : Calls Try.prog 4 #[] w fun e w' => e = .returned (.bool true) ∧ Up w w' := by
  have hm : WoolMath.mul 3 3 = 5 := by decide +kernel
  have HM := Lib.hid hm
  clear hm
  go_enter Try.func4, Try.ntmps4
  go_wp2_with fail
  refine (mulN 3 3 _ (by omega) (by omega) (by rw [HM.out]; omega)).mono ?_
  rintro e w1 ⟨rfl, u1⟩
  rw [HM.out]
  go_wp2_with fail
  go_ret
  exact ⟨rfl, u1⟩

theorem chkT_yes {l : List (List UInt8)} (h0 : 0 < l.length) (h32 : l.length ≤ 32) (hs : ∀ t ∈ l, t.length ≤ 64) : chkT l = 0 := by
  unfold chkT
  rw [if_neg (by omega), if_neg]
  intro h
  rw [Bool.or_eq_true, decide_eq_true_eq, List.any_eq_true] at h
  rcases h with h | ⟨t, ht, h⟩
  · omega
  · have := hs t ht
    simp only [decide_eq_true_eq] at h
    omega

/-- a proof fits its root and no other -/
theorem proof_plain {l : List (List UInt8)} {i : Nat} (hE : chkT l = 0) (hi : i < l.length) :
    verV (bits .xor .i64 (rootV l) 1) (l.length : Int) (i : Int) l[i] (prfV l (i : Int)) = false := by
  obtain ⟨h0, h32, _⟩ := chkT_ok hE
  obtain ⟨hv, ht⟩ := proves_plain hE hi
  unfold verV at ht ⊢
  rw [hv, if_pos rfl] at ht ⊢
  refine vf_other TH _ _ _ _ _ _ _ ht ?_
  rw [rootV_ok hE]
  have hl := rtx_lt l h0 h32
  have hx := i64_xor_nat (rtx TH l) 1 (by omega) (by omega)
  rw [show ((1 : Nat) : Int) = 1 from rfl] at hx
  rw [hx]
  intro h
  have h1 : rtx TH l ^^^ 1 = rtx TH l := by omega
  have h2 := congrArg (fun z => rtx TH l ^^^ z) h1
  simp only [← Nat.xor_assoc, Nat.xor_self, Nat.zero_xor] at h2
  omega

/-- a state by the first deeds of a row -/
structure TpI (l : List Opn) (X : Nat) (w : World) (j : Nat) (cur : Sta) (x y : Value) (wr : World) : Prop where
  row : RowC wr X 27 [x, y]
  st : Stat wr (.agg #[x, y]) cur
  good : WoolVol.Good FP cur
  full : Full cur
  up : Up w wr

def TpLoop (l : List Opn) (X N : Nat) (w : World) (i : Value) (wr : World) : Prop :=
  ∃ j cur x y, j ≤ N ∧ i = .int .i64 ((j : Nat) : Int) ∧ TpI l X w j cur x y wr

set_option maxRecDepth 100000 in
set_option maxHeartbeats 4000000 in
theorem topProof_walk (a0 : Option Addr) (len0 cap0 : Nat) (z0 : List Opn) (a1 a2 : Int) (w : World) (w0 : Ops w (.slice a0 len0 cap0) z0) (_w1 : (Lit.int .i64 a1).wf = true) (_w2 : (Lit.int .i64 a2).wf = true) :
    Calls Try.prog 3 #[.slice a0 len0 cap0, .int .i64 a1, .int .i64 a2] w fun e w' => e = .returned (.bool true) ∧ Up w w' := by
  have HOP := Lib.hid w0
  obtain ⟨o', c', hsl, p1, p2⟩ := w0.slice
  simp only [Value.slice.injEq] at hsl
  obtain ⟨rfl, rfl, rfl⟩ := hsl
  unfold maxLen at p2
  obtain ⟨n, hn⟩ : ∃ n, z0.length = n := ⟨_, rfl⟩
  rw [hn] at p1 HOP ⊢
  have HLN := Lib.hid hn
  obtain ⟨N, hN⟩ : ∃ N, min n 60 = N := ⟨_, rfl⟩
  have hmin : ∀ (ts : Array TypeId) (t : TypeId) (W : World), (Builtin.min_ ts t #[.int .i64 (n : Int), .int .i64 60]).run Try.prog W = .ok (.int .i64 (N : Int)) W := by
    intro ts t W
    simp [Builtin.min_, Builtin.min2]
    omega
  have hNn : N ≤ n := by omega
  have hN6 : N ≤ 60 := by omega
  have HNN := Lib.hid hNn
  clear hN hn w0
  go_enter Try.func3, Try.ntmps3
  go_wp2_with fail
  refine (begunP_any _).mono ?_
  rintro e w1 ⟨rfl, u1⟩
  have HU1 := Lib.hid (u1.trans (Up.alloc w1 (.cells #[.slice none 0 0, .slice none 0 0] 27)))
  have HXG : Hid (w.heap.size ≤ w1.heap.size) := u1.size
  have HX : Hid (RowC (w1.alloc (.cells #[.slice none 0 0, .slice none 0 0] 27)) w1.heap.size 27 [.slice none 0 0, .slice none 0 0]) := heap_alloc_new w1 _
  clear u1
  go_upto_region 4 with (fail)
  generalize w1.alloc (.cells #[.slice none 0 0, .slice none 0 0] 27) = W0 at HX HU1 ⊢
  generalize w1.heap.size = X at HX HXG ⊢
  have HST5 : Hid (TpLoop z0 X N w (.int .i64 0) W0) := ⟨0, zeroS, _, _, Nat.zero_le _, rfl, ⟨HX.out, Stat.zero _, zero_good, zero_full, HU1.out⟩⟩
  clear HX HU1
  go_wp2_with fail
  go_loopw [33] (fun i wr => TpLoop z0 X N w i wr) (fun i _ => N - (intOf i).toNat)
  case atStart => exact HST5.out
  case round =>
    obtain ⟨j, cur, x, y, hjN, rfl, hI⟩ := hrel
    have HI := Lib.hid hI
    obtain ⟨vbx, vvx, hag, hbx, hvx⟩ := hI.st
    simp at hag
    obtain ⟨rfl, rfl⟩ := hag
    obtain ⟨p5, d5, rfl, _⟩ := hbx.slice
    obtain ⟨p6, d6, rfl, _, _⟩ := hvx.slice
    obtain ⟨L5, hL5⟩ : ∃ L5, cur.b.length = L5 := ⟨_, rfl⟩
    obtain ⟨L6, hL6⟩ : ∃ L6, cur.v.length = L6 := ⟨_, rfl⟩
    rw [hL5, hL6] at HI
    have HVX := Lib.hid hvx
    rw [hL6] at HVX
    have HL6 := Lib.hid hL6
    have x0 := HI.out.row.cell (j := 0) rfl
    have x1 := HI.out.row.cell (j := 1) rfl
    clear hbx hvx hI hL5 hL6 HST5
    by_cases hlt : j < N
    · have dz : decide (j < N) = true := decide_eq_true hlt
      have hjl : j < z0.length := by have := HLN.out; omega
      obtain ⟨b, off, hpo, hat⟩ := (HOP.out.up HI.out.up).at (fun e => by rw [e] at hjl; simp at hjl)
      subst hpo
      obtain ⟨e0, e1, e2, e3, e4⟩ := hat j hjl
      have HDO := Lib.hid (fun W (hW : Up wr W) => do_any _ cur z0[j] W (HI.out.st.up hW) (good_wf HI.out.good) (HOP.out.2 z0[j] (List.getElem_mem hjl)))
      have HGD := Lib.hid (stepO_good HI.out.good z0[j])
      have HFD := Lib.hid (stepO_full (F := FP) HI.out.full z0[j])
      unfold opA StEPost at HDO
      unfold stepO at HGD HFD
      obtain ⟨⟨TS, TE⟩, hR⟩ : ∃ R, doO FP cur z0[j] = R := ⟨_, rfl⟩
      rw [hR] at HDO HFD HGD
      simp only at HDO HFD HGD
      generalize bs z0[j].nm = S1 at e1 HDO
      generalize bs z0[j].to = S2 at e2 HDO
      generalize bs z0[j].tx = S3 at e4 HDO
      generalize z0[j].kd = K1 at e0 HDO
      generalize z0[j].pl = K2 at e3 HDO
      clear hat hR x0 x1 HVX HL6
      go_upto_region 7 with (fail)
      have HUP := Lib.hid (Up.alloc wr (.cells #[.int .i64 K1, .string S1, .string S2, .int .i64 K2, .string S3] 29))
      have HOQ : Hid (RowC (wr.alloc (.cells #[.int .i64 K1, .string S1, .string S2, .int .i64 K2, .string S3] 29)) wr.heap.size 29 [.int .i64 K1, .string S1, .string S2, .int .i64 K2, .string S3]) := heap_alloc_new wr _
      generalize wr.alloc (.cells #[.int .i64 K1, .string S1, .string S2, .int .i64 K2, .string S3] 29) = WA at HUP HOQ ⊢
      generalize wr.heap.size = Q at HOQ ⊢
      have HXA := Lib.hid (HI.out.row.up HUP.out)
      have x0 := HXA.out.cell (j := 0) rfl
      have x1 := HXA.out.cell (j := 1) rfl
      have y0 := HOQ.out.cell (j := 0) rfl
      have y1 := HOQ.out.cell (j := 1) rfl
      have y2 := HOQ.out.cell (j := 2) rfl
      have y3 := HOQ.out.cell (j := 3) rfl
      have y4 := HOQ.out.cell (j := 4) rfl
      clear e0 e1 e2 e3 e4
      go_wp2_with fail
      refine (HDO.out _ HUP.out).mono ?_
      rintro e w5 ⟨v5, rfl, ho5, u5⟩
      have hs5 := ho5.stat
      obtain ⟨o7, c7, o8, c8, hv5⟩ := hs5.shape
      subst hv5
      simp only at hs5 ⊢
      obtain ⟨n7, hn7⟩ : ∃ n7, TS.b.length = n7 := ⟨_, rfl⟩
      obtain ⟨n8, hn8⟩ : ∃ n8, TS.v.length = n8 := ⟨_, rfl⟩
      rw [hn7, hn8] at hs5 ⊢
      have hu5 := HUP.out.trans u5
      have HY : Hid (RowC (w5.alloc (.cells #[.slice o7 n7 c7, .slice o8 n8 c8] 27)) w5.heap.size 27 [.slice o7 n7 c7, .slice o8 n8 c8]) := heap_alloc_new w5 _
      have HU6 := Lib.hid (hu5.trans (Up.alloc w5 (.cells #[.slice o7 n7 c7, .slice o8 n8 c8] 27)))
      have HS6 := Lib.hid (hs5.up (Up.alloc w5 (.cells #[.slice o7 n7 c7, .slice o8 n8 c8] 27)))
      have HX6 := Lib.hid (HI.out.row.up HU6.out)
      have HUW := Lib.hid (HI.out.up.trans HU6.out)
      clear ho5 u5 hu5 hs5 x0 x1 y0 y1 y2 y3 y4 hn7 hn8
      go_upto_region 8 with (fail)
      generalize w5.alloc (.cells #[.slice o7 n7 c7, .slice o8 n8 c8] 27) = W6 at HY HU6 HS6 HX6 HUW ⊢
      generalize w5.heap.size = Y at HY ⊢
      by_cases hE : TE = 0
      · subst hE
        rw [if_pos rfl] at HGD HFD
        have y0 := HY.out.cell (j := 0) rfl
        have y1 := HY.out.cell (j := 1) rfl
        have z0' := HX6.out.cell (j := 0) rfl
        have z1 := HX6.out.cell (j := 1) rfl
        have z2 := HX6.out.frozen 0
        have z3 := HX6.out.frozen 1
        go_wp2_with fail
        go_roundw
        case rel => exact ⟨j + 1, TS, _, _, by omega, by go_num, ⟨(HX6.out.set 0 _).set 1 _, Stat.boxed HS6.out HX6.out rfl rfl rfl, HGD.out, HFD.out, up2 HUW.out HXG.out⟩⟩
        case measure => simp only [intOf]; omega
      · have he : (TE == 0) = false := by rw [beq_eq_false_iff_ne]; exact hE
        clear hE
        go_wp2_with fail
        go_roundw
        case rel => exact ⟨j + 1, cur, _, _, by omega, by go_num, ⟨HX6.out, HI.out.st.up HU6.out, HI.out.good, HI.out.full, HUW.out⟩⟩
        case measure => simp only [intOf]; omega
    · have dz : decide (j < N) = false := decide_eq_false hlt
      clear hlt hjN
      by_cases h0 : L6 = 0
      · subst h0
        go_wp2_with fail
        go_ret
        exact ⟨rfl, HI.out.up⟩
      · have d0 : ((L6 : Int) == 0) = false := by rw [beq_eq_false_iff_ne]; omega
        have h6 : L6 ≤ 6 := by rw [← HL6.out]; exact HI.out.good.len
        have hq := within_lt a1 L6 (by omega)
        have HW := Lib.hid (fun W => within_any a1 (L6 : Int) W (by omega) (by omega))
        rw [Int.toNat_natCast] at HW
        obtain ⟨q, hqq⟩ : ∃ q, within a1 L6 = q := ⟨_, rfl⟩
        rw [hqq] at HW hq
        have hqv : q < cur.v.length := by have := HL6.out; omega
        obtain ⟨bv, offv, hpo, hat⟩ := HVX.out.at (fun e => by rw [e] at hqv; simp at hqv)
        subst hpo
        obtain ⟨e1, u, e2, e3⟩ := hat q hqv
        obtain ⟨ou, hu9, hu1, hu2⟩ := e3.slice
        subst hu1
        have HM0 := Lib.hid (HI.out.full cur.v[q] (List.getElem_mem hqv))
        have HM32 := Lib.hid ((HI.out.good.vol cur.v[q] (List.getElem_mem hqv)).2.1)
        have HVQ := Lib.hid (vix_nm HI.out.good hqv)
        have HRD0 := Lib.hid (fun (a : Int) W (hW : Up wr W) => read_any _ cur cur.v[q].nm a W (HI.out.st.up hW) (good_wf HI.out.good))
        have HRD1 := Lib.hid (fun (i : Nat) (hi : i < cur.v[q].bl.length) => read_of HI.out.good hqv HVQ.out hi)
        unfold readVR at HRD0
        have HRR : Hid (∀ i, i < cur.v[q].bl.length → ∀ W, Up wr W → Calls Try.prog 7 #[.agg #[.slice p5 L5 d5, .slice (some ⟨bv, offv, none⟩) L6 d6], .string (bs cur.v[q].nm), .int .i64 (i : Int)] W fun e w' => e = .returned (.tuple #[.string (bs ((txAt cur q i).getD [])), .int .i64 0]) ∧ Up W w') := by
          intro i hi W hW
          have h9 := HRD0.out (i : Int) W hW
          rw [HRD1.out i hi] at h9
          exact h9
        have HTX := Lib.hid (fun n => rdG_txt (st := cur) HI.out.good q n)
        have HQL6 : Hid (q < L6) := hq
        generalize bs cur.v[q].nm = NM at e1 HRR
        obtain ⟨m, hm⟩ : ∃ m, cur.v[q].bl.length = m := ⟨_, rfl⟩
        rw [hm] at HM0 HM32 HRR e2
        have q0 : (0 : Int) ≤ (q : Int) := by omega
        have q1 : (q : Int) < (L6 : Int) := by omega
        clear hat hqq HRD0 HRD1 HVQ hm e3 hu2
        go_upto_region 13 with (fail)
        go_region_held3 (fun U => U.cell? ⟨X, 1, none⟩ = some (.slice (some ⟨bv, offv, none⟩) L6 d6) ∧ U.cell? ⟨bv, offv + q * 2, none⟩ = some (.string NM) ∧ U.cell? ⟨bv, offv + q * 2 + 1, none⟩ = some (.slice ou m hu9)) (go_keep) (first
          | (go_at_call 6; ((with_reducible refine (HW.out _).mono ?_); rintro e wz ⟨rfl, rfl⟩)))
        all_goals
          have HP : Hid (RowC (wr.alloc (.cells #[.string NM, .slice ou m hu9] 35)).drew wr.heap.size 35 [.string NM, .slice ou m hu9]) := RowC.up (heap_alloc_new wr _) (Up.drew _)
          have hv := (Up.alloc wr (.cells #[.string NM, .slice ou m hu9] 35)).trans (Up.drew _)
          have HX1 := Lib.hid (HI.out.row.up hv)
          have HUV := Lib.hid hv
          have HU1 := Lib.hid (HI.out.up.trans hv)
          clear hv x0 x1 e1 e2 HVX HOP HI HW
          generalize (wr.alloc (.cells #[.string NM, .slice ou m hu9] 35)).drew = W2 at HP HX1 HUV HU1 ⊢
          generalize wr.heap.size = P at HP ⊢
          have hm0 := HM0.out
          have hm32 := HM32.out
          have d1 : ((m : Int) == 0) = false := by rw [beq_eq_false_iff_ne]; omega
          have y1 := HP.out.cell (j := 1) rfl
          obtain ⟨i0, hi', hz0, hz1, hz2⟩ := info_parts strInfoG
          have HI0 := Lib.hid hi'
          have HZ0 := Lib.hid hz0
          have HZ1 := Lib.hid hz1
          have HZ2 := Lib.hid hz2
          have HON : Hid (∀ x : List UInt8, ∀ u ∈ [Value.string (bs x)], u.oneCell' = true) := by
            intro x u hu
            simp at hu
            rw [hu]
            rfl
          clear hi' hz0 hz1 hz2
          go_wp2_with fail
          go_loopw [13, 67] (fun out i wr => TextsRel cur q m W2.heap.size W2 out i wr) (fun _ i _ => m - (intOf i).toNat)
          case atStart => exact ⟨0, rfl, Nat.zero_le _, World.ownsRow_nil _ _ _ _, Up.refl _⟩
          case round =>
            clear y1
            obtain ⟨i, rfl, hj, ho, hu⟩ := hrel
            obtain ⟨oP, cP, hvp⟩ := own_slice ho
            subst hvp
            have HTP := Lib.hid ho
            have HUX := Lib.hid hu
            clear ho hu
            by_cases hlt : i < m
            · have dz' : decide (i < m) = true := decide_eq_true hlt
              have x0 := (HX1.out.up HUX.out).cell (j := 0) rfl
              have x1 := (HX1.out.up HUX.out).cell (j := 1) rfl
              have y0 := (HP.out.up HUX.out).cell (j := 0) rfl
              have HRJ := Lib.hid (HRR.out i hlt)
              have HSN := Lib.hid (rdG_succ cur q i)
              obtain ⟨T, hT⟩ : ∃ T, (txAt cur q i).getD [] = T := ⟨_, rfl⟩
              rw [hT] at HRJ HSN
              clear hT
              go_wp2_with fail
              refine (HRJ.out _ (HUV.out.trans HUX.out)).mono ?_
              rintro e w3 ⟨rfl, u3⟩
              have HTQ := Lib.hid (own_upT HTP.out u3)
              have HU3 := Lib.hid (HUX.out.trans u3)
              clear u3 x0 x1 y0
              go_wp2_with (at_builtin; (refine wpList_append_lies _ rfl _ _ 37 rfl W2.heap.size 9 i0 (.string ⟨#[]⟩) 1 16 Try.underlying37 HI0.out HZ0.out HZ1.out HZ2.out rfl (by decide) (.slice oP i cP) i (fl txC (rdG cur q i)) rfl (World.ownsRow.alloc HTQ.out _) ⟨w3.heap.size, 0, none⟩ 1 1 [.string (bs T)] rfl rfl (cell_one_new _ _ _) (HON.out T) (by omega) (by unfold maxLen; omega) (by omega) (HU3.out.trans (Up.alloc _ _)).size _ rfl ?_; intro gA cA wA hA hgA hatA hltA))
              have HA : Hid (wA.ownsRow W2.heap.size 9 1 (.slice (some ⟨gA, 0, none⟩) (i + 1) cA) (i + 1) (fl txC (rdG cur q (i + 1)))) := by
                rw [HSN.out, fl_append]
                exact hA
              have HUA := Lib.hid (Below.grown (HU3.out.trans (Up.alloc _ _)) hgA (HU3.out.trans (Up.alloc w3 (.cells #[.string (bs T)] 9))).size (fun k hk => (World.ownsRow.lt HTQ.out k hk).1))
              clear hA hgA hatA hltA
              go_wp2_with fail
              go_roundw
              case rel => exact ⟨i + 1, by go_num, by omega, HA.out, HUA.out⟩
              case measure => simp only [intOf]; omega
            · have dz' : decide (i < m) = false := decide_eq_false hlt
              have him : i = m := by omega
              subst him
              have hlen := rdG_len cur q i
              have HTT : Hid (Txs wr (.slice oP i cP) (rdG cur q i)) := by
                show Sl _ 1 _ _ _
                rw [hlen]
                exact Sl.of_own HTP.out
              have hE : chkT (rdG cur q i) = 0 := chkT_yes (by omega) (by omega) (HTX.out i)
              have hI : within a2 i < i := within_lt a2 i (by omega)
              have HWI := Lib.hid (fun W => within_any a2 (i : Int) W (by omega) (by omega))
              rw [Int.toNat_natCast] at HWI
              obtain ⟨I, hII⟩ : ∃ I, within a2 i = I := ⟨_, rfl⟩
              rw [hII] at HWI hI
              have hil : I < (rdG cur q i).length := by omega
              have HR := Lib.hid (fun W (hW : Up wr W) => rootT_any _ (rdG cur q i) W (HTT.out.up hW))
              have HPF := Lib.hid (fun W (hW : Up wr W) => proofT_any _ (rdG cur q i) (I : Int) W (HTT.out.up hW))
              unfold PrPost at HPF
              have HV := Lib.hid (fun W v (hv : Stps W v (prfV (rdG cur q i) (I : Int))) => verify_any (rootV (rdG cur q i)) (i : Int) (I : Int) (rdG cur q i)[I] v _ W hv)
              have HN := Lib.hid (fun W v (hv : Stps W v (prfV (rdG cur q i) (I : Int))) => verify_any (bits .xor .i64 (rootV (rdG cur q i)) 1) (i : Int) (I : Int) (rdG cur q i)[I] v _ W hv)
              have hpp := proves_plain hE hil
              have hpn := proof_plain hE hil
              rw [hlen] at hpp hpn
              rw [hpp.1, hpp.2] at HV
              rw [hpp.1, hpn] at HN
              rw [hE] at HR
              rw [(prfV_ok hE hil).1] at HPF
              obtain ⟨bt, offt, hpo, hat⟩ := HTT.out.at (fun e => by rw [e] at hil; simp at hil)
              subst hpo
              have HC := Lib.hid (hat I hil)
              generalize (rdG cur q i)[I] = t at *
              generalize rootV (rdG cur q i) = R at *
              generalize prfV (rdG cur q i) (I : Int) = PV at *
              clear hat hpp hpn hE hil hII HTP HTX hlt hj hlen HRR
              go_wp2_with fail
              refine (HWI.out _).mono ?_
              rintro e w4 ⟨rfl, rfl⟩
              go_wp2_with fail
              refine (HR.out _ (Up.refl _)).mono ?_
              rintro e w5 ⟨rfl, u5⟩
              have HU5 := Lib.hid u5
              clear u5
              go_wp2_with fail
              refine (HPF.out _ HU5.out).mono ?_
              rintro e w6 ⟨v6, rfl, hst6, u6⟩
              have HS6 := Lib.hid hst6.stps
              obtain ⟨o6, c6, hv6, _, _⟩ := hst6.stps.slice
              subst hv6
              have HU6 := Lib.hid (HU5.out.trans u6)
              clear hst6 u6
              have q' := (HU6.out.cell (World.block_lt_of_cell? _ _ HC.out)).trans HC.out
              go_wp2_with fail
              refine (HV.out _ _ HS6.out).mono ?_
              rintro e w7 ⟨rfl, u7⟩
              have HU7 := Lib.hid (HU6.out.trans u7)
              have HS7 := Lib.hid (HS6.out.up u7)
              clear u7 q'
              have q' := (HU7.out.cell (World.block_lt_of_cell? _ _ HC.out)).trans HC.out
              go_wp2_with fail
              refine (HN.out _ _ HS7.out).mono ?_
              rintro e w8 ⟨rfl, u8⟩
              go_wp2_with fail
              go_ret
              exact ⟨rfl, (HU1.out.trans HUX.out).trans (HU7.out.trans u8)⟩

end Go.Proofs.Ytkghinpajogdhaa
