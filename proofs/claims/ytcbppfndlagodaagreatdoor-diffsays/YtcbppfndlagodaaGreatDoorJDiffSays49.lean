/-
  The law DiffSays: whatever is handed in, Diff and Copy answer what the document says. Conditions: a state and a row of ints that can be read.
-/
import Derived.Test.YtcbppfndlagodaaGreatDoorJDiffSays44
import Derived.Test.YtcbppfndlagodaaGreatDoorJDiffSays39
import Derived.Test.YtcbppfndlagodaaGreatDoorJDiffSays48
import Derived.Deep.DeepCutAuto
namespace Go.Proofs.YtcbppfndlagodaaGreatDoor
open Go.RowKit
open Go.Proofs
open WoolBag
open WoolVol

structure DsRel (s0 : Sta) (kf L : Nat) (m : List UInt8) (z : List Int) (vX : Value) (CS : Sta) (CE : Int) (Y : Nat) (W9 : World) (k : Nat) (cur : Sta) (x y : Value) (wr : World) : Prop where
  le : k ≤ z.length
  row : RowC wr Y 25 [x, y]
  st : Stat wr (.agg #[x, y]) cur
  sx : Stat wr vX CS
  inv : CpI s0 kf cur
  eq : (CS, CE) = cpL s0 kf L m cur (z.drop k)
  low : Below Y W9 wr

def DsLoop (s0 : Sta) (kf L : Nat) (m : List UInt8) (z : List Int) (vX : Value) (CS : Sta) (CE : Int) (Y : Nat) (W9 : World) (i : Value) (wr : World) : Prop :=
  ∃ k cur x y, i = .int .i64 ((k : Nat) : Int) ∧ DsRel s0 kf L m z vX CS CE Y W9 k cur x y wr

/-- the deed of one copied block -/
def kdOf (o : Option (List UInt8)) : Int := match o with | some _ => 3 | none => 4

theorem do_step (s0 cur : Sta) (kf j : Nat) (m : List UInt8) : do34 (kdOf (txAt s0 kf j)) cur m ((txAt s0 kf j).getD []) (j : Int) = cpStep s0 kf m cur (j : Int) := by
  unfold cpStep do34 kdOf
  rw [Int.toNat_natCast]
  cases txAt s0 kf j with
  | none => rfl
  | some t => rfl

theorem empty_bs3 : bs [] = ⟨#[]⟩ := rfl

set_option maxRecDepth 100000 in
set_option maxHeartbeats 8000000 in
theorem diffSays_core (a0 : Value) (s0 : Sta) (n m : List UInt8) (vz : Value) (z : List Int) (w : World) (hst : Stat w a0 s0) (hwf : WfS s0) (hz : Sl w 1 vz z.length (inL z)) :
    Calls Tryz.prog 5 #[a0, .string (bs n), .string (bs m), vz] w fun e w' => e = .returned (.bool true) ∧ Up w w' := by
  have HST := Lib.hid hst
  have HDF := Lib.hid (fun W (hW : Up w W) => diff_any a0 s0 n m W (hst.up hW) hwf)
  have HCP := Lib.hid (fun W (hW : Up w W) => copy_any a0 vz s0 n m z W (hst.up hW) hwf (Sl.up hz hW))
  have HRS := Lib.hid (fun W (hW : Up w W) => refState_any a0 s0 W (hst.up hW) hwf)
  have HVA := Lib.hid (fun W (hW : Up w W) => refVol_any a0 s0 n W (hst.up hW))
  have HVB := Lib.hid (fun W (hW : Up w W) => refVol_any a0 s0 m W (hst.up hW))
  have HTX := Lib.hid (fun (hg : WoolVol.Good FP s0) W (hW : Up w W) => refTexts_any a0 s0 W (hst.up hW) hg)
  have HSZ := Lib.hid hz
  obtain ⟨oz, cz, rfl, hz1, hz2⟩ := hz.slice
  unfold maxLen at hz2
  obtain ⟨vb, vv, rfl, hb, hv⟩ := hst
  obtain ⟨oB, cB, rfl, _⟩ := hb.slice
  obtain ⟨oV, cV, rfl, hV1, hV2⟩ := hv.slice
  unfold maxLen at hV2
  have HVI := Lib.hid hv
  clear hb hv hwf hz
  unfold DfPost at HDF
  unfold RdEPost at HCP
  obtain ⟨⟨DL, DE⟩, hDR⟩ : ∃ DR, difR s0 n m = DR := ⟨_, rfl⟩
  obtain ⟨⟨CS, CE⟩, hCR⟩ : ∃ CR, cpR s0 n m z = CR := ⟨_, rfl⟩
  have HDR := Lib.hid hDR
  have HCR := Lib.hid hCR
  rw [hDR] at HDF
  rw [hCR] at HCP
  simp only at HDF HCP
  obtain ⟨D, hD⟩ : ∃ D, DL.length = D := ⟨_, rfl⟩
  obtain ⟨CB, hCB⟩ : ∃ CB, CS.b.length = CB := ⟨_, rfl⟩
  obtain ⟨CV, hCV⟩ : ∃ CV, CS.v.length = CV := ⟨_, rfl⟩
  have HDD := Lib.hid hD
  have HCB := Lib.hid hCB
  have HCV := Lib.hid hCV
  obtain ⟨CK, hCK⟩ : ∃ CK, chkS FP s0 = CK := ⟨_, rfl⟩
  have HCK := Lib.hid hCK
  rw [hCK] at HRS
  obtain ⟨IA, hIA⟩ : ∃ IA, ixV (fun t => t == n) s0.v = IA := ⟨_, rfl⟩
  obtain ⟨IB, hIB⟩ : ∃ IB, ixV (fun t => t == m) s0.v = IB := ⟨_, rfl⟩
  have HIA := Lib.hid hIA
  have HIB := Lib.hid hIB
  rw [hIA] at HVA
  rw [hIB] at HVB
  obtain ⟨M, hM⟩ : ∃ M, s0.b.length = M := ⟨_, rfl⟩
  obtain ⟨N, hN⟩ : ∃ N, s0.v.length = N := ⟨_, rfl⟩
  have HN := Lib.hid hN
  rw [hM, hN] at HST HDF HCP HRS HVA HVB HTX ⊢
  rw [hN] at HVI hV1
  obtain ⟨Z, hZ⟩ : ∃ Z, z.length = Z := ⟨_, rfl⟩
  have HZL := Lib.hid hZ
  rw [hZ] at hz1 HSZ HCP ⊢
  clear hDR hCR hCK hIA hIB hM hN hZ hD hCB hCV
  have HA : Hid (RowC (w.alloc (.cells #[.slice oB M cB, .slice oV N cV] 25)) w.heap.size 25 [.slice oB M cB, .slice oV N cV]) := heap_alloc_new w _
  have HW0 : Hid (Up w (w.alloc (.cells #[.slice oB M cB, .slice oV N cV] 25))) := Up.alloc _ _
  go_enter Tryz.func5, Tryz.ntmps5
  go_upto_region 1 with (fail)
  generalize (w.alloc (.cells #[.slice oB M cB, .slice oV N cV] 25)) = W0 at HA HW0 ⊢
  have q0 := HA.out.cell (j := 0) rfl
  have q1 := HA.out.cell (j := 1) rfl
  go_wp2_with fail
  refine (HDF.out _ HW0.out).mono ?_
  rintro e w1 ⟨vx, rfl, hox, u1⟩
  obtain ⟨ox, cx, rfl, hcx, hcx', _⟩ := hox.shape
  rw [HDD.out] at hcx hox ⊢
  unfold maxLen at hcx'
  have HOX := Lib.hid hox
  have HA1 := Lib.hid (HA.out.up u1)
  have HU1 := Lib.hid (HW0.out.trans u1)
  clear q0 q1 hox u1
  have q0 := HA1.out.cell (j := 0) rfl
  have q1 := HA1.out.cell (j := 1) rfl
  go_wp2_with fail
  refine (HCP.out _ HU1.out).mono ?_
  rintro e w2 ⟨v2, rfl, hs2, u2⟩
  obtain ⟨vb2, vv2, rfl, hb2, hv2⟩ := hs2
  obtain ⟨o5, c5, rfl, _⟩ := hb2.slice
  obtain ⟨o6, c6, rfl, _, _⟩ := hv2.slice
  rw [HCB.out] at hb2 ⊢
  rw [HCV.out] at hv2 ⊢
  clear q0 q1
  go_upto_region 3 with (fail)
  have hal := Up.alloc w2 (.cells #[.slice o5 CB c5, .slice o6 CV c6] 25)
  have HX3 : Hid (RowC (w2.alloc (.cells #[.slice o5 CB c5, .slice o6 CV c6] 25)) w2.heap.size 25 [.slice o5 CB c5, .slice o6 CV c6]) := heap_alloc_new w2 _
  have HA3 := Lib.hid ((HA1.out.up u2).up hal)
  have HU3 := Lib.hid ((HU1.out.trans u2).trans hal)
  have HO3 := Lib.hid ((HOX.out.up u2).up hal)
  have HS3 : Hid (Stat (w2.alloc (.cells #[.slice o5 CB c5, .slice o6 CV c6] 25)) (.agg #[.slice o5 CB c5, .slice o6 CV c6]) CS) := ⟨_, _, rfl, hb2.up hal, hv2.up hal⟩
  clear hal u2 hb2 hv2
  generalize (w2.alloc (.cells #[.slice o5 CB c5, .slice o6 CV c6] 25)) = W3 at HX3 HA3 HU3 HO3 HS3 ⊢
  obtain ⟨X, hX⟩ : ∃ X, w2.heap.size = X := ⟨_, rfl⟩
  rw [hX] at HX3 ⊢
  clear hX
  have q0 := HA3.out.cell (j := 0) rfl
  have q1 := HA3.out.cell (j := 1) rfl
  go_wp2_with fail
  refine (HRS.out _ HU3.out).mono ?_
  rintro e w4 ⟨rfl, u4⟩
  have HX4 := Lib.hid (HX3.out.up u4)
  have HA4 := Lib.hid (HA3.out.up u4)
  have HU4 := Lib.hid (HU3.out.trans u4)
  have HO4 := Lib.hid (HO3.out.up u4)
  have HS4 := Lib.hid (HS3.out.up u4)
  clear q0 q1 u4 HX3 HA3 HU3 HO3 HS3
  have q0 := HA4.out.cell (j := 0) rfl
  have q1 := HA4.out.cell (j := 1) rfl
  go_upto_region 4 with (fail)
  go_cut [14, 15] (fun i k wx => i = .int .i64 IA ∧ k = .int .i64 IB ∧ Up w4 wx)
  case first =>
    have HCL : Hid (∀ W, Up w4 W → W.cell? ⟨w.heap.size, 0, none⟩ = some (.slice oB M cB) ∧ W.cell? ⟨w.heap.size, 1, none⟩ = some (.slice oV N cV)) := fun W hW => ⟨(HA4.out.up hW).cell (j := 0) rfl, (HA4.out.up hW).cell (j := 1) rfl⟩
    go_region_with ((go_at_call 16; first
      | ((with_reducible refine (HVA.out _ (HU4.out.trans (Up.drew _))).mono ?_); rintro e wa ⟨rfl, ua⟩; have ha : Up w4 wa := (Up.drew _).trans ua; obtain ⟨g0, g1⟩ := HCL.out wa ha)
      | ((with_reducible refine (HVB.out _ (HU4.out.trans (Up.drew _))).mono ?_); rintro e wb ⟨rfl, ub⟩; have hb : Up w4 wb := (Up.drew _).trans ub; obtain ⟨g2, g3⟩ := HCL.out wb hb)
      | ((with_reducible refine (HVB.out _ (HU4.out.trans ha)).mono ?_); rintro e wb ⟨rfl, ub⟩; have hb : Up w4 wb := ha.trans ub; obtain ⟨g2, g3⟩ := HCL.out wb hb)
      | ((with_reducible refine (HVA.out _ (HU4.out.trans hb)).mono ?_); rintro e wa ⟨rfl, ua⟩; have ha : Up w4 wa := hb.trans ua; obtain ⟨g0, g1⟩ := HCL.out wa ha)))
    all_goals
      go_wp2_with fail
      go_meet
      first
      | exact ⟨rfl, rfl, ‹Up w4 _›⟩
      | skip
    all_goals done
  case rest =>
    obtain ⟨rfl, rfl, hu5⟩ := hcut
    obtain ⟨W5, hW5⟩ : ∃ W5, W5 = wc := ⟨_, rfl⟩
    subst hW5
    have HX5 := Lib.hid (HX4.out.up hu5)
    have HA5 := Lib.hid (HA4.out.up hu5)
    have HU5 := Lib.hid (HU4.out.trans hu5)
    have HO5 := Lib.hid (HO4.out.up hu5)
    have HS5 := Lib.hid (HS4.out.up hu5)
    clear hu5 q0 q1 HX4 HA4 HU4 HO4 HS4 HRS HVA HVB HDF HCP
    have HERR : Hid (∀ E, E ≠ 0 → twoE s0 n m = E → D = 0 ∧ DE = E ∧ CS = zeroS ∧ CE = E) := by
      intro E hE h2
      have hb := both_two s0 n m
      rw [h2] at hb
      have h3 := HDR.out
      unfold difR at h3
      rw [hb, if_pos hE] at h3
      have h4 := HCR.out
      unfold cpR at h4
      rw [hb, if_pos hE] at h4
      simp only [Prod.mk.injEq] at h3 h4
      exact ⟨by rw [← HDD.out, ← h3.1]; rfl, h3.2.symm, h4.1.symm, h4.2.symm⟩
    have q0 := HX5.out.cell (j := 0) rfl
    have q1 := HX5.out.cell (j := 1) rfl
    have HSM := Lib.hid (fun (hz : CS = zeroS) W (hW : Up W5 W) => same_yes _ zeroV zeroS W (hz ▸ HS5.out.up hW) (Stat.zero W))
    unfold zeroV at HSM
    by_cases hC0 : CK = 0
    · subst hC0
      rcases vix_cases (nmB n) s0.v with hxa | ⟨kf, hxa⟩
      · have hia : IA = -1 := by rw [← HIA.out, ixV_name, hxa]
        obtain ⟨e1, e2, e3, e4⟩ := HERR.out 4 (by omega) (by unfold twoE; rw [HCK.out, hxa]; rfl)
        subst hia e1 e2 e4
        have HSM2 := Lib.hid (HSM.out e3)
        clear hxa e3 HERR HSM
        go_wp2_with fail
        refine (HSM2.out _ (Up.refl _)).mono ?_
        rintro e w9 ⟨rfl, u9⟩
        go_wp2_with fail
        go_ret
        exact ⟨rfl, HU5.out.trans u9⟩
      · have hia : IA = (kf : Int) := by rw [← HIA.out, ixV_name, hxa]
        rcases vix_cases (nmB m) s0.v with hxb | ⟨kt, hxb⟩
        · have hib : IB = -1 := by rw [← HIB.out, ixV_name, hxb]
          obtain ⟨e1, e2, e3, e4⟩ := HERR.out 4 (by omega) (by unfold twoE; rw [HCK.out, hxb]; simp)
          subst hia hib e1 e2 e4
          have HSM2 := Lib.hid (HSM.out e3)
          clear hxa hxb e3 HERR HSM
          go_wp2_with fail
          refine (HSM2.out _ (Up.refl _)).mono ?_
          rintro e w9 ⟨rfl, u9⟩
          go_wp2_with fail
          go_ret
          exact ⟨rfl, HU5.out.trans u9⟩
        · have hib : IB = (kt : Int) := by rw [← HIB.out, ixV_name, hxb]
          subst hia hib
          have hb0 : (bothR s0 n m).2.2 = 0 := by rw [both_two]; unfold twoE; rw [HCK.out, hxa, hxb]; rfl
          obtain ⟨hgood, kf', hkf, kt', hkt, hvf, hxa', hxb', hbe⟩ := both_ok hb0
          rw [hxa] at hxa'
          rw [hxb] at hxb'
          cases hxa'
          cases hxb'
          have HGD := Lib.hid hgood
          have HXA := Lib.hid hxa
          have HBE := Lib.hid hbe
          have HVF := Lib.hid hvf
          obtain ⟨b, off, rfl, h5⟩ := HVI.out.at (by intro e; rw [e] at hkf; simp at hkf)
          obtain ⟨_, uf, af, hidf⟩ := h5 kf hkf
          obtain ⟨_, ut, at_, hidt⟩ := h5 kt hkt
          obtain ⟨of, cf, rfl, hcf, hcf'⟩ := hidf.slice
          obtain ⟨ot, ct, rfl, hct, hct'⟩ := hidt.slice
          unfold maxLen at hcf' hct'
          have hl32 := (hgood.vol _ (List.getElem_mem hkf)).2.1
          obtain ⟨A, hA⟩ : ∃ A, s0.v[kf].bl = A := ⟨_, rfl⟩
          obtain ⟨B, hB⟩ : ∃ B, s0.v[kt].bl = B := ⟨_, rfl⟩
          have HAE := Lib.hid hA
          rw [hA] at af hidf hcf hl32 HBE
          rw [hB] at at_ hidt hct HBE
          have HIF := Lib.hid hidf
          have HIT := Lib.hid hidt
          have HAF := Lib.hid af
          have HAT := Lib.hid at_
          have hkfN : kf < N := by rw [← HN.out]; exact hkf
          have hktN : kt < N := by rw [← HN.out]; exact hkt
          have af5 := (HU5.out.cell (World.block_lt_of_cell? w _ af)).trans af
          have at5 := (HU5.out.cell (World.block_lt_of_cell? w _ at_)).trans at_
          have a0 := HA5.out.cell (j := 0) rfl
          have a1 := HA5.out.cell (j := 1) rfl
          have HTX2 := Lib.hid (HTX.out hgood)
          clear h5 af at_ hidf hidt hxa hxb hbe hvf hgood hb0 hA hB HERR HSM HTX
          go_upto_if 93 with (fail)
          go_cut [] (fun wx => Up W5 wx)
          case first =>
            by_cases hlen : A.length = B.length
            · have hdd : DL = dif A B A.length ∧ DE = 0 := by
                have h3 := HDR.out
                unfold difR at h3
                rw [HBE.out, if_neg (by simp), if_neg (by simpa using hlen)] at h3
                simp only [Prod.mk.injEq] at h3
                exact ⟨h3.1.symm, h3.2.symm⟩
              obtain ⟨rfl, rfl⟩ := hdd
              have HLE := Lib.hid hlen
              have hne : (((A.length : Nat) : Int) != ((B.length : Nat) : Int)) = false := by rw [hlen]; simp
              rw [hne]
              rw [← hlen] at hct HIT HAT at5 ⊢
              clear hne
              obtain ⟨i0, hi, hz0, hz1', hz2'⟩ := inInfo
              have HI := Lib.hid hi
              have HZ0 := Lib.hid hz0
              have HZ1 := Lib.hid hz1'
              have HZ2 := Lib.hid hz2'
              clear hi hz0 hz1' hz2' hlen
              go_wp2_with fail
              go_loopw [17, 103] (fun pl i wr => DfRel A B W5.heap.size W5 pl i wr) (fun _ i _ => A.length - (intOf i).toNat)
              case atStart => exact ⟨0, Nat.zero_le _, rfl, OInts.nil _ _, Up.refl _⟩
              case round =>
                obtain ⟨k, hk, rfl, hown, hu⟩ := hrel
                obtain ⟨oC, cC, hvv, hcC, hcC', _⟩ := hown.shape
                subst hvv
                unfold maxLen at hcC'
                have HO := Lib.hid hown
                have HU := Lib.hid hu
                have hdl := dif_len A B k
                by_cases hlt : k < A.length
                · have hltB : k < B.length := by rw [← HLE.out]; exact hlt
                  obtain ⟨b1, off1, hb1, h5⟩ := HIF.out.at (by intro e; rw [e] at hlt; simp at hlt)
                  subst hb1
                  obtain ⟨b2, off2, hb2, h6⟩ := HIT.out.at (by intro e; rw [e] at hltB; simp at hltB)
                  subst hb2
                  obtain ⟨e1, e2, e3⟩ := h5 k hlt
                  obtain ⟨f1, f2, f3⟩ := h6 k hltB
                  have huw := HU5.out.trans hu
                  rw [← huw.cell (World.block_lt_of_cell? w _ e1)] at e1
                  rw [← huw.cell (World.block_lt_of_cell? w _ e2)] at e2
                  rw [← huw.cell (World.block_lt_of_cell? w _ e3)] at e3
                  rw [← huw.cell (World.block_lt_of_cell? w _ f1)] at f1
                  rw [← huw.cell (World.block_lt_of_cell? w _ f2)] at f2
                  rw [← huw.cell (World.block_lt_of_cell? w _ f3)] at f3
                  have g1 := (HA5.out.up hu).cell (j := 1) rfl
                  have g2 := (huw.cell (World.block_lt_of_cell? w _ HAT.out)).trans HAT.out
                  have hax : A[k]! = A[k] := getElem!_pos A k hlt
                  have hbx : B[k]! = B[k] := getElem!_pos B k hltB
                  obtain ⟨x, hx⟩ : ∃ x, A[k] = x := ⟨_, rfl⟩
                  obtain ⟨y, hy⟩ : ∃ y, B[k] = y := ⟨_, rfl⟩
                  have HAX : Hid (A[k]! = x) := hax.trans hx
                  have HBX : Hid (B[k]! = y) := hbx.trans hy
                  rw [hx] at e1 e2 e3
                  rw [hy] at f1 f2 f3
                  obtain ⟨xb, xs, xn⟩ := x
                  obtain ⟨yb, ys, yn⟩ := y
                  simp only at e1 e2 e3 f1 f2 f3
                  have dd : decide (k < A.length) = true := decide_eq_true hlt
                  clear h5 h6 hax hbx hx hy hown hu huw
                  by_cases hxy : ((xb, xs, xn) : Idn) = (yb, ys, yn)
                  · simp only [Prod.mk.injEq] at hxy
                    obtain ⟨rfl, rfl, rfl⟩ := hxy
                    have HDE := Lib.hid (dif_eq (HAX.out.trans HBX.out.symm))
                    go_wp2_with fail
                    go_quiet (fail)
                    go_wp2_with fail
                    go_roundw
                    case rel => exact ⟨k + 1, by omega, by go_num, by rw [HDE.out]; exact HO.out.up (Up.drewN _ _), HU.out.trans (Up.drewN _ _)⟩
                    case measure => simp only [intOf]; omega
                  · have HDN := Lib.hid (dif_ne (a := A) (b := B) (k := k) (by rw [HAX.out, HBX.out]; exact hxy))
                    have hc : (xb ≠ yb) ∨ (xb = yb ∧ (xs == ys) = false) ∨ (xb = yb ∧ xs = ys ∧ (xn == yn) = false) := by
                      simp only [Prod.mk.injEq] at hxy
                      by_cases h1 : xb = yb
                      · by_cases h2 : xs = ys
                        · exact .inr (.inr ⟨h1, h2, by simpa using fun h3 => hxy ⟨h1, h2, h3⟩⟩)
                        · exact .inr (.inl ⟨h1, by simpa using h2⟩)
                      · exact .inl h1
                    clear hxy
                    go_wp2_with fail
                    rcases hc with hc | ⟨rfl, hc⟩ | ⟨rfl, rfl, hc⟩
                    · have hc2 : (xb == yb) = false := by simpa using hc
                      clear hc
                      go_quiet (fail)
                      have hu5 : Up wr (wr.drewN nq) := Up.drewN _ _
                      have HO6 := Lib.hid (HO.out.up hu5)
                      have HU6 := Lib.hid (HU.out.trans hu5)
                      clear hu5 e1 e2 e3 f1 f2 f3 g1 g2
                      generalize wr.drewN nq = W7 at HO6 HU6 ⊢
                      have hws := HU6.out.size
                      go_wp2_with (at_builtin; refine wpList_append_own _ rfl _ _ 38 rfl W5.heap.size 3 i0 (.int .i64 0) 1 8 Tryz.underlying38 HI.out HZ0.out HZ1.out HZ2.out rfl (by decide) _ _ _ rfl (World.ownsRow.alloc HO6.out _) ⟨W7.heap.size, 0, none⟩ 1 1 [.int .i64 (k : Int)] rfl rfl (row_new _ _ _) (by simp [Value.oneCell']) (by unfold maxLen; omega) (by omega) (by simp; omega) ?_; intro v7 w7 hown hgrow hnil; have HM12 := Lib.hid (OInts.more HU6.out (Nat.le_refl _) HO6.out hown hgrow); clear hown hgrow hnil)
                      go_roundw
                      case rel => exact ⟨k + 1, by omega, by go_num, by rw [HDN.out]; exact HM12.out.1, HM12.out.2⟩
                      case measure => simp only [intOf]; omega
                    · go_quiet (fail)
                      have hu5 : Up wr (wr.drewN nq) := Up.drewN _ _
                      have HO6 := Lib.hid (HO.out.up hu5)
                      have HU6 := Lib.hid (HU.out.trans hu5)
                      clear hu5 e1 e2 e3 f1 f2 f3 g1 g2
                      generalize wr.drewN nq = W7 at HO6 HU6 ⊢
                      have hws := HU6.out.size
                      go_wp2_with (at_builtin; refine wpList_append_own _ rfl _ _ 38 rfl W5.heap.size 3 i0 (.int .i64 0) 1 8 Tryz.underlying38 HI.out HZ0.out HZ1.out HZ2.out rfl (by decide) _ _ _ rfl (World.ownsRow.alloc HO6.out _) ⟨W7.heap.size, 0, none⟩ 1 1 [.int .i64 (k : Int)] rfl rfl (row_new _ _ _) (by simp [Value.oneCell']) (by unfold maxLen; omega) (by omega) (by simp; omega) ?_; intro v7 w7 hown hgrow hnil; have HM12 := Lib.hid (OInts.more HU6.out (Nat.le_refl _) HO6.out hown hgrow); clear hown hgrow hnil)
                      go_roundw
                      case rel => exact ⟨k + 1, by omega, by go_num, by rw [HDN.out]; exact HM12.out.1, HM12.out.2⟩
                      case measure => simp only [intOf]; omega
                    · go_quiet (fail)
                      have hu5 : Up wr (wr.drewN nq) := Up.drewN _ _
                      have HO6 := Lib.hid (HO.out.up hu5)
                      have HU6 := Lib.hid (HU.out.trans hu5)
                      clear hu5 e1 e2 e3 f1 f2 f3 g1 g2
                      generalize wr.drewN nq = W7 at HO6 HU6 ⊢
                      have hws := HU6.out.size
                      go_wp2_with (at_builtin; refine wpList_append_own _ rfl _ _ 38 rfl W5.heap.size 3 i0 (.int .i64 0) 1 8 Tryz.underlying38 HI.out HZ0.out HZ1.out HZ2.out rfl (by decide) _ _ _ rfl (World.ownsRow.alloc HO6.out _) ⟨W7.heap.size, 0, none⟩ 1 1 [.int .i64 (k : Int)] rfl rfl (row_new _ _ _) (by simp [Value.oneCell']) (by unfold maxLen; omega) (by omega) (by simp; omega) ?_; intro v7 w7 hown hgrow hnil; have HM12 := Lib.hid (OInts.more HU6.out (Nat.le_refl _) HO6.out hown hgrow); clear hown hgrow hnil)
                      go_roundw
                      case rel => exact ⟨k + 1, by omega, by go_num, by rw [HDN.out]; exact HM12.out.1, HM12.out.2⟩
                      case measure => simp only [intOf]; omega
                · have dd : decide (k < A.length) = false := decide_eq_false hlt
                  have hkA : k = A.length := by omega
                  subst hkA
                  have HEQ := Lib.hid (fun W (hW : Up wr W) => equalN_yes _ _ (dif A B A.length) W (Sl.up (Sl.of_own (HO5.out.up HU.out)) hW) (Sl.up (Sl.of_own HO.out) hW))
                  clear hown hu
                  go_wp2_with fail
                  refine (HEQ.out _ (Up.refl _)).mono ?_
                  rintro e w7 ⟨rfl, v7⟩
                  have HV7 := Lib.hid (HU.out.trans v7)
                  clear v7
                  go_wp2_with fail
                  go_meet
                  exact HV7.out
            · have hdd : DL = [] ∧ DE = 11 := by
                have h3 := HDR.out
                unfold difR at h3
                rw [HBE.out, if_neg (by simp), if_pos hlen] at h3
                simp only [Prod.mk.injEq] at h3
                exact ⟨h3.1.symm, h3.2.symm⟩
              obtain ⟨rfl, rfl⟩ := hdd
              have hD0 : D = 0 := HDD.out.symm
              subst hD0
              have hne : (((A.length : Nat) : Int) != ((B.length : Nat) : Int)) = true := by rw [bne_iff_ne]; omega
              clear hlen
              go_wp2_with fail
              go_meet
              exact Up.refl _
          case rest =>
            obtain ⟨W6, hW6⟩ : ∃ W6, W6 = wc := ⟨_, rfl⟩
            subst hW6
            have hnk : s0.v[kf].nm = n := by
              obtain ⟨_, h2, _⟩ := vix_some HXA.out
              unfold nmB at h2
              simpa using h2
            have hn12 : s0.v[kf].nm.length ≤ 12 := by have := (HGD.out.vol _ (List.getElem_mem hkf)).1; unfold nameB at this; simp at this; omega
            have HLK := Lib.hid (fun W Bm (hW : TMap W Bm s0.v.length s0) => hW.look kf hkf hkf hn12)
            rw [hnk, HAE.out] at HLK
            have HCPL : Hid ((CS, CE) = cpL s0 kf A.length m s0 z) := by
              have h4 := HCR.out
              unfold cpR at h4
              rw [HBE.out, HVF.out, if_neg (by simp)] at h4
              exact h4.symm
            have HX6 := Lib.hid (HX5.out.up hcut)
            have HA6 := Lib.hid (HA5.out.up hcut)
            have HU6 := Lib.hid (HU5.out.trans hcut)
            have HS6 := Lib.hid (HS5.out.up hcut)
            clear hnk hn12 q0 q1 a0 a1 af5 at5 hcut
            have a0 := HA6.out.cell (j := 0) rfl
            have a1 := HA6.out.cell (j := 1) rfl
            go_wp2_with fail
            refine (HTX2.out _ HU6.out).mono ?_
            rintro e w8 ⟨Bm, rfl, htm, v8⟩
            obtain ⟨vt, hlk, g, hvt, hrow⟩ := HLK.out _ _ htm
            subst hvt
            rw [List.length_map] at hlk
            have HX8 := Lib.hid (HX6.out.up v8)
            have HA8 := Lib.hid (HA6.out.up v8)
            have HU8 := Lib.hid (HU6.out.trans v8)
            have HS8 := Lib.hid (HS6.out.up v8)
            have HROW := Lib.hid hrow
            clear htm v8 hrow a0 a1
            have a0 := HA8.out.cell (j := 0) rfl
            have a1 := HA8.out.cell (j := 1) rfl
            go_upto_region 24 with (fail)
            have hal := Up.alloc w8 (.cells #[.slice oB M cB, .slice (some ⟨b, off, none⟩) N cV] 25)
            have HY9 : Hid (RowC (w8.alloc (.cells #[.slice oB M cB, .slice (some ⟨b, off, none⟩) N cV] 25)) w8.heap.size 25 [.slice oB M cB, .slice (some ⟨b, off, none⟩) N cV]) := heap_alloc_new w8 _
            have HX9 := Lib.hid (HX8.out.up hal)
            have HU9 := Lib.hid (HU8.out.trans hal)
            have HS9 := Lib.hid (HS8.out.up hal)
            have HR9 := Lib.hid (HROW.out.up hal)
            have hXY : X < w8.heap.size := HX8.out.lt
            have hgY : g < w8.heap.size := HROW.out.lt
            have hwY : w.heap.size ≤ w8.heap.size := HU8.out.size
            clear hal a0 a1 hlk
            generalize (w8.alloc (.cells #[.slice oB M cB, .slice (some ⟨b, off, none⟩) N cV] 25)) = W9 at HY9 HX9 HU9 HS9 HR9 ⊢
            obtain ⟨Y, hY⟩ : ∃ Y, w8.heap.size = Y := ⟨_, rfl⟩
            rw [hY] at HY9 hXY hgY hwY ⊢
            clear hY
            have HSTT : Hid (DsLoop s0 kf A.length m z (.agg #[.slice o5 CB c5, .slice o6 CV c6]) CS CE Y W9 (.int .i64 0) W9) := ⟨0, s0, _, _, rfl, Nat.zero_le _, HY9.out, HST.out.up HU9.out, HS9.out, CpI.first HGD.out kf, by rw [List.drop_zero]; exact HCPL.out, Below.refl _ _⟩
            go_wp2_with fail
            go_loopw [140] (fun i wr => DsLoop s0 kf A.length m z (.agg #[.slice o5 CB c5, .slice o6 CV c6]) CS CE Y W9 i wr) (fun i _ => Z - (intOf i).toNat)
            case atStart => exact HSTT.out
            case round =>
              obtain ⟨k, cur, x, y, rfl, hI⟩ := hrel
              have hkZ : k ≤ Z := by rw [← HZL.out]; exact hI.le
              obtain ⟨vbx, vvx, hag, hbx, hvx⟩ := hI.st
              simp at hag
              obtain ⟨rfl, rfl⟩ := hag
              obtain ⟨p5, d5, rfl, _⟩ := hbx.slice
              obtain ⟨p6, d6, rfl, _, _⟩ := hvx.slice
              have HIV := Lib.hid hI
              have HUr : Hid (Up w wr) := Up.trans' HU9.out (hI.low.mono hwY)
              have HXr := Lib.hid (HX9.out.below hI.low hXY)
              have x0 := HXr.out.cell (j := 0) rfl
              have x1 := HXr.out.cell (j := 1) rfl
              have HSMr := Lib.hid (fun (hz : CS = zeroS) W (hW : Up wr W) => same_yes _ zeroV zeroS W (hz ▸ HIV.out.sx.up hW) (Stat.zero W))
              unfold zeroV at HSMr
              clear hbx hvx hI
              by_cases hlt : k < Z
              · have hlz : k < z.length := by rw [HZL.out]; exact hlt
                obtain ⟨bz, offz, hoz, hcz⟩ := Sl.cells HSZ.out (by omega)
                subst hoz
                have e1 := hcz k _ (inL_at hlz)
                rw [← HUr.out.cell (World.block_lt_of_cell? w _ e1)] at e1
                have HDR2 := Lib.hid (List.drop_eq_getElem_cons hlz)
                obtain ⟨p, hp⟩ : ∃ p, z[k] = p := ⟨_, rfl⟩
                rw [hp] at e1 HDR2
                clear hcz hp
                have dz : decide (k < Z) = true := decide_eq_true hlt
                have hcE := HIV.out.eq
                rw [HDR2.out] at hcE
                unfold cpL at hcE
                by_cases ho : p < 0 ∨ (A.length : Int) ≤ p
                · rw [if_pos ho] at hcE
                  simp only [Prod.mk.injEq] at hcE
                  obtain ⟨hcs, rfl⟩ := hcE
                  have HSM3 := Lib.hid (HSMr.out hcs)
                  by_cases hp0 : p < 0
                  · have dp : decide (p < 0) = true := decide_eq_true hp0
                    clear ho hp0 HSMr hcs
                    go_wp2_with fail
                    refine (HSM3.out _ (Up.refl _)).mono ?_
                    rintro e w9 ⟨rfl, v9⟩
                    go_wp2_with fail
                    go_ret
                    exact ⟨rfl, HUr.out.trans v9⟩
                  · have dp : decide (p < 0) = false := decide_eq_false hp0
                    have dq : decide ((A.length : Int) ≤ p) = true := decide_eq_true (by omega)
                    clear ho hp0 HSMr hcs
                    go_wp2_with fail
                    refine (HSM3.out _ (Up.refl _)).mono ?_
                    rintro e w9 ⟨rfl, v9⟩
                    go_wp2_with fail
                    go_ret
                    exact ⟨rfl, HUr.out.trans v9⟩
                · rw [if_neg ho] at hcE
                  obtain ⟨j, rfl⟩ : ∃ j : Nat, p = (j : Int) := ⟨p.toNat, by omega⟩
                  have hjA : j < A.length := by omega
                  have hjb : j < s0.v[kf].bl.length := by rw [HAE.out]; exact hjA
                  obtain ⟨ba, offa, hof, hca⟩ := HIF.out.at (by intro e; rw [e] at hjA; simp at hjA)
                  subst hof
                  have c1 := (hca j hjA).1
                  rw [← HUr.out.cell (World.block_lt_of_cell? w _ c1)] at c1
                  have his := tx_is HGD.out hkf hjb
                  have hAj : A[j] = s0.v[kf].bl[j] := by
                    have : ∀ (L : List Idn) (_ : s0.v[kf].bl = L) (hl : j < L.length), L[j] = s0.v[kf].bl[j] := by rintro L rfl hl; rfl
                    exact this A HAE.out hjA
                  rw [hAj, ← his] at c1
                  have hcell : (fl txR (A.map (txt s0.b)))[j]? = some (.string (bs (txt s0.b A[j]))) := by
                    have := fl_get txR_len (A.map (txt s0.b)) j (by rw [List.length_map]; exact hjA) 0 (by omega)
                    rw [Nat.mul_one, Nat.add_zero, List.getElem_map] at this
                    exact this
                  have t9 := (HR9.out.below HIV.out.low hgY).cell hcell
                  rw [hAj] at t9
                  have HTXT := Lib.hid (fun t => txt_tx (t := t) HGD.out hkf hjb)
                  have hstep := do_step s0 cur kf j m
                  have hsi := CpI.step (b := m) (p := (j : Int)) HIV.out.inv
                  obtain ⟨Tx, hTx⟩ : ∃ Tx, txt s0.b s0.v[kf].bl[j] = Tx := ⟨_, rfl⟩
                  rw [hTx] at t9 HTXT
                  obtain ⟨O, hO⟩ : ∃ O, txAt s0 kf j = O := ⟨_, rfl⟩
                  rw [hO] at c1 hstep HTXT
                  obtain ⟨⟨TS, TE⟩, hT⟩ : ∃ T, cpStep s0 kf m cur (j : Int) = T := ⟨_, rfl⟩
                  rw [hT] at hcE hstep hsi
                  have HDO := Lib.hid (fun W (hW : Up wr W) => refDo34 _ cur (kdOf O) m [] (O.getD []) (j : Int) W (HIV.out.st.up hW) (good_wf HIV.out.inv.good) (by cases O <;> simp [kdOf]) (by cases O <;> simp [kdOf]) (by cases O <;> simp [kdOf]))
                  unfold opV RdEPost at HDO
                  rw [hstep, empty_bs3] at HDO
                  simp only at hcE hsi HDO
                  have HCE := Lib.hid hcE
                  have HSI := Lib.hid hsi
                  have dp : decide ((j : Int) < 0) = false := decide_eq_false (by omega)
                  have dq : decide ((A.length : Int) ≤ (j : Int)) = false := decide_eq_false (by omega)
                  clear hca his hAj hcell hTx hO hT hcE hsi hstep ho
                  have c1a := ((Up.alloc wr (.cells #[.int .i64 4, .string (bs m), .string ⟨#[]⟩, .int .i64 (j : Int), .string ⟨#[]⟩] 33)).cell (World.block_lt_of_cell? wr _ c1)).trans c1
                  go_upto_if 166 with (fail)
                  clear c1a
                  have HOB : Hid (RowC (wr.alloc (.cells #[.int .i64 4, .string (bs m), .string ⟨#[]⟩, .int .i64 (j : Int), .string ⟨#[]⟩] 33)) wr.heap.size 33 [.int .i64 4, .string (bs m), .string ⟨#[]⟩, .int .i64 (j : Int), .string ⟨#[]⟩]) := heap_alloc_new wr _
                  have HU10 : Hid (Up wr (wr.alloc (.cells #[.int .i64 4, .string (bs m), .string ⟨#[]⟩, .int .i64 (j : Int), .string ⟨#[]⟩] 33))) := Up.alloc _ _
                  generalize (wr.alloc (.cells #[.int .i64 4, .string (bs m), .string ⟨#[]⟩, .int .i64 (j : Int), .string ⟨#[]⟩] 33)) = W10 at HOB HU10 ⊢
                  have HOBW : Hid (wr.heap.size ≤ wr.heap.size) := Nat.le_refl _
                  go_cut [] (fun wx => RowC wx wr.heap.size 33 [.int .i64 (kdOf O), .string (bs m), .string ⟨#[]⟩, .int .i64 (j : Int), .string (bs (O.getD []))] ∧ Up wr wx)
                  case first =>
                    cases O with
                    | none =>
                      go_wp2_with fail
                      go_meet
                      exact ⟨HOB.out, HU10.out⟩
                    | some t =>
                      have hTx := HTXT.out t rfl
                      subst hTx
                      have t10 := (HU10.out.cell (World.block_lt_of_cell? wr _ t9)).trans t9
                      have hgw : g < wr.heap.size := World.block_lt_of_cell? wr _ t9
                      have hgn : wr.heap.size ≠ g := by omega
                      have t11 := (World.cell?_setCell_far W10 ⟨wr.heap.size, 0, none⟩ ⟨g, j, none⟩ (.int .i64 3) hgn).trans t10
                      have hsl := from_bs (43 :: t) 1 1 rfl (by simp)
                      have o0 := HOB.out.cell (j := 0) rfl
                      have o4 := HOB.out.cell (j := 4) rfl
                      have f0 := HOB.out.frozen 0
                      have f4 := HOB.out.frozen 4
                      have hs1 : RowC ((W10.setCell ⟨wr.heap.size, 0, none⟩ (.int .i64 3)).setCell ⟨wr.heap.size, 4, none⟩ (.string (bs t))) wr.heap.size 33 [.int .i64 3, .string (bs m), .string ⟨#[]⟩, .int .i64 (j : Int), .string (bs t)] := (HOB.out.set 0 _).set 4 _
                      have hs2 : RowC ((W10.setCell ⟨wr.heap.size, 4, none⟩ (.string (bs t))).setCell ⟨wr.heap.size, 0, none⟩ (.int .i64 3)) wr.heap.size 33 [.int .i64 3, .string (bs m), .string ⟨#[]⟩, .int .i64 (j : Int), .string (bs t)] := (HOB.out.set 4 _).set 0 _
                      have hu1 : Up wr ((W10.setCell ⟨wr.heap.size, 0, none⟩ (.int .i64 3)).setCell ⟨wr.heap.size, 4, none⟩ (.string (bs t))) := (Below.setCell (show Below wr.heap.size wr W10 from HU10.out) (p := ⟨wr.heap.size, 0, none⟩) (Nat.le_refl _) _).setCell (p := ⟨wr.heap.size, 4, none⟩) (Nat.le_refl _) _
                      have hu2 : Up wr ((W10.setCell ⟨wr.heap.size, 4, none⟩ (.string (bs t))).setCell ⟨wr.heap.size, 0, none⟩ (.int .i64 3)) := (Below.setCell (show Below wr.heap.size wr W10 from HU10.out) (p := ⟨wr.heap.size, 4, none⟩) (Nat.le_refl _) _).setCell (p := ⟨wr.heap.size, 0, none⟩) (Nat.le_refl _) _
                      have HS12 : Hid ((RowC ((W10.setCell ⟨wr.heap.size, 0, none⟩ (.int .i64 3)).setCell ⟨wr.heap.size, 4, none⟩ (.string (bs t))) wr.heap.size 33 [.int .i64 3, .string (bs m), .string ⟨#[]⟩, .int .i64 (j : Int), .string (bs t)]) ∧ Up wr ((W10.setCell ⟨wr.heap.size, 0, none⟩ (.int .i64 3)).setCell ⟨wr.heap.size, 4, none⟩ (.string (bs t)))) := ⟨hs1, hu1⟩
                      have HS21 : Hid ((RowC ((W10.setCell ⟨wr.heap.size, 4, none⟩ (.string (bs t))).setCell ⟨wr.heap.size, 0, none⟩ (.int .i64 3)) wr.heap.size 33 [.int .i64 3, .string (bs m), .string ⟨#[]⟩, .int .i64 (j : Int), .string (bs t)]) ∧ Up wr ((W10.setCell ⟨wr.heap.size, 4, none⟩ (.string (bs t))).setCell ⟨wr.heap.size, 0, none⟩ (.int .i64 3))) := ⟨hs2, hu2⟩
                      clear hs1 hs2 hu1 hu2
                      go_wp2_with fail
                      go_region
                      all_goals
                        go_wp2_with fail
                        go_meet
                        first
                        | exact HS12.out
                        | exact ⟨HS12.out.1.up (Up.drew _), HS12.out.2.trans (Up.drew _)⟩
                        | exact HS21.out
                        | exact ⟨HS21.out.1.up (Up.drew _), HS21.out.2.trans (Up.drew _)⟩
                  case rest =>
                    obtain ⟨hob, hup⟩ := hcut
                    have HUC := Lib.hid hup
                    have HYc := Lib.hid (HIV.out.row.up hup)
                    have y0 := HYc.out.cell (j := 0) rfl
                    have y1 := HYc.out.cell (j := 1) rfl
                    have o0 := hob.cell (j := 0) rfl
                    have o1 := hob.cell (j := 1) rfl
                    have o2 := hob.cell (j := 2) rfl
                    have o3 := hob.cell (j := 3) rfl
                    have o4 := hob.cell (j := 4) rfl
                    clear hob hup
                    go_wp2_with fail
                    refine (HDO.out _ HUC.out).mono ?_
                    rintro e wd ⟨vd, rfl, hsd, ud⟩
                    have HSD := Lib.hid hsd
                    obtain ⟨vbd, vvd, rfl, hbd, hvd⟩ := hsd
                    obtain ⟨o7, c7, rfl, _⟩ := hbd.slice
                    obtain ⟨o8, c8, rfl, _, _⟩ := hvd.slice
                    have HUD := Lib.hid (HUC.out.trans ud)
                    have hYd := HYc.out.up ud
                    have k0 := hYd.cell (j := 0) rfl
                    have k1 := hYd.cell (j := 1) rfl
                    have k2 := hYd.frozen 0
                    have k3 := hYd.frozen 1
                    have hY5 : RowC (wd.setCell ⟨Y, 0, none⟩ (.slice o7 TS.b.length c7)) Y 25 [.slice o7 TS.b.length c7, .slice p6 cur.v.length d6] := hYd.set 0 _
                    have HY6 : Hid (RowC ((wd.setCell ⟨Y, 0, none⟩ (.slice o7 TS.b.length c7)).setCell ⟨Y, 1, none⟩ (.slice o8 TS.v.length c8)) Y 25 [.slice o7 TS.b.length c7, .slice o8 TS.v.length c8]) := hY5.set 1 _
                    have HT6 := Lib.hid (Stat.boxed (x := .slice o7 TS.b.length c7) (y := .slice o8 TS.v.length c8) HSD.out hYd rfl rfl rfl)
                    have HSX6 := Lib.hid (Stat.boxed (x := .slice o7 TS.b.length c7) (y := .slice o8 TS.v.length c8) (HIV.out.sx.up HUD.out) hYd rfl rfl rfl)
                    have hYlt := HIV.out.row.lt
                    have HLW6 : Hid (Below Y W9 ((wd.setCell ⟨Y, 0, none⟩ (.slice o7 TS.b.length c7)).setCell ⟨Y, 1, none⟩ (.slice o8 TS.v.length c8))) := ((HIV.out.low.trans (Below.mono HUD.out (Nat.le_of_lt hYlt))).setCell (p := ⟨Y, 0, none⟩) (Nat.le_refl _) _).setCell (p := ⟨Y, 1, none⟩) (Nat.le_refl _) _
                    clear hYd hY5 hbd hvd ud y0 y1 o0 o1 o2 o3 o4 x0 x1
                    go_upto_region 34 with (fail)
                    clear k0 k1 k2 k3
                    generalize ((wd.setCell ⟨Y, 0, none⟩ (.slice o7 TS.b.length c7)).setCell ⟨Y, 1, none⟩ (.slice o8 TS.v.length c8)) = W13 at HY6 HT6 HSX6 HLW6 ⊢
                    by_cases hT0 : TE = 0
                    · subst hT0
                      have HNXT : Hid ((CS, CE) = cpL s0 kf A.length m TS (z.drop (k + 1))) := by show _ = _; rw [HCE.out, if_neg (by simp)]
                      have HSI2 := Lib.hid (HSI.out rfl)
                      go_wp2_with fail
                      go_roundw
                      case rel => exact ⟨k + 1, TS, _, _, by go_num, ⟨hlz, HY6.out, HT6.out, HSX6.out, HSI2.out, HNXT.out, HLW6.out⟩⟩
                      case measure => simp only [intOf]; omega
                    · have hne : (TE != 0) = true := by rw [bne_iff_ne]; exact hT0
                      have hcE2 := HCE.out
                      rw [if_pos hT0] at hcE2
                      simp only [Prod.mk.injEq] at hcE2
                      obtain ⟨hcs, hce⟩ := hcE2
                      subst hce
                      have dee : (CE == CE) = true := by simp
                      have HSM3 := Lib.hid (fun W (hW : Up W13 W) => same_yes _ zeroV zeroS W (hcs ▸ HSX6.out.up hW) (Stat.zero W))
                      unfold zeroV at HSM3
                      have HX13 := Lib.hid (HX9.out.below HLW6.out hXY)
                      have HU13 : Hid (Up w W13) := Up.trans' HU9.out (HLW6.out.mono hwY)
                      have x0 := HX13.out.cell (j := 0) rfl
                      have x1 := HX13.out.cell (j := 1) rfl
                      clear hT0 hcs
                      go_wp2_with fail
                      refine (HSM3.out _ (Up.refl _)).mono ?_
                      rintro e w9 ⟨rfl, v9⟩
                      go_wp2_with fail
                      go_ret
                      exact ⟨rfl, HU13.out.trans v9⟩
              · have dz : decide (k < Z) = false := decide_eq_false hlt
                have hcE := HIV.out.eq
                rw [List.drop_of_length_le (by rw [HZL.out]; omega)] at hcE
                unfold cpL at hcE
                simp only [Prod.mk.injEq] at hcE
                obtain ⟨hcs, rfl⟩ := hcE
                have HTD := Lib.hid (fun W (hW : Up wr W) => told_yes _ _ cur 0 W (hcs ▸ HIV.out.sx.up hW) (HIV.out.st.up hW))
                have y0 := HIV.out.row.cell (j := 0) rfl
                have y1 := HIV.out.row.cell (j := 1) rfl
                clear hcs HSMr
                go_wp2_with fail
                refine (HTD.out _ (Up.refl _)).mono ?_
                rintro e w9 ⟨rfl, v9⟩
                go_wp2_with fail
                go_ret
                exact ⟨rfl, HUr.out.trans v9⟩
    · obtain ⟨e1, e2, e3, e4⟩ := HERR.out CK hC0 (by unfold twoE; rw [HCK.out, if_pos hC0])
      subst e1 e2 e4
      have HSM2 := Lib.hid (HSM.out e3)
      have d1 : (CE == 0) = false := by simpa using hC0
      have d2 : (CE != 0) = true := by rw [bne_iff_ne]; exact hC0
      have d3 : (CE == CE) = true := by simp
      clear e3 HERR HSM hC0
      go_wp2_with fail
      refine (HSM2.out _ (Up.refl _)).mono ?_
      rintro e w9 ⟨rfl, u9⟩
      go_wp2_with fail
      go_ret
      exact ⟨rfl, HU5.out.trans u9⟩

end Go.Proofs.YtcbppfndlagodaaGreatDoor
