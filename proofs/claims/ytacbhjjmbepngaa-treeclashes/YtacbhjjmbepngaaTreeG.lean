/-
  What pairClash, leafClash and Clash of package tree return. Conditions: as each says.
-/
import Derived.Test.YtacbhjjmbepngaaTreeF
namespace Go.Proofs.Ytacbhjjmbepngaa
open Go.RowKit
open Go.Proofs
open WoolTree

/-- the first pair that differs, from level k - 1 down, of levels that are written out -/
def pck (LX LY : List (List Nat)) : Nat → Option (List UInt8 × List UInt8)
  | 0 => none
  | k + 1 => match pc (LX.getD k []) (LY.getD k []) with
    | some r => some r
    | none => pck LX LY k

def pckV : Option (List UInt8 × List UInt8) → Value
  | some r => .tuple #[.string (bs r.1), .string (bs r.2), .bool true]
  | none => .tuple #[.string (bs []), .string (bs []), .bool false]

def PkRel (LX LY : List (List Nat)) (N : Nat) (w : World) (k : Value) (wr : World) : Prop :=
  ∃ K : Nat, K ≤ N ∧ k = .int .i64 ((K : Int) - 1) ∧ pck LX LY N = pck LX LY K ∧ Up w wr

def PiRel (X Y : List Nat) (w : World) (i : Value) (wr : World) : Prop :=
  ∃ I : Nat, I ≤ 64 ∧ i = .int .i64 (I : Int) ∧ pc X Y = pc (X.drop I) (Y.drop I) ∧ Up w wr

set_option maxRecDepth 100000 in
set_option maxHeartbeats 2000000 in
theorem pairClash_any (v1 v2 : Value) (b1 b2 : Nat) (LX LY : List (List Nat)) (w : World) (h1 : Lvs w b1 v1 LX) (h2 : Lvs w b2 v2 LY) (hl : LX.length = LY.length) (h0 : 0 < LX.length) (h6 : LX.length ≤ 6)
    (hxy : ∀ k, k < LX.length → (LX.getD k []).length = (LY.getD k []).length ∧ (LX.getD k []).length ≤ 32 ∧ (∀ x ∈ LX.getD k [], x < 4294967296) ∧ ∀ x ∈ LY.getD k [], x < 4294967296) :
    Calls Try.prog 50 #[v1, v2] w fun e w' => e = .returned (pckV (pck LX LY LX.length)) ∧ Up w w' := by
  obtain ⟨o1, c1, rfl, _, _⟩ := h1.slice
  obtain ⟨o2, c2, rfl, _, _⟩ := h2.slice
  obtain ⟨g1, rfl, hg1⟩ := h1.get h0
  obtain ⟨g2, rfl, hg2⟩ := h2.get (by omega)
  have HG1 := Lib.hid hg1
  have HG2 := Lib.hid hg2
  have HXY := Lib.hid hxy
  obtain ⟨N, hN⟩ : ∃ N, LX.length = N := ⟨_, rfl⟩
  have hN2 : LY.length = N := by omega
  have HN1 := Lib.hid hN
  have HN2 := Lib.hid hN2
  rw [hN] at h0 h6 HXY ⊢
  rw [hN2]
  obtain ⟨R, hR⟩ : ∃ R, pck LX LY N = R := ⟨_, rfl⟩
  rw [hR]
  have HR := Lib.hid hR
  clear h1 h2 hl hxy hg1 hg2 hN hN2 hR
  go_enter Try.func50, Try.ntmps50
  go_wp2_with fail
  go_loopw [7, 8, 9, 10] (fun k _ _ _ wr => PkRel LX LY N w k wr) (fun k _ _ _ _ => (intOf k + 1).toNat)
  case atStart => exact ⟨N, Nat.le_refl _, rfl, rfl, Up.refl w⟩
  case round =>
    obtain ⟨K, hK, rfl, hp, hu⟩ := hrel
    rw [HR.out] at hp
    have HU := Lib.hid hu
    cases K with
    | zero =>
      have hR0 : Hid (R = none) := hp
      clear hp hu
      have d0 : decide (((0 : Nat) : Int) - 1 ≥ 0) = false := by decide
      go_wp2_with fail
      exact bodyPost_ret (v := pckV none) (by simp [results, Try.results50, go_sem, pckV, bs]) rfl ⟨by rw [hR0.out], HU.out⟩
    | succ k =>
      have hke : ((k + 1 : Nat) : Int) - 1 = (k : Int) := by omega
      rw [hke]
      have hk1 : k < LX.length := by rw [HN1.out]; omega
      have hk2 : k < LY.length := by rw [HN2.out]; omega
      obtain ⟨o1', c1', q1, r1⟩ := HG1.out k hk1
      obtain ⟨o2', c2', q2, r2⟩ := HG2.out k hk2
      obtain ⟨x1, x2, x3, x4⟩ := HXY.out k (by omega)
      have e1 : LX.getD k [] = LX[k] := by rw [List.getD_eq_getElem?_getD, List.getElem?_eq_getElem hk1]; rfl
      have e2 : LY.getD k [] = LY[k] := by rw [List.getD_eq_getElem?_getD, List.getElem?_eq_getElem hk2]; rfl
      rw [pck] at hp
      rw [e1] at hp x1 x2 x3
      rw [e2] at hp x1 x4
      generalize LX[k] = X at *
      generalize LY[k] = Y at *
      have HX := Lib.hid r1
      have HY := Lib.hid r2
      have HX3 := Lib.hid x3
      have HX4 := Lib.hid x4
      have HQ1 := Lib.hid q1
      have HQ2 := Lib.hid q2
      have HX1 := Lib.hid x1
      obtain ⟨M, hM⟩ : ∃ M, X.length = M := ⟨_, rfl⟩
      have HM := Lib.hid hM
      have hM2 : Y.length = M := by omega
      have HM2 := Lib.hid hM2
      have HP := Lib.hid hp
      clear hp r1 r2 x3 x4 q1 q2 x1 hM hM2 e1 e2 hu
      rw [HM.out] at x2 HX HQ1
      rw [HM2.out] at HY HQ2
      go_wp2_with fail
      go_loopw [8, 9, 10] (fun i _ _ wr => PiRel X Y w i wr) (fun i _ _ _ => 70 - (intOf i).toNat)
      case atStart => exact ⟨0, by omega, rfl, rfl, HU.out⟩
      case round =>
        obtain ⟨I, hI, rfl, hpi, hui⟩ := hrel
        have HU2 := Lib.hid hui
        have q1 := (hui.cell (World.block_lt_of_cell? w _ HQ1.out)).trans HQ1.out
        have q2 := (hui.cell (World.block_lt_of_cell? w _ HQ2.out)).trans HQ2.out
        by_cases hlt : I + 1 < M
        · have d1 : decide ((I : Int) + 1 < (M : Int)) = true := decide_eq_true (by omega)
          have hX0 : I < X.length := by rw [HM.out]; omega
          have hX1 : I + 1 < X.length := by rw [HM.out]; omega
          have hY0 : I < Y.length := by rw [HM2.out]; omega
          have hY1 : I + 1 < Y.length := by rw [HM2.out]; omega
          rw [pc_step X Y I hX1 hY1] at hpi
          have HX5 := HX.out.up hui
          have HY5 := HY.out.up hui
          rw [← HM.out] at HX5
          rw [← HM2.out] at HY5
          obtain ⟨f1, _, ef1, _, _, hm1, hm2⟩ := HX5.block (by omega)
          obtain ⟨f2, _, ef2, _, _, hm3, hm4⟩ := HY5.block (by omega)
          simp only [Value.slice.injEq, true_and] at ef1 ef2
          obtain ⟨rfl, rfl⟩ := ef1
          obtain ⟨rfl, rfl⟩ := ef2
          have q3 := HX5.cell I hX0
          have q4 := HX5.cell (I + 1) hX1
          have q5 := HY5.cell I hY0
          have q6 := HY5.cell (I + 1) hY1
          have bx0 := HX3.out _ (List.getElem_mem hX0)
          have bx1 := HX3.out _ (List.getElem_mem hX1)
          have by0 := HX4.out _ (List.getElem_mem hY0)
          have by1 := HX4.out _ (List.getElem_mem hY1)
          generalize X[I] = x0 at *
          generalize X[I + 1] = x1 at *
          generalize Y[I] = y0 at *
          generalize Y[I + 1] = y1 at *
          have HPX := Lib.hid (fun W => pair_any x0 x1 W bx0 bx1)
          have HPY := Lib.hid (fun W => pair_any y0 y1 W by0 by1)
          rw [HM.out] at hm1
          rw [HM2.out] at hm3
          have ht := txt_eqT (pr x0 x1) (pr y0 y1)
          generalize pr x0 x1 = P1 at *
          generalize pr y0 y1 = P2 at *
          have HPI := Lib.hid hpi
          clear hpi hui HX5 HY5 bx0 bx1 by0 by1 hX0 hX1 hY0 hY1
          have j1 : (0 : Int) ≤ (k : Int) := by omega
          have j2 : (k : Int) < (N : Int) := by omega
          have j3 : (0 : Int) ≤ (I : Int) := by omega
          have j4 : (I : Int) < (M : Int) := by omega
          have j5 : IntKind.i64.wrap ((I : Int) + 1) = (I : Int) + 1 := IntWalk.i64_in _ (by omega)
          have j6 : (0 : Int) ≤ (I : Int) + 1 := by omega
          have j7 : (I : Int) + 1 < (M : Int) := by omega
          have j8 : ((I : Int) + 1).toNat = I + 1 := by omega
          go_wp2_with fail
          go_region_held3 (fun U => U.cell? ⟨g1, k, none⟩ = some (.slice (some ⟨f1, 0, none⟩) M c1') ∧ U.cell? ⟨g2, k, none⟩ = some (.slice (some ⟨f2, 0, none⟩) M c2') ∧ U.cell? ⟨f1, I, none⟩ = some (.int .i64 (x0 : Int)) ∧ U.cell? ⟨f1, I + 1, none⟩ = some (.int .i64 (x1 : Int)) ∧ U.cell? ⟨f2, I, none⟩ = some (.int .i64 (y0 : Int)) ∧ U.cell? ⟨f2, I + 1, none⟩ = some (.int .i64 (y1 : Int))) (go_keep) (first
            | (go_at_call 59; ((with_reducible refine (HPX.out _).mono ?_); rintro e w4 ⟨rfl, u4⟩; have ua : Up wr w4 := (by first | exact ub.trans u4 | exact (Up.drew _).trans u4); have a1 := (ua.cell (World.block_lt_of_cell? wr _ q1)).trans q1; have a2 := (ua.cell (World.block_lt_of_cell? wr _ q2)).trans q2; have a3 := (ua.cell (World.block_lt_of_cell? wr _ q3)).trans q3; have a4 := (ua.cell (World.block_lt_of_cell? wr _ q4)).trans q4; have a5 := (ua.cell (World.block_lt_of_cell? wr _ q5)).trans q5; have a6 := (ua.cell (World.block_lt_of_cell? wr _ q6)).trans q6))
            | (go_at_call 59; ((with_reducible refine (HPY.out _).mono ?_); rintro e w5 ⟨rfl, u5⟩; have ub : Up wr w5 := (by first | exact ua.trans u5 | exact (Up.drew _).trans u5); have b1 := (ub.cell (World.block_lt_of_cell? wr _ q1)).trans q1; have b2 := (ub.cell (World.block_lt_of_cell? wr _ q2)).trans q2; have b3 := (ub.cell (World.block_lt_of_cell? wr _ q3)).trans q3; have b4 := (ub.cell (World.block_lt_of_cell? wr _ q4)).trans q4; have b5 := (ub.cell (World.block_lt_of_cell? wr _ q5)).trans q5; have b6 := (ub.cell (World.block_lt_of_cell? wr _ q6)).trans q6)))
          all_goals
            have HUU := Lib.hid (show Up w _ from by first | exact HU2.out.trans ((Up.drew _).trans (u4.trans u5)) | exact HU2.out.trans ((Up.drew _).trans (u5.trans u4)))
            clear a1 a2 a3 a4 a5 a6 b1 b2 b3 b4 b5 b6 q3 q4 q5 q6 q1 q2 u4 u5 ua ub
            by_cases hPP : P1 = P2
            · subst hPP
              have hPI : Hid (pc X Y = pc (X.drop (I + 2)) (Y.drop (I + 2))) := by
                show _ = _
                rw [HPI.out, if_pos rfl]
              have hne : ((bs P1).toList == (bs P1).toList) = true := by simp
              clear ht
              go_wp2_with fail
              go_roundw
              case rel => exact ⟨I + 2, by omega, by go_num, hPI.out, HUU.out⟩
              case measure => simp only [intOf]; omega
            · have hRs : Hid (R = some (P1, P2)) := by
                show _ = _
                rw [HP.out, HPI.out, if_neg hPP]
              have hne : ((bs P1).toList == (bs P2).toList) = false := by rw [ht, beq_eq_false_iff_ne]; exact hPP
              clear ht hPP
              go_wp2_with fail
              exact bodyPost_ret (v := pckV (some (P1, P2))) (by simp [results, Try.results50, go_sem, pckV]) rfl ⟨by rw [hRs.out], HUU.out⟩
        · have d1 : decide ((I : Int) + 1 < (M : Int)) = false := decide_eq_false (by omega)
          have hpe : Hid (pc X Y = none) := by
            show _ = _
            rw [hpi]
            exact pc_end X Y I (by rw [HM.out]; exact hlt)
          have hRK : Hid (R = pck LX LY k) := by
            show _ = _
            rw [HP.out, hpe.out]
          clear hpi hui
          go_wp2_with fail
          go_roundw
          case rel => exact ⟨k, by omega, by go_num, by rw [HR.out]; exact hRK.out, HU2.out⟩
          case measure => simp only [intOf]; omega

end Go.Proofs.Ytacbhjjmbepngaa
