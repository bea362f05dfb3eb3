/-
  The law SegSays: Check and Put of package seg answer what the document says. Condition: the arguments can be read.
-/
import Derived.Test.YtomfbffaekpnlaaSegG
import Derived.Test.YtomfbffaekpnlaaRSeg1
import Derived.Test.YtomfbffaekpnlaaRSeg2
import Derived.Test.YtomfbffaekpnlaaRSeg5
import Derived.Deep.QuietTactic
import Derived.BigQuiet
namespace Go.Proofs.Ytomfbffaekpnlaa
open Go.RowKit
open Go.Proofs
open WoolBag
open WoolSeg

/-- a new row of one segment -/
theorem sgs_new1 {w : World} {u : Value} {s : List Rc} (h : Recs w u s) : Sgs (w.alloc (.cells #[u] 31)) (.slice (some ⟨w.heap.size, 0, none⟩) 1 1) [s] := by
  have hr : RowC (w.alloc (.cells #[u] 31)) w.heap.size 31 [u] := heap_alloc_new w _
  have ho : (w.alloc (.cells #[u] 31)).ownsRow w.heap.size 31 1 (.slice (some ⟨w.heap.size, 0, none⟩) 1 1) 1 [u] := own_mk (m := 1) (n := 1) (cap := 1) (L := [u]) (sp := []) (Nat.le_refl w.heap.size) (by rw [List.append_nil]; exact hr) rfl (Nat.le_refl _) (by unfold maxLen; omega) (by simp)
  refine ⟨[u], Sl.of_own ho, ⟨rfl, fun k hk => ?_⟩⟩
  have hk0 : k = 0 := by simp at hk; omega
  subst hk0
  exact h.up (Up.alloc _ _)

theorem recs_none (w : World) : Recs w (.slice none 0 0) [] := (ORecs.nil w 0).recs

theorem chk_one (r : Rc) : chk [[r]] = errR r := by
  unfold WoolSeg.chk
  rw [if_neg (by simp)]
  unfold errSs errSs
  by_cases h : errR r = 0
  · have hs : Seg [r] := (Right.one h).seg _ (List.mem_singleton.2 rfl)
    rw [errS_zero.2 hs, if_neg (by simp), h]
  · have e : errS [r] = errR r := by
      unfold errS
      rw [if_neg (by simp)]
      have e2 : errRs [r] = errR r := by unfold errRs; rw [if_pos h]
      rw [e2, if_pos h]
    rw [e, if_pos h]

set_option maxRecDepth 100000 in
set_option maxHeartbeats 8000000 in
theorem segSays_walk (a0 : Option Addr) (len0 cap0 : Nat) (z0 : List (List Rc)) (a1 : Rc) (w : World) (w0 : Sgs w (.slice a0 len0 cap0) z0) (x0 : ∀ s ∈ z0, s.length ≤ 1000000000000000) (w1 : WfR a1) :
    Calls Try.prog 3 #[.slice a0 len0 cap0, rcA a1] w fun e w' => e = .returned (.bool true) ∧ Up w w' := by
  have HPUT := Lib.hid (fun W (hW : Up w W) => putS_any _ z0 a1 W (w0.up hW) x0)
  have HSG := Lib.hid (fun W (hW : Up w W) => refSegs_any _ z0 W (w0.up hW) x0)
  have HCK := Lib.hid (fun W (hW : Up w W) => checkSg_any _ z0 W (w0.up hW) x0)
  have HCN : Hid (∀ W : World, Calls Try.prog 7 #[.slice (some ⟨W.heap.size, 0, none⟩) 1 1] (W.alloc (.cells #[.slice none 0 0] 31)) fun e w' => e = .returned (.int .i64 3) ∧ Up (W.alloc (.cells #[.slice none 0 0] 31)) w') := fun W => by
    have h := checkSg_any _ [[]] _ (sgs_new1 (recs_none W)) (by simp)
    rw [show chk [[]] = 3 from rfl] at h
    exact h
  have HSR : Hid (∀ (W : World) (b1 b2 : Nat), b1 = W.heap.size → b2 = W.heap.size + 1 → Calls Try.prog 6 #[.slice (some ⟨b2, 0, none⟩) 1 1] ((W.alloc (.cells (rcC a1).toArray 26)).alloc (.cells #[.slice (some ⟨b1, 0, none⟩) 1 1] 31)) fun e w' => e = .returned (.int .i64 (errR a1)) ∧ Up ((W.alloc (.cells (rcC a1).toArray 26)).alloc (.cells #[.slice (some ⟨b1, 0, none⟩) 1 1] 31)) w') := fun W b1 b2 e1 e2 => by
    subst e1
    have h := refSegs_any _ [[a1]] _ (sgs_new1 (recs_new W a1).recs) (by simp)
    rw [chk_one] at h
    have e3 : (W.alloc (.cells (rcC a1).toArray 26)).heap.size = b2 := by rw [e2]; simp
    rw [e3] at h
    exact h
  have HST : Hid (chk z0 = 0 → errR a1 = 0 → ∀ W, Up w W → Calls Try.prog 8 #[.slice a0 len0 cap0, .slice (some ⟨W.heap.size, 0, none⟩) 1 1] (W.alloc (.cells (rcC a1).toArray 26)) (SnPost (W.alloc (.cells (rcC a1).toArray 26)) (put1 z0 a1))) := fun h1 h2 W hW =>
    refStand_any _ _ z0 [a1] _ ((w0.up hW).up (Up.alloc _ _)) (recs_new W a1).recs (chk_zero.1 h1).seg (by intro r hr; rw [List.mem_singleton] at hr; subst hr; exact h2) (chk_zero.1 h1).len (by simp)
  have hPL : chk z0 = 0 → (put1 z0 a1).length ≤ 17 := fun h => by
    have h1 := (chk_zero.1 h).len
    have := (put1_length z0 a1).2
    omega
  obtain ⟨⟨A, E⟩, hR⟩ : ∃ R, WoolSeg.put z0 a1 = R := ⟨_, rfl⟩
  rw [hR] at HPUT
  unfold WoolSeg.put at hR
  have hrC : rcC a1 = [.bool a1.1.1, .int .i64 a1.1.2.1, .int .i64 a1.1.2.2, .string (bs a1.2)] := rfl
  have hA : rcA a1 = .agg #[.bool a1.1.1, .int .i64 a1.1.2.1, .int .i64 a1.1.2.2, .string (bs a1.2)] := rfl
  rw [hrC] at HSR HST
  rw [hA] at HPUT ⊢
  obtain ⟨K, hK⟩ : ∃ K, chk z0 = K := ⟨_, rfl⟩
  obtain ⟨M, hM⟩ : ∃ M, errR a1 = M := ⟨_, rfl⟩
  obtain ⟨p, hp⟩ : ∃ p, put1 z0 a1 = p := ⟨_, rfl⟩
  rw [hK] at hR HSG HCK HST hPL
  rw [hM] at hR HSR HST
  rw [hp] at hR HST hPL
  have HRR := Lib.hid hR
  have HPL := Lib.hid hPL
  clear w0 x0 w1 hrC hA hK hM hp hR hPL
  generalize a1.1.1 = y0 at *
  generalize a1.1.2.1 = y1 at *
  generalize a1.1.2.2 = y2 at *
  generalize bs a1.2 = y3 at *
  go_enter Try.func3, Try.ntmps3
  go_wp2_with fail
  refine (HPUT.out _ (Up.alloc _ _)).mono ?_
  rintro e w1 ⟨v1, rfl, ho1, u1⟩
  have HU1 : Hid (Up w w1) := (Up.alloc _ _).trans u1
  have HROW : Hid (RowC w1 w.heap.size 26 [.bool y0, .int .i64 y1, .int .i64 y2, .string y3]) := RowC.up (heap_alloc_new w _) u1
  have HS1 := Lib.hid ho1.sgs
  obtain ⟨o1, c1, hv1, _, _⟩ := ho1.sgs.slice
  obtain ⟨nA, hnA⟩ : ∃ n, A.length = n := ⟨_, rfl⟩
  have HNA := Lib.hid hnA
  rw [show (A, E).1.length = nA from hnA] at hv1
  subst hv1
  obtain ⟨P, hP⟩ : ∃ P, w.heap.size = P := ⟨_, rfl⟩
  rw [hP] at HROW ⊢
  clear ho1 u1 hnA hP HPUT
  go_wp2_with fail
  refine (HSG.out _ HU1.out).mono ?_
  rintro e w2 ⟨rfl, u2⟩
  have HU2 := Lib.hid (HU1.out.trans u2)
  have HR2 := Lib.hid (HROW.out.up u2)
  have HS2 := Lib.hid (HS1.out.up u2)
  clear u2 HU1 HROW HS1
  go_wp2_with fail
  refine (HCK.out _ HU2.out).mono ?_
  rintro e w3 ⟨rfl, u3⟩
  have HU3 := Lib.hid (HU2.out.trans u3)
  have HR3 := Lib.hid (HR2.out.up u3)
  have HS3 := Lib.hid (HS2.out.up u3)
  have hkk : (K != K) = false := by simp
  clear u3 HU2 HR2 HS2
  go_wp2_with fail
  refine (HCN.out _).mono ?_
  rintro e w4 ⟨rfl, u4⟩
  have hv4 := (Up.alloc w3 (.cells #[.slice none 0 0] 31)).trans u4
  have HU4 := Lib.hid (HU3.out.trans hv4)
  have HR4 := Lib.hid (HR3.out.up hv4)
  have HS4 := Lib.hid (HS3.out.up hv4)
  have hrr := HRR.out
  clear u4 hv4 HU3 HR3 HS3 hkk
  by_cases hk : K = 0
  · subst hk
    rw [if_neg (by simp)] at hrr
    have r0 := HR4.out.cell (j := 0) rfl
    have r1 := HR4.out.cell (j := 1) rfl
    have r2 := HR4.out.cell (j := 2) rfl
    have r3 := HR4.out.cell (j := 3) rfl
    have HV := Lib.hid hrr
    have HST1 := Lib.hid (HST.out rfl)
    clear HST
    have hp17 := HPL.out rfl
    have HP17 := Lib.hid hp17
    clear hrr hp17
    go_wp2_with fail
    refine (HSR.out _ _ _ rfl (by simp)).mono ?_
    rintro e w5 ⟨rfl, u5⟩
    have hv5 : Up w4 w5 := ((Up.alloc _ _).trans (Up.alloc _ _)).trans u5
    have HU5 := Lib.hid (HU4.out.trans hv5)
    have HR5 := Lib.hid (HR4.out.up hv5)
    have HS5 := Lib.hid (HS4.out.up hv5)
    have hrr := HV.out
    clear u5 hv5 HU4 HR4 HS4 r0 r1 r2 r3
    by_cases hm : M = 0
    · subst hm
      rw [if_neg (by simp)] at hrr
      have r0 := HR5.out.cell (j := 0) rfl
      have r1 := HR5.out.cell (j := 1) rfl
      have r2 := HR5.out.cell (j := 2) rfl
      have r3 := HR5.out.cell (j := 3) rfl
      have HV2 := Lib.hid hrr
      have HST2 := Lib.hid (HST1.out rfl)
      clear HST1
      clear hrr
      go_wp2_with fail
      refine (HST2.out _ HU5.out).mono ?_
      rintro e w6 ⟨v6, rfl, hs6, u6⟩
      have hv6 : Up w5 w6 := (Up.alloc _ _).trans u6
      have HU6 := Lib.hid (HU5.out.trans hv6)
      have HS6 := Lib.hid (HS5.out.up hv6)
      have HT6 := Lib.hid hs6
      obtain ⟨o6, c6, hv, _, _⟩ := hs6.slice
      have hp17 := HP17.out
      have hrr := HV2.out
      obtain ⟨np, hnp⟩ : ∃ n, p.length = n := ⟨_, rfl⟩
      rw [hnp] at hv hp17 hrr
      subst hv
      clear hs6 u6 hv6 HU5 HR5 HS5 r0 r1 r2 r3
      by_cases h16 : 16 < np
      · rw [if_pos h16] at hrr
        have d1 : decide (16 < np) = true := decide_eq_true h16
        obtain ⟨rfl, rfl⟩ := Prod.mk.inj hrr
        have hn0 : nA = 0 := HNA.out.symm
        subst hn0
        clear hrr hnp
        go_wp2_with fail
        go_ret
        exact ⟨rfl, HU6.out⟩
      · rw [if_neg h16] at hrr
        have d1 : decide (16 < np) = false := decide_eq_false h16
        obtain ⟨rfl, rfl⟩ := Prod.mk.inj hrr
        have HSM := Lib.hid (fun W (hW : Up w6 W) => sameSegs_yes _ _ p W (HS6.out.up hW) (HT6.out.up hW))
        clear hrr hnp
        go_wp2_with fail
        refine (HSM.out _ (Up.refl _)).mono ?_
        rintro e w7 ⟨rfl, u7⟩
        have HU7 := Lib.hid (HU6.out.trans u7)
        clear u7
        go_wp2_with fail
        go_ret
        exact ⟨rfl, HU7.out⟩
    · rw [if_pos hm] at hrr
      obtain ⟨rfl, rfl⟩ := Prod.mk.inj hrr
      have hn0 : nA = 0 := HNA.out.symm
      subst hn0
      have d1 : (M != 0) = true := bne_iff_ne.2 hm
      have d2 : (M == M) = true := by simp
      clear hrr hm
      go_wp2_with fail
      go_ret
      exact ⟨rfl, HU5.out⟩
  · rw [if_pos hk] at hrr
    obtain ⟨rfl, rfl⟩ := Prod.mk.inj hrr
    have hn0 : nA = 0 := HNA.out.symm
    subst hn0
    have d0 : (K == 0) = false := by simpa using hk
    have d1 : (K != 0) = true := bne_iff_ne.2 hk
    have d2 : (K == K) = true := by simp
    clear hrr hk
    go_wp2_with fail
    go_ret
    exact ⟨rfl, HU4.out⟩

end Go.Proofs.Ytomfbffaekpnlaa
