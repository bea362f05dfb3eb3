/-
  What the reference's Deed returns. Conditions: a deed that a call can be handed.
-/
import Derived.Test.YtbeigaanlhaolaaDoorLogK
import Derived.Test.YtbeigaanlhaolaaDoorRefVol1
import Derived.Test.YtbeigaanlhaolaaDoorRefW
import Derived.Deep.DeepCutAuto
namespace Go.Proofs.YtbeigaanlhaolaaDoor
open Go.RowKit
open Go.Proofs
open WoolBag
open WoolVol

set_option maxRecDepth 100000 in
set_option maxHeartbeats 4000000 in
theorem refDeed_any (o : Opn) (w : World) (ho : OpWf o) : Calls Tryd.prog 5 #[opA o] w fun e w' => e = .returned (.int .i64 (chkO o)) ∧ Up w w' := by
  have HN := Lib.hid (fun W => refName_any o.nm W ho.2.1)
  have HT := Lib.hid (fun W => refName_any o.to W ho.2.2.1)
  have hsz := bs_size o.tx
  have hl := ho.2.2.2.2
  obtain ⟨R, hR⟩ : ∃ R, chkO o = R := ⟨_, rfl⟩
  rw [hR]
  rw [chk_un] at hR
  clear ho
  unfold opA at *
  obtain ⟨kd, nm, ot, pl, tx⟩ := o
  unfold unB at hR
  simp only at *
  have e1 := bs_isEmpty ot
  have e2 := bs_isEmpty tx
  have n1 : ∀ S : ByteArray, S.toList.isEmpty = true → S.toList = [] := fun S h => by simpa using h
  generalize ot.isEmpty = b1 at *
  generalize tx.isEmpty = b2 at *
  generalize nameB nm = NB at *
  generalize nameB ot = TB at *
  generalize tx.length = L at *
  generalize bs nm = N at *
  generalize bs ot = S at *
  generalize bs tx = T at *
  have HE1 := Lib.hid e1
  have HE2 := Lib.hid e2
  have HN1 := Lib.hid n1
  have HR := Lib.hid hR
  have HSZ := Lib.hid hsz
  clear e1 e2 n1 hR hsz
  have HA : Hid (RowC (w.alloc (.cells #[.int .i64 kd, .string N, .string S, .int .i64 pl, .string T] 23)) w.heap.size 23 [.int .i64 kd, .string N, .string S, .int .i64 pl, .string T]) := heap_alloc_new w _
  have HU : Hid (Up w (w.alloc (.cells #[.int .i64 kd, .string N, .string S, .int .i64 pl, .string T] 23))) := Up.alloc _ _
  go_enter Tryd.func5, Tryd.ntmps5
  go_upto_region 1 with (fail)
  generalize w.alloc (.cells #[.int .i64 kd, .string N, .string S, .int .i64 pl, .string T] 23) = W0 at HA HU ⊢
  generalize w.heap.size = B at HA ⊢
  have q0 := HA.out.cell (j := 0) rfl
  have q1 := HA.out.cell (j := 1) rfl
  have q2 := HA.out.cell (j := 2) rfl
  have q3 := HA.out.cell (j := 3) rfl
  have q4 := HA.out.cell (j := 4) rfl
  by_cases h1 : kd < 1 ∨ 5 < kd
  · have HV : Hid (R = 1) := by show _ = _; rw [← HR.out, if_pos h1]
    go_wp2_with fail
    refine (refWithin_no _ _ _ _ h1).mono ?_
    rintro e wx ⟨rfl, rfl⟩
    go_wp2_with fail
    go_ret
    exact ⟨by have h9 := HV.out; subst h9; rfl, HU.out⟩
  have HR2 := Lib.hid HR.out
  rw [if_neg h1] at HR2
  clear HR
  go_wp2_with fail
  refine (refWithin_yes _ _ _ _ (by omega) (by omega)).mono ?_
  rintro e wx ⟨rfl, rfl⟩
  go_wp2_with fail
  refine (HN.out _).mono ?_
  rintro e w1 ⟨rfl, u1⟩
  replace HA := Lib.hid (HA.out.up u1)
  replace HU := Lib.hid (HU.out.trans u1)
  clear u1
  clear q0 q1 q2 q3 q4
  cases NB with
  | false =>
    have HV : Hid (R = 3) := by show _ = _; rw [← HR2.out, if_pos (.inl rfl)]
    go_wp2_with fail
    go_ret
    exact ⟨by have h9 := HV.out; subst h9; rfl, HU.out⟩
  | true =>
    by_cases h5 : kd = 5
    · subst h5
      have q0 := HA.out.cell (j := 0) rfl
      have q2 := HA.out.cell (j := 2) rfl
      go_wp2_with fail
      refine (HT.out _).mono ?_
      rintro e w2 ⟨rfl, u1⟩
      replace HA := Lib.hid (HA.out.up u1)
      replace HU := Lib.hid (HU.out.trans u1)
      clear u1
      clear q0 q2
      cases TB with
      | false =>
        have HV : Hid (R = 3) := by show _ = _; rw [← HR2.out, if_pos (by simp)]
        go_wp2_with fail
        go_ret
        exact ⟨by have h9 := HV.out; subst h9; rfl, HU.out⟩
      | true =>
        have HR3 := Lib.hid HR2.out
        rw [if_neg (by simp)] at HR3
        clear HR2
        have q0 := HA.out.cell (j := 0) rfl
        have q2 := HA.out.cell (j := 2) rfl
        have q3 := HA.out.cell (j := 3) rfl
        have q4 := HA.out.cell (j := 4) rfl
        by_cases h6 : pl < 0 ∨ 32 < pl
        · have HV : Hid (R = 1) := by show _ = _; rw [← HR3.out, if_pos h6]
          go_wp2_with fail
          refine (refWithin_no _ _ _ _ h6).mono ?_
          rintro e wx ⟨rfl, rfl⟩
          go_wp2_with fail
          go_ret
          exact ⟨by have h9 := HV.out; subst h9; rfl, HU.out⟩
        go_wp2_with fail
        refine (refWithin_yes _ _ _ _ (by omega) (by omega)).mono ?_
        rintro e wx ⟨rfl, rfl⟩
        rw [if_neg h6] at HR3
        have hsz := HSZ.out
        by_cases h7 : 64 < L
        · have HV : Hid (R = 2) := by show _ = _; rw [← HR3.out, if_pos h7]
          have d7 : decide (64 < (L : Int)) = true := decide_eq_true (by omega)
          go_wp2_with fail
          go_ret
          exact ⟨by have h9 := HV.out; subst h9; rfl, HU.out⟩
        rw [if_neg h7] at HR3
        have d7 : decide (64 < (L : Int)) = false := decide_eq_false (by omega)
        have hR := HR3.out
        have e1 := HE1.out
        have e2 := HE2.out
        clear h7 h6 HR3 HN HT
        cases b1 <;> cases b2
        · have n1 := 0
          go_wp2_with fail
          all_goals (go_ret; refine ⟨?_, HU.out⟩; clear HU HA; subst hR; first | (simp; done) | (simp; omega) | (simp_all; done) | (simp_all; omega))
        · have f2 := HN1.out T e2
          go_wp2_with fail
          all_goals (go_ret; refine ⟨?_, HU.out⟩; clear HU HA; subst hR; first | (simp; done) | (simp; omega) | (simp_all; done) | (simp_all; omega))
        · have f1 := HN1.out S e1
          go_wp2_with fail
          all_goals (go_ret; refine ⟨?_, HU.out⟩; clear HU HA; subst hR; first | (simp; done) | (simp; omega) | (simp_all; done) | (simp_all; omega))
        · have f1 := HN1.out S e1; have f2 := HN1.out T e2
          go_wp2_with fail
          all_goals (go_ret; refine ⟨?_, HU.out⟩; clear HU HA; subst hR; first | (simp; done) | (simp; omega) | (simp_all; done) | (simp_all; omega))
    · have k5 : (kd == 5) = false := by simp [h5]
      have HR3 := Lib.hid HR2.out
      rw [if_neg (by simp [h5])] at HR3
      clear HR2
      have q0 := HA.out.cell (j := 0) rfl
      have q2 := HA.out.cell (j := 2) rfl
      have q3 := HA.out.cell (j := 3) rfl
      have q4 := HA.out.cell (j := 4) rfl
      by_cases h6 : pl < 0 ∨ 32 < pl
      · have HV : Hid (R = 1) := by show _ = _; rw [← HR3.out, if_pos h6]
        go_wp2_with fail
        refine (refWithin_no _ _ _ _ h6).mono ?_
        rintro e wx ⟨rfl, rfl⟩
        go_wp2_with fail
        go_ret
        exact ⟨by have h9 := HV.out; subst h9; rfl, HU.out⟩
      go_wp2_with fail
      refine (refWithin_yes _ _ _ _ (by omega) (by omega)).mono ?_
      rintro e wx ⟨rfl, rfl⟩
      rw [if_neg h6] at HR3
      have hsz := HSZ.out
      by_cases h7 : 64 < L
      · have HV : Hid (R = 2) := by show _ = _; rw [← HR3.out, if_pos h7]
        have d7 : decide (64 < (L : Int)) = true := decide_eq_true (by omega)
        go_wp2_with fail
        go_ret
        exact ⟨by have h9 := HV.out; subst h9; rfl, HU.out⟩
      rw [if_neg h7] at HR3
      have d7 : decide (64 < (L : Int)) = false := decide_eq_false (by omega)
      have hR := HR3.out
      have e1 := HE1.out
      have e2 := HE2.out
      clear h7 h6 HR3 HN HT
      cases b1 <;> cases b2
      · have n1 := 0
        go_wp2_with fail
        all_goals (go_ret; refine ⟨?_, HU.out⟩; clear HU HA; subst hR; first | (simp; done) | (simp; omega) | (simp_all; done) | (simp_all; omega))
      · have f2 := HN1.out T e2
        go_wp2_with fail
        all_goals (go_ret; refine ⟨?_, HU.out⟩; clear HU HA; subst hR; first | (simp; done) | (simp; omega) | (simp_all; done) | (simp_all; omega))
      · have f1 := HN1.out S e1
        go_wp2_with fail
        all_goals (go_ret; refine ⟨?_, HU.out⟩; clear HU HA; subst hR; first | (simp; done) | (simp; omega) | (simp_all; done) | (simp_all; omega))
      · have f1 := HN1.out S e1; have f2 := HN1.out T e2
        go_wp2_with fail
        all_goals (go_ret; refine ⟨?_, HU.out⟩; clear HU HA; subst hR; first | (simp; done) | (simp; omega) | (simp_all; done) | (simp_all; omega))

end Go.Proofs.YtbeigaanlhaolaaDoor
