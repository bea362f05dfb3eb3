/-
  The texts RefDeed, Shelf, Clone, Bag5, one behind the other; each says below what it holds and on what conditions.
-/
import Derived.Test.YtakbmbiebkgkiaaGreatDoorJB06
import Derived.Test.YtakbmbiebkgkiaaGreatDoorJB13
import Derived.Test.YtakbmbiebkgkiaaGreatDoorJB14
import Derived.Deep.DeepCutAuto
import Derived.Shelf.LaysM
import Derived.Shelf.Strconv.Clone
import Derived.Test.YtakbmbiebkgkiaaGreatDoorProg
import Derived.Test.YtakbmbiebkgkiaaGreatDoorJB01

/-
  What the reference's Deed returns. Conditions: a deed that a call can be handed.
-/
namespace Go.Proofs.YtakbmbiebkgkiaaGreatDoor
open Go.RowKit
open Go.Proofs
open WoolBag
open WoolVol

set_option maxRecDepth 100000 in
set_option maxHeartbeats 4000000 in
theorem refDeed_any (o : Opn) (w : World) (ho : OpWf o) : Calls Tryz.prog 6 #[opA o] w fun e w' => e = .returned (.int .i64 (chkO o)) ∧ Up w w' := by
  have HN := Lib.hid (fun W => refName_any o.nm W ho.2.1)
  have HT := Lib.hid (fun W => refName_any o.to W ho.2.2.1)
  have hsz := bs_size o.tx
  have hl := ho.2.2.2.2
  obtain ⟨R, hR⟩ : ∃ R, chkO o = R := ⟨_, rfl⟩
  rw [hR]
  rw [chk_un] at hR
  clear ho
  unfold opA at *
  obtain ⟨kd, nm, ot, pl, tx⟩ := o
  unfold unB at hR
  simp only at *
  have e1 := bs_isEmpty ot
  have e2 := bs_isEmpty tx
  have n1 : ∀ S : ByteArray, S.toList.isEmpty = true → S.toList = [] := fun S h => by simpa using h
  generalize ot.isEmpty = b1 at *
  generalize tx.isEmpty = b2 at *
  generalize nameB nm = NB at *
  generalize nameB ot = TB at *
  generalize tx.length = L at *
  generalize bs nm = N at *
  generalize bs ot = S at *
  generalize bs tx = T at *
  have HE1 := Lib.hid e1
  have HE2 := Lib.hid e2
  have HN1 := Lib.hid n1
  have HR := Lib.hid hR
  have HSZ := Lib.hid hsz
  clear e1 e2 n1 hR hsz
  have HA : Hid (RowC (w.alloc (.cells #[.int .i64 kd, .string N, .string S, .int .i64 pl, .string T] 27)) w.heap.size 27 [.int .i64 kd, .string N, .string S, .int .i64 pl, .string T]) := heap_alloc_new w _
  have HU : Hid (Up w (w.alloc (.cells #[.int .i64 kd, .string N, .string S, .int .i64 pl, .string T] 27))) := Up.alloc _ _
  go_enter Tryz.func6, Tryz.ntmps6
  go_upto_region 1 with (fail)
  generalize w.alloc (.cells #[.int .i64 kd, .string N, .string S, .int .i64 pl, .string T] 27) = W0 at HA HU ⊢
  generalize w.heap.size = B at HA ⊢
  have q0 := HA.out.cell (j := 0) rfl
  have q1 := HA.out.cell (j := 1) rfl
  have q2 := HA.out.cell (j := 2) rfl
  have q3 := HA.out.cell (j := 3) rfl
  have q4 := HA.out.cell (j := 4) rfl
  by_cases h1 : kd < 1 ∨ 5 < kd
  · have HV : Hid (R = 1) := by show _ = _; rw [← HR.out, if_pos h1]
    go_wp2_with fail
    refine (refWithin_no _ _ _ _ h1).mono ?_
    rintro e wx ⟨rfl, rfl⟩
    go_wp2_with fail
    go_ret
    exact ⟨by have h9 := HV.out; subst h9; rfl, HU.out⟩
  have HR2 := Lib.hid HR.out
  rw [if_neg h1] at HR2
  clear HR
  go_wp2_with fail
  refine (refWithin_yes _ _ _ _ (by omega) (by omega)).mono ?_
  rintro e wx ⟨rfl, rfl⟩
  go_wp2_with fail
  refine (HN.out _).mono ?_
  rintro e w1 ⟨rfl, u1⟩
  replace HA := Lib.hid (HA.out.up u1)
  replace HU := Lib.hid (HU.out.trans u1)
  clear u1
  clear q0 q1 q2 q3 q4
  cases NB with
  | false =>
    have HV : Hid (R = 3) := by show _ = _; rw [← HR2.out, if_pos (.inl rfl)]
    go_wp2_with fail
    go_ret
    exact ⟨by have h9 := HV.out; subst h9; rfl, HU.out⟩
  | true =>
    by_cases h5 : kd = 5
    · subst h5
      have q0 := HA.out.cell (j := 0) rfl
      have q2 := HA.out.cell (j := 2) rfl
      go_wp2_with fail
      refine (HT.out _).mono ?_
      rintro e w2 ⟨rfl, u1⟩
      replace HA := Lib.hid (HA.out.up u1)
      replace HU := Lib.hid (HU.out.trans u1)
      clear u1
      clear q0 q2
      cases TB with
      | false =>
        have HV : Hid (R = 3) := by show _ = _; rw [← HR2.out, if_pos (by simp)]
        go_wp2_with fail
        go_ret
        exact ⟨by have h9 := HV.out; subst h9; rfl, HU.out⟩
      | true =>
        have HR3 := Lib.hid HR2.out
        rw [if_neg (by simp)] at HR3
        clear HR2
        have q0 := HA.out.cell (j := 0) rfl
        have q2 := HA.out.cell (j := 2) rfl
        have q3 := HA.out.cell (j := 3) rfl
        have q4 := HA.out.cell (j := 4) rfl
        by_cases h6 : pl < 0 ∨ 32 < pl
        · have HV : Hid (R = 1) := by show _ = _; rw [← HR3.out, if_pos h6]
          go_wp2_with fail
          refine (refWithin_no _ _ _ _ h6).mono ?_
          rintro e wx ⟨rfl, rfl⟩
          go_wp2_with fail
          go_ret
          exact ⟨by have h9 := HV.out; subst h9; rfl, HU.out⟩
        go_wp2_with fail
        refine (refWithin_yes _ _ _ _ (by omega) (by omega)).mono ?_
        rintro e wx ⟨rfl, rfl⟩
        rw [if_neg h6] at HR3
        have hsz := HSZ.out
        by_cases h7 : 64 < L
        · have HV : Hid (R = 2) := by show _ = _; rw [← HR3.out, if_pos h7]
          have d7 : decide (64 < (L : Int)) = true := decide_eq_true (by omega)
          go_wp2_with fail
          go_ret
          exact ⟨by have h9 := HV.out; subst h9; rfl, HU.out⟩
        rw [if_neg h7] at HR3
        have d7 : decide (64 < (L : Int)) = false := decide_eq_false (by omega)
        have hR := HR3.out
        have e1 := HE1.out
        have e2 := HE2.out
        clear h7 h6 HR3 HN HT
        cases b1 <;> cases b2
        · have n1 := 0
          go_wp2_with fail
          all_goals (go_ret; refine ⟨?_, HU.out⟩; clear HU HA; subst hR; first | (simp; done) | (simp; omega) | (simp_all; done) | (simp_all; omega))
        · have f2 := HN1.out T e2
          go_wp2_with fail
          all_goals (go_ret; refine ⟨?_, HU.out⟩; clear HU HA; subst hR; first | (simp; done) | (simp; omega) | (simp_all; done) | (simp_all; omega))
        · have f1 := HN1.out S e1
          go_wp2_with fail
          all_goals (go_ret; refine ⟨?_, HU.out⟩; clear HU HA; subst hR; first | (simp; done) | (simp; omega) | (simp_all; done) | (simp_all; omega))
        · have f1 := HN1.out S e1; have f2 := HN1.out T e2
          go_wp2_with fail
          all_goals (go_ret; refine ⟨?_, HU.out⟩; clear HU HA; subst hR; first | (simp; done) | (simp; omega) | (simp_all; done) | (simp_all; omega))
    · have k5 : (kd == 5) = false := by simp [h5]
      have HR3 := Lib.hid HR2.out
      rw [if_neg (by simp [h5])] at HR3
      clear HR2
      have q0 := HA.out.cell (j := 0) rfl
      have q2 := HA.out.cell (j := 2) rfl
      have q3 := HA.out.cell (j := 3) rfl
      have q4 := HA.out.cell (j := 4) rfl
      by_cases h6 : pl < 0 ∨ 32 < pl
      · have HV : Hid (R = 1) := by show _ = _; rw [← HR3.out, if_pos h6]
        go_wp2_with fail
        refine (refWithin_no _ _ _ _ h6).mono ?_
        rintro e wx ⟨rfl, rfl⟩
        go_wp2_with fail
        go_ret
        exact ⟨by have h9 := HV.out; subst h9; rfl, HU.out⟩
      go_wp2_with fail
      refine (refWithin_yes _ _ _ _ (by omega) (by omega)).mono ?_
      rintro e wx ⟨rfl, rfl⟩
      rw [if_neg h6] at HR3
      have hsz := HSZ.out
      by_cases h7 : 64 < L
      · have HV : Hid (R = 2) := by show _ = _; rw [← HR3.out, if_pos h7]
        have d7 : decide (64 < (L : Int)) = true := decide_eq_true (by omega)
        go_wp2_with fail
        go_ret
        exact ⟨by have h9 := HV.out; subst h9; rfl, HU.out⟩
      rw [if_neg h7] at HR3
      have d7 : decide (64 < (L : Int)) = false := decide_eq_false (by omega)
      have hR := HR3.out
      have e1 := HE1.out
      have e2 := HE2.out
      clear h7 h6 HR3 HN HT
      cases b1 <;> cases b2
      · have n1 := 0
        go_wp2_with fail
        all_goals (go_ret; refine ⟨?_, HU.out⟩; clear HU HA; subst hR; first | (simp; done) | (simp; omega) | (simp_all; done) | (simp_all; omega))
      · have f2 := HN1.out T e2
        go_wp2_with fail
        all_goals (go_ret; refine ⟨?_, HU.out⟩; clear HU HA; subst hR; first | (simp; done) | (simp; omega) | (simp_all; done) | (simp_all; omega))
      · have f1 := HN1.out S e1
        go_wp2_with fail
        all_goals (go_ret; refine ⟨?_, HU.out⟩; clear HU HA; subst hR; first | (simp; done) | (simp; omega) | (simp_all; done) | (simp_all; omega))
      · have f1 := HN1.out S e1; have f2 := HN1.out T e2
        go_wp2_with fail
        all_goals (go_ret; refine ⟨?_, HU.out⟩; clear HU HA; subst hR; first | (simp; done) | (simp; omega) | (simp_all; done) | (simp_all; omega))

end Go.Proofs.YtakbmbiebkgkiaaGreatDoor

/-
  Contracts of library functions at this program, each one application of a theorem of the library: what is proved is what each says. Conditions: as each says.
-/
namespace Go.Proofs
open Go.Shelf
def Tryz.laysM316_ren : Go.Shelf.Ren := ⟨fun | 316 => 116 | n => n, fun | 9 => 9 | 3 => 3 | 4 => 4 | 37 => 70 | 0 => 0 | 127 => 119 | 5 => 5 | n => n, fun | n => n⟩
theorem Tryz.laysM316 : Go.Proofs.LaysM.n316 Tryz.prog Tryz.laysM316_ren := {
  mixed := by kernel_rfl
  f316 := Tryz.func116.trans (congrArg some (by kernel_rfl))
  t0 := Tryz.underlying0
  a0 := Tryz.isAgg0
  z0 := Tryz.sizeOf0
  v0 := Tryz.zeroValue0
  t3 := Tryz.underlying3
  a3 := Tryz.isAgg3
  z3 := Tryz.sizeOf3
  v3 := Tryz.zeroValue3
  t4 := Tryz.underlying4
  a4 := Tryz.isAgg4
  z4 := Tryz.sizeOf4
  v4 := Tryz.zeroValue4
  t9 := Tryz.underlying9
  a9 := Tryz.isAgg9
  z9 := Tryz.sizeOf9
  v9 := Tryz.zeroValue9
  t37 := Tryz.underlying70
  a37 := Tryz.isAgg70
  z37 := Tryz.sizeOf70
  v37 := Tryz.zeroValue70
  t127 := Tryz.underlying119
  a127 := Tryz.isAgg119
  z127 := Tryz.sizeOf119
  v127 := Tryz.zeroValue119
  t5 := Tryz.underlying5
  a5 := Tryz.isAgg5
  z5 := Tryz.sizeOf5
  v5 := Tryz.zeroValue5
  i0 := by kernel_rfl
  i3 := by kernel_rfl
  i4 := by kernel_rfl
  i5 := by kernel_rfl
  i9 := by kernel_rfl
  i37 := by kernel_rfl
  i127 := by kernel_rfl }
open Go.RowKit in
theorem Tryz.stringslite_Clone (s : ByteArray) (w : World) (hlim : s.size ≤ 281474976710656) :
    Calls Tryz.prog 116 #[.string s] w fun e w' => e = .returned (.string s) ∧ Below w.heap.size w w' := Any.stringslite_Clone Tryz.laysM316 s w hlim
end Go.Proofs

/-
  What strings.Clone returns: the text. Condition: at most 1000 bytes.
-/
namespace Go.Proofs.YtakbmbiebkgkiaaGreatDoor
open Go.RowKit
open Go.Proofs

theorem clone_str (s : ByteArray) (w : World) (hlim : s.size ≤ 1000) :
    Calls Tryz.prog 77 #[.string s] w fun e w' => e = .returned (.string s) ∧ Up w w' := by
  go_enter Tryz.func77, Tryz.ntmps77
  go_wp2_with fail
  refine (Tryz.stringslite_Clone s _ (by omega)).mono ?_
  rintro e w1 ⟨rfl, u1⟩
  have HU : Up w w1 := u1
  clear u1
  go_wp2_with fail
  go_ret
  exact ⟨rfl, HU⟩

end Go.Proofs.YtakbmbiebkgkiaaGreatDoor

/-
  What find and Get of package bag return. Condition: the row can be read.
-/
namespace Go.Proofs.YtakbmbiebkgkiaaGreatDoor
open Go.RowKit
open Go.Proofs
open WoolBag

/-- what find answers, as the two results -/
def findR (l : List Itm) (i : Bool × Int × Int) : Value := .tuple #[.int .i64 ((find FP l i).1 : Int), .int .i64 (find FP l i).2]

set_option maxRecDepth 100000 in
set_option maxHeartbeats 1000000 in
theorem find_any (v : Value) (l : List Itm) (i : Bool × Int × Int) (w : World) (h : Items w v l) :
    Calls Tryz.prog 122 #[v, idV i] w fun e w' => e = .returned (findR l i) ∧ Up w w' := by
  obtain ⟨R, hR⟩ : ∃ R, findR l i = R := ⟨_, rfl⟩
  rw [hR]
  have HR := Lib.hid hR
  have HX := Lib.hid h
  have HC := Lib.hid (fun W (hW : Up w W) => check_any v l W (h.up hW))
  obtain ⟨o, c, rfl, h3⟩ := h.slice
  unfold maxLen at h3
  obtain ⟨C, hC⟩ : ∃ C, chk FP l = C := ⟨_, rfl⟩
  have HCC := Lib.hid hC
  have HM := Lib.hid (hasId_make i)
  have hix := fun W (hW : Up w W) => indexF (.slice o l.length c) l W 161
  unfold idV at HM ⊢
  obtain ⟨ib, is, iN⟩ := i
  simp only at HM ⊢
  clear hR hC h hix
  go_enter Tryz.func122, Tryz.ntmps122
  go_wp2_with fail
  refine (HC.out _ (Up.alloc _ _)).mono ?_
  rintro e w1 ⟨rfl, u1⟩
  rw [HCC.out]
  have HU1 : Hid (Up w w1) := Up.after _ _ _ u1
  have hbx := BoxI.up (BoxI.new w 63 (.bool ib) (.int .i64 is) (.int .i64 iN)) u1
  obtain ⟨c0, c1, c2⟩ := hbx.cells
  clear hbx u1
  by_cases h0 : C = 0
  · subst h0
    go_wp2_with fail
    refine (HM.out _).mono ?_
    rintro e w2 ⟨lb, rfl, u2, hp⟩
    have hcall := indexF (.slice o l.length c) l w2 161 lb _ eg_id (HX.out.up (HU1.out.trans u2)) hp
    have HCALL := Lib.hid hcall
    clear hcall hp
    go_wp2_with fail
    refine HCALL.out.mono ?_
    rintro e w3 ⟨rfl, u3⟩
    unfold ixI
    cases hi : idx (idB (ib, is, iN)) l with
    | some k =>
      have HRR : Hid (R = .tuple #[.int .i64 (k : Int), .int .i64 0]) := by
        show _ = _
        rw [← HR.out]; unfold findR find
        rw [if_neg (by simp [HCC.out]), hi]
      clear hi
      simp only
      go_wp2_with fail
      go_ret2
      exact ⟨by rw [HRR.out]; rfl, (HU1.out.trans u2).trans u3⟩
    | none =>
      have HRR : Hid (R = .tuple #[.int .i64 0, .int .i64 4]) := by
        show _ = _
        rw [← HR.out]; unfold findR find
        rw [if_neg (by simp [HCC.out]), hi]
        rfl
      clear hi
      simp only
      go_wp2_with fail
      go_ret2
      exact ⟨by rw [HRR.out]; rfl, (HU1.out.trans u2).trans u3⟩
  · have hne : (C != 0) = true := by rw [bne_iff_ne]; exact h0
    have HRR : Hid (R = .tuple #[.int .i64 0, .int .i64 C]) := by
      show _ = _
      rw [← HR.out]; unfold findR find
      rw [if_pos (by rw [HCC.out]; exact h0), HCC.out]
      rfl
    clear h0
    go_wp2_with fail
    go_ret2
    exact ⟨by rw [HRR.out]; rfl, HU1.out⟩

theorem find_lt {l : List Itm} {i : Bool × Int × Int} (h : (find FP l i).2 = 0) : (find FP l i).1 < l.length ∧ Bag FP l ∧ idB i l[(find FP l i).1]! = true := by
  unfold find at h ⊢
  by_cases hc : chk FP l ≠ 0
  · rw [if_pos hc] at h; exact absurd h hc
  · rw [if_neg hc] at h ⊢
    cases hi : idx (idB i) l with
    | none => rw [hi] at h; cases h
    | some k =>
      obtain ⟨h1, h2, _⟩ := idx_some hi
      simp only
      refine ⟨h1, (chk_zero _).1 (by simpa using hc), ?_⟩
      rw [getElem!_pos l k h1]; exact h2

/-- what Get answers, as the two results -/
def getBR (l : List Itm) (i : Bool × Int × Int) : Value := .tuple #[.string (bs (WoolBag.get FP l i).1), .int .i64 (WoolBag.get FP l i).2]

end Go.Proofs.YtakbmbiebkgkiaaGreatDoor
