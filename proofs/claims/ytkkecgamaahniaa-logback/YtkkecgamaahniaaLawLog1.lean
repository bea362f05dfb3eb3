/-
  The law LogBack: a deed is read as it was written; two have one body just if they are the same. Conditions: deeds that a call can be handed.
-/
import Derived.Test.YtkkecgamaahniaaLogB
namespace Go.Proofs.Ytkkecgamaahniaa
open Go.RowKit
open Go.Proofs
open WoolVol

theorem enc_one : chkO ⟨1, [97], [], 2, []⟩ = 0 ∧ encO ⟨1, [97], [], 2, []⟩ = [1, 2, 1, 97, 0, 0] := by decide

set_option maxRecDepth 100000 in
set_option maxHeartbeats 4000000 in
theorem logBack_walk (a0 a1 : Opn) (w : World) (w0 : OpWf a0) (w1 : OpWf a1) :
    Calls Try.prog 3 #[opA a0, opA a1] w fun e w' => e = .returned (.bool true) ∧ Up w w' := by
  have HE1 := Lib.hid (fun W => encode_any ⟨1, [97], [], 2, []⟩ W ⟨by decide, by simp, by simp, by decide, by simp⟩)
  have HEA := Lib.hid (fun W => encode_any a0 W w0)
  have HEB := Lib.hid (fun W => encode_any a1 W w1)
  have HDA := Lib.hid (fun W (h : (encO a0).length ≤ 281474976710656) => decode_any (encO a0) W h)
  have HLN := Lib.hid (fun h => encO_len (o := a0) h)
  have HDE := Lib.hid (fun h => dec_enc (o := a0) h)
  have HIJ := Lib.hid (fun h h' => enc_inj (o := a0) (p := a1) h h')
  unfold encR at HE1 HEA HEB
  unfold decR at HDA
  rw [enc_one.1, enc_one.2, if_pos rfl] at HE1
  have hb6 : bs [1, 2, 1, 97, 0, 0] = ⟨#[1, 2, 1, 97, 0, 0]⟩ := rfl
  rw [hb6] at HE1
  clear hb6 w0 w1
  obtain ⟨C0, hC0⟩ : ∃ C, chkO a0 = C := ⟨_, rfl⟩
  obtain ⟨C1, hC1⟩ : ∃ C, chkO a1 = C := ⟨_, rfl⟩
  rw [hC0] at HLN HDE HIJ HEA
  rw [hC1] at HIJ HEB
  clear hC0 hC1
  obtain ⟨SA, hSA⟩ : ∃ S, bs (if C0 = 0 then encO a0 else []) = S := ⟨_, rfl⟩
  obtain ⟨SB, hSB⟩ : ∃ S, bs (if C1 = 0 then encO a1 else []) = S := ⟨_, rfl⟩
  rw [hSA] at HEA
  rw [hSB] at HEB
  have HSA := Lib.hid hSA
  have HSB := Lib.hid hSB
  clear hSA hSB
  obtain ⟨k0, n0, t0, p0, x0⟩ := a0
  obtain ⟨k1, n1, t1, p1, x1⟩ := a1
  unfold opA at *
  simp only at *
  have HA : Hid (RowC ((w.alloc (.cells #[.int .i64 k0, .string (bs n0), .string (bs t0), .int .i64 p0, .string (bs x0)] 23)).alloc (.cells #[.int .i64 k1, .string (bs n1), .string (bs t1), .int .i64 p1, .string (bs x1)] 23)) w.heap.size 23 [.int .i64 k0, .string (bs n0), .string (bs t0), .int .i64 p0, .string (bs x0)]) := RowC.up (heap_alloc_new w _) (Up.alloc _ _)
  have HB : Hid (RowC ((w.alloc (.cells #[.int .i64 k0, .string (bs n0), .string (bs t0), .int .i64 p0, .string (bs x0)] 23)).alloc (.cells #[.int .i64 k1, .string (bs n1), .string (bs t1), .int .i64 p1, .string (bs x1)] 23)) (w.heap.size + 1) 23 [.int .i64 k1, .string (bs n1), .string (bs t1), .int .i64 p1, .string (bs x1)]) := by
    have h9 : (w.alloc (.cells #[.int .i64 k0, .string (bs n0), .string (bs t0), .int .i64 p0, .string (bs x0)] 23)).heap.size = w.heap.size + 1 := by simp
    rw [← h9]
    exact heap_alloc_new _ _
  have HU : Hid (Up w ((w.alloc (.cells #[.int .i64 k0, .string (bs n0), .string (bs t0), .int .i64 p0, .string (bs x0)] 23)).alloc (.cells #[.int .i64 k1, .string (bs n1), .string (bs t1), .int .i64 p1, .string (bs x1)] 23))) := (Up.alloc _ _).trans (Up.alloc _ _)
  go_enter Try.func3, Try.ntmps3
  go_upto_region 1 with (fail)
  generalize (w.alloc (.cells #[.int .i64 k0, .string (bs n0), .string (bs t0), .int .i64 p0, .string (bs x0)] 23)).alloc (.cells #[.int .i64 k1, .string (bs n1), .string (bs t1), .int .i64 p1, .string (bs x1)] 23) = W0 at HA HB HU ⊢
  generalize w.heap.size + 1 = Y at HB ⊢
  generalize w.heap.size = X at HA ⊢
  go_wp2_with fail
  refine (HE1.out _).mono ?_
  rintro e w2 ⟨rfl, u⟩
  replace HA := Lib.hid (HA.out.up u)
  replace HB := Lib.hid (HB.out.up u)
  replace HU := Lib.hid (HU.out.trans u)
  clear u HE1
  have q0 := HA.out.cell (j := 0) rfl
  have q1 := HA.out.cell (j := 1) rfl
  have q2 := HA.out.cell (j := 2) rfl
  have q3 := HA.out.cell (j := 3) rfl
  have q4 := HA.out.cell (j := 4) rfl
  go_wp2_with fail
  refine (HEA.out _).mono ?_
  rintro e w3 ⟨rfl, u⟩
  replace HA := Lib.hid (HA.out.up u)
  replace HB := Lib.hid (HB.out.up u)
  replace HU := Lib.hid (HU.out.trans u)
  clear u HEA q0 q1 q2 q3 q4
  have q0 := HB.out.cell (j := 0) rfl
  have q1 := HB.out.cell (j := 1) rfl
  have q2 := HB.out.cell (j := 2) rfl
  have q3 := HB.out.cell (j := 3) rfl
  have q4 := HB.out.cell (j := 4) rfl
  go_wp2_with fail
  refine (HEB.out _).mono ?_
  rintro e w4 ⟨rfl, u⟩
  replace HA := Lib.hid (HA.out.up u)
  replace HB := Lib.hid (HB.out.up u)
  replace HU := Lib.hid (HU.out.trans u)
  clear u HEB q0 q1 q2 q3 q4
  by_cases hc0 : C0 = 0
  · subst hc0
    have hsa := HSA.out
    rw [if_pos rfl] at hsa
    subst hsa
    clear HSA
    by_cases hc1 : C1 = 0
    · subst hc1
      have hsb := HSB.out
      rw [if_pos rfl] at hsb
      subst hsb
      clear HSB
      have HDA2 := Lib.hid (fun W => HDA.out W (by have := HLN.out rfl; omega))
      rw [HDE.out rfl] at HDA2
      have hij := HIJ.out rfl rfl
      have htq := txt_eqO (encO ⟨k0, n0, t0, p0, x0⟩) (encO ⟨k1, n1, t1, p1, x1⟩)
      have HDB : Hid (((bs (encO ⟨k0, n0, t0, p0, x0⟩)).toList == (bs (encO ⟨k1, n1, t1, p1, x1⟩)).toList) = (k0 == k1 && ((bs n0).toList == (bs n1).toList) && ((bs t0).toList == (bs t1).toList) && (p0 == p1) && ((bs x0).toList == (bs x1).toList))) := by
        show _ = _
        rw [htq, txt_eqO, txt_eqO, txt_eqO, Bool.eq_iff_iff]
        simp only [beq_iff_eq, Bool.and_eq_true]
        rw [hij]
        simp only [Opn.mk.injEq]
        constructor
        · rintro ⟨h1, h2, h3, h4, h5⟩; exact ⟨⟨⟨⟨h1, h2⟩, h3⟩, h4⟩, h5⟩
        · rintro ⟨⟨⟨⟨h1, h2⟩, h3⟩, h4⟩, h5⟩; exact ⟨h1, h2, h3, h4, h5⟩
      clear HDA hij htq HDE HLN HIJ
      go_wp2_with fail
      refine (HDA2.out _).mono ?_
      rintro e w5 ⟨rfl, u⟩
      replace HA := Lib.hid (HA.out.up u)
      replace HB := Lib.hid (HB.out.up u)
      replace HU := Lib.hid (HU.out.trans u)
      clear u HDA2
      simp only [Option.getD_some, Option.isSome_some, if_true]
      go_upto_region 9 with (fail)
      have HC : Hid (RowC (w5.alloc (.cells #[.int .i64 k0, .string (bs n0), .string (bs t0), .int .i64 p0, .string (bs x0)] 23)) w5.heap.size 23 [.int .i64 k0, .string (bs n0), .string (bs t0), .int .i64 p0, .string (bs x0)]) := heap_alloc_new w5 _
      have hv := Up.alloc w5 (.cells #[.int .i64 k0, .string (bs n0), .string (bs t0), .int .i64 p0, .string (bs x0)] 23)
      replace HA := Lib.hid (HA.out.up hv)
      replace HB := Lib.hid (HB.out.up hv)
      replace HU := Lib.hid (HU.out.trans hv)
      clear hv
      generalize w5.alloc (.cells #[.int .i64 k0, .string (bs n0), .string (bs t0), .int .i64 p0, .string (bs x0)] 23) = W6 at HA HB HC HU ⊢
      generalize w5.heap.size = Z at HC ⊢
      have q0 := HA.out.cell (j := 0) rfl
      have q1 := HA.out.cell (j := 1) rfl
      have q2 := HA.out.cell (j := 2) rfl
      have q3 := HA.out.cell (j := 3) rfl
      have q4 := HA.out.cell (j := 4) rfl
      have s0 := HB.out.cell (j := 0) rfl
      have s1 := HB.out.cell (j := 1) rfl
      have s2 := HB.out.cell (j := 2) rfl
      have s3 := HB.out.cell (j := 3) rfl
      have s4 := HB.out.cell (j := 4) rfl
      have v0 := HC.out.cell (j := 0) rfl
      have v1 := HC.out.cell (j := 1) rfl
      have v2 := HC.out.cell (j := 2) rfl
      have v3 := HC.out.cell (j := 3) rfl
      have v4 := HC.out.cell (j := 4) rfl
      generalize bs (encO ⟨k0, n0, t0, p0, x0⟩) = S0 at *
      generalize bs (encO ⟨k1, n1, t1, p1, x1⟩) = S1 at *
      generalize bs n0 = N0 at *
      generalize bs n1 = N1 at *
      generalize bs t0 = T0 at *
      generalize bs t1 = T1 at *
      generalize bs x0 = E0 at *
      generalize bs x1 = E1 at *
      go_wp2_with fail
      all_goals
        go_ret
        refine ⟨?_, HU.out⟩
        have h9 := HDB.out
        clear HA HB HC HDB q0 q1 q2 q3 q4 s0 s1 s2 s3 s4 v0 v1 v2 v3 v4
        simp_all
    · have hcz : (C1 == 0) = false := by rw [beq_eq_false_iff_ne]; exact hc1
      clear HDA HLN HDE HIJ hc1
      go_wp2_with fail
      go_ret
      exact ⟨rfl, HU.out⟩
  · have hcz : (C0 == 0) = false := by rw [beq_eq_false_iff_ne]; exact hc0
    have hsa := HSA.out
    rw [if_neg hc0] at hsa
    subst hsa
    have he := empty_txt
    clear HSA HSB
    clear HDA HLN HDE HIJ hc0
    go_wp2_with fail
    go_ret
    exact ⟨rfl, HU.out⟩

end Go.Proofs.Ytkkecgamaahniaa
