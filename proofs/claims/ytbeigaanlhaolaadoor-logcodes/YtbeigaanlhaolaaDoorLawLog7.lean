/-
  The law LogCodes: whatever is handed in, Check, Encode and Decode answer what the document says. Conditions: a deed that a call can be handed, a text that fits in memory.
-/
import Derived.Test.YtbeigaanlhaolaaDoorRefUn
namespace Go.Proofs.YtbeigaanlhaolaaDoor
open Go.RowKit
open Go.Proofs
open WoolBag
open WoolVol

set_option maxRecDepth 100000 in
set_option maxHeartbeats 4000000 in
theorem logCodes_walk (a0 : Opn) (a1 : ByteArray) (w : World) (w0 : OpWf a0) (w1 : a1.size ≤ 140737488351232) :
    Calls Tryd.prog 3 #[opA a0, .string a1] w fun e w' => e = .returned (.bool true) ∧ Up w w' := by
  obtain ⟨s, rfl⟩ : ∃ s, bs s = a1 := ⟨a1.data.toList, bs_of a1⟩
  rw [bs_size] at w1
  have HEN := Lib.hid (fun W => encode_any a0 W w0)
  have HDE := Lib.hid (fun W => refDeed_any a0 W w0)
  have HCK := Lib.hid (fun W => checkO_any a0 W w0)
  have HCZ : Hid (∀ W, Calls Tryd.prog 6 #[.agg #[.int .i64 0, .string ⟨#[]⟩, .string ⟨#[]⟩, .int .i64 0, .string ⟨#[]⟩]] W fun e w' => e = .returned (.int .i64 1) ∧ Up W w') := fun W => checkO_any zeroO W zeroO_wf
  have HBO := Lib.hid (fun hc W => refBody_any a0 W hc)
  have HDC := Lib.hid (fun W => decode_any s W (by omega))
  have HUB := Lib.hid (fun W => refUnb_any s W (by omega))
  unfold encR at HEN
  unfold decR at HDC HUB
  obtain ⟨P, hP⟩ : ∃ P, (decO s).getD zeroO = P := ⟨_, rfl⟩
  obtain ⟨F, hF⟩ : ∃ F, (if (decO s).isSome then (0 : Int) else 3) = F := ⟨_, rfl⟩
  obtain ⟨C, hC⟩ : ∃ C, chkO a0 = C := ⟨_, rfl⟩
  obtain ⟨E, hE⟩ : ∃ E, encO a0 = E := ⟨_, rfl⟩
  rw [hP, hF] at HDC HUB
  rw [hC] at HDE HCK
  rw [hC, hE] at HEN HBO
  clear hP hF hC hE w0 w1
  obtain ⟨kd, nm, ot, pl, tx⟩ := a0
  obtain ⟨k2, nm2, ot2, p2, tx2⟩ := P
  unfold opA at *
  simp only at *
  generalize bs nm = N at *
  generalize bs ot = O at *
  generalize bs tx = T at *
  generalize bs nm2 = N2 at *
  generalize bs ot2 = O2 at *
  generalize bs tx2 = T2 at *
  generalize bs s = S at *
  have HEM : Hid (bs [] = ⟨#[]⟩) := rfl
  have HO : Hid (RowC (w.alloc (.cells #[.int .i64 kd, .string N, .string O, .int .i64 pl, .string T] 23)) w.heap.size 23 [.int .i64 kd, .string N, .string O, .int .i64 pl, .string T]) := heap_alloc_new w _
  have HU := Lib.hid (Up.alloc w (.cells #[.int .i64 kd, .string N, .string O, .int .i64 pl, .string T] 23))
  go_enter Tryd.func3, Tryd.ntmps3
  go_upto_region 1 with (fail)
  generalize w.alloc (.cells #[.int .i64 kd, .string N, .string O, .int .i64 pl, .string T] 23) = W0 at HO HU ⊢
  generalize w.heap.size = X at HO ⊢
  by_cases hc : C = 0
  · subst hc
    rw [if_pos rfl] at HEN
    have HBP := Lib.hid (HBO.out (by first | rfl | trivial))
    clear HBO
    generalize bs E = EB at *
    have p0 := HO.out.cell (j := 0) rfl
    have p1 := HO.out.cell (j := 1) rfl
    have p2 := HO.out.cell (j := 2) rfl
    have p3 := HO.out.cell (j := 3) rfl
    have p4 := HO.out.cell (j := 4) rfl
    go_wp2_with fail
    refine (HEN.out _).mono ?_
    rintro e w1 ⟨rfl, u1⟩
    replace HO := Lib.hid (HO.out.up u1)
    replace HU := Lib.hid (HU.out.trans u1)
    clear u1
    clear p0 p1 p2 p3 p4
    have p0 := HO.out.cell (j := 0) rfl
    have p1 := HO.out.cell (j := 1) rfl
    have p2 := HO.out.cell (j := 2) rfl
    have p3 := HO.out.cell (j := 3) rfl
    have p4 := HO.out.cell (j := 4) rfl
    go_wp2_with fail
    refine (HDE.out _).mono ?_
    rintro e w2 ⟨rfl, u2⟩
    replace HO := Lib.hid (HO.out.up u2)
    replace HU := Lib.hid (HU.out.trans u2)
    clear u2
    clear p0 p1 p2 p3 p4
    have p0 := HO.out.cell (j := 0) rfl
    have p1 := HO.out.cell (j := 1) rfl
    have p2 := HO.out.cell (j := 2) rfl
    have p3 := HO.out.cell (j := 3) rfl
    have p4 := HO.out.cell (j := 4) rfl
    go_wp2_with fail
    refine (HCK.out _).mono ?_
    rintro e w3 ⟨rfl, u3⟩
    replace HO := Lib.hid (HO.out.up u3)
    replace HU := Lib.hid (HU.out.trans u3)
    clear u3
    clear p0 p1 p2 p3 p4
    go_wp2_with fail
    refine (HCZ.out _).mono ?_
    rintro e w4 ⟨rfl, u4⟩
    replace HO := Lib.hid (HO.out.up u4)
    replace HU := Lib.hid (HU.out.trans u4)
    clear u4
    have p0 := HO.out.cell (j := 0) rfl
    have p1 := HO.out.cell (j := 1) rfl
    have p2 := HO.out.cell (j := 2) rfl
    have p3 := HO.out.cell (j := 3) rfl
    have p4 := HO.out.cell (j := 4) rfl
    go_wp2_with fail
    refine (HBP.out _).mono ?_
    rintro e w5 ⟨rfl, u5⟩
    replace HO := Lib.hid (HO.out.up u5)
    replace HU := Lib.hid (HU.out.trans u5)
    clear u5
    clear p0 p1 p2 p3 p4
    go_wp2_with fail
    refine (HDC.out _).mono ?_
    rintro e w7 ⟨rfl, u7⟩
    replace HO := Lib.hid (HO.out.up u7)
    replace HU := Lib.hid (HU.out.trans u7)
    clear u7
    go_upto_region 11 with (fail)
    have HA : Hid (RowC (w7.alloc (.cells #[.int .i64 k2, .string N2, .string O2, .int .i64 p2, .string T2] 23)) w7.heap.size 23 [.int .i64 k2, .string N2, .string O2, .int .i64 p2, .string T2]) := heap_alloc_new w7 _
    replace HU := Lib.hid (HU.out.trans (Up.alloc w7 (.cells #[.int .i64 k2, .string N2, .string O2, .int .i64 p2, .string T2] 23)))
    clear HO
    generalize w7.alloc (.cells #[.int .i64 k2, .string N2, .string O2, .int .i64 p2, .string T2] 23) = W7 at HA HU ⊢
    generalize w7.heap.size = A at HA ⊢
    go_wp2_with fail
    refine (HUB.out _).mono ?_
    rintro e w8 ⟨rfl, u8⟩
    replace HA := Lib.hid (HA.out.up u8)
    replace HU := Lib.hid (HU.out.trans u8)
    clear u8
    go_upto_region 12 with (fail)
    have HB : Hid (RowC (w8.alloc (.cells #[.int .i64 k2, .string N2, .string O2, .int .i64 p2, .string T2] 23)) w8.heap.size 23 [.int .i64 k2, .string N2, .string O2, .int .i64 p2, .string T2]) := heap_alloc_new w8 _
    replace HA := Lib.hid (HA.out.up (Up.alloc w8 (.cells #[.int .i64 k2, .string N2, .string O2, .int .i64 p2, .string T2] 23)))
    replace HU := Lib.hid (HU.out.trans (Up.alloc w8 (.cells #[.int .i64 k2, .string N2, .string O2, .int .i64 p2, .string T2] 23)))
    generalize w8.alloc (.cells #[.int .i64 k2, .string N2, .string O2, .int .i64 p2, .string T2] 23) = W8 at HA HB HU ⊢
    generalize w8.heap.size = B at HB ⊢
    have a0 := HA.out.cell (j := 0) rfl
    have a1 := HA.out.cell (j := 1) rfl
    have a2 := HA.out.cell (j := 2) rfl
    have a3 := HA.out.cell (j := 3) rfl
    have a4 := HA.out.cell (j := 4) rfl
    have b0 := HB.out.cell (j := 0) rfl
    have b1 := HB.out.cell (j := 1) rfl
    have b2 := HB.out.cell (j := 2) rfl
    have b3 := HB.out.cell (j := 3) rfl
    have b4 := HB.out.cell (j := 4) rfl
    go_wp2_with fail
    go_ret
    exact ⟨rfl, HU.out⟩
  · have hcz : (C == 0) = false := by rw [beq_eq_false_iff_ne]; exact hc
    rw [if_neg hc, HEM.out] at HEN
    clear HBO
    have p0 := HO.out.cell (j := 0) rfl
    have p1 := HO.out.cell (j := 1) rfl
    have p2 := HO.out.cell (j := 2) rfl
    have p3 := HO.out.cell (j := 3) rfl
    have p4 := HO.out.cell (j := 4) rfl
    go_wp2_with fail
    refine (HEN.out _).mono ?_
    rintro e w1 ⟨rfl, u1⟩
    replace HO := Lib.hid (HO.out.up u1)
    replace HU := Lib.hid (HU.out.trans u1)
    clear u1
    clear p0 p1 p2 p3 p4
    have p0 := HO.out.cell (j := 0) rfl
    have p1 := HO.out.cell (j := 1) rfl
    have p2 := HO.out.cell (j := 2) rfl
    have p3 := HO.out.cell (j := 3) rfl
    have p4 := HO.out.cell (j := 4) rfl
    go_wp2_with fail
    refine (HDE.out _).mono ?_
    rintro e w2 ⟨rfl, u2⟩
    replace HO := Lib.hid (HO.out.up u2)
    replace HU := Lib.hid (HU.out.trans u2)
    clear u2
    clear p0 p1 p2 p3 p4
    have p0 := HO.out.cell (j := 0) rfl
    have p1 := HO.out.cell (j := 1) rfl
    have p2 := HO.out.cell (j := 2) rfl
    have p3 := HO.out.cell (j := 3) rfl
    have p4 := HO.out.cell (j := 4) rfl
    go_wp2_with fail
    refine (HCK.out _).mono ?_
    rintro e w3 ⟨rfl, u3⟩
    replace HO := Lib.hid (HO.out.up u3)
    replace HU := Lib.hid (HU.out.trans u3)
    clear u3
    clear p0 p1 p2 p3 p4
    go_wp2_with fail
    refine (HCZ.out _).mono ?_
    rintro e w4 ⟨rfl, u4⟩
    replace HO := Lib.hid (HO.out.up u4)
    replace HU := Lib.hid (HU.out.trans u4)
    clear u4
    go_wp2_with fail
    refine (HDC.out _).mono ?_
    rintro e w7 ⟨rfl, u7⟩
    replace HO := Lib.hid (HO.out.up u7)
    replace HU := Lib.hid (HU.out.trans u7)
    clear u7
    go_upto_region 11 with (fail)
    have HA : Hid (RowC (w7.alloc (.cells #[.int .i64 k2, .string N2, .string O2, .int .i64 p2, .string T2] 23)) w7.heap.size 23 [.int .i64 k2, .string N2, .string O2, .int .i64 p2, .string T2]) := heap_alloc_new w7 _
    replace HU := Lib.hid (HU.out.trans (Up.alloc w7 (.cells #[.int .i64 k2, .string N2, .string O2, .int .i64 p2, .string T2] 23)))
    clear HO
    generalize w7.alloc (.cells #[.int .i64 k2, .string N2, .string O2, .int .i64 p2, .string T2] 23) = W7 at HA HU ⊢
    generalize w7.heap.size = A at HA ⊢
    go_wp2_with fail
    refine (HUB.out _).mono ?_
    rintro e w8 ⟨rfl, u8⟩
    replace HA := Lib.hid (HA.out.up u8)
    replace HU := Lib.hid (HU.out.trans u8)
    clear u8
    go_upto_region 12 with (fail)
    have HB : Hid (RowC (w8.alloc (.cells #[.int .i64 k2, .string N2, .string O2, .int .i64 p2, .string T2] 23)) w8.heap.size 23 [.int .i64 k2, .string N2, .string O2, .int .i64 p2, .string T2]) := heap_alloc_new w8 _
    replace HA := Lib.hid (HA.out.up (Up.alloc w8 (.cells #[.int .i64 k2, .string N2, .string O2, .int .i64 p2, .string T2] 23)))
    replace HU := Lib.hid (HU.out.trans (Up.alloc w8 (.cells #[.int .i64 k2, .string N2, .string O2, .int .i64 p2, .string T2] 23)))
    generalize w8.alloc (.cells #[.int .i64 k2, .string N2, .string O2, .int .i64 p2, .string T2] 23) = W8 at HA HB HU ⊢
    generalize w8.heap.size = B at HB ⊢
    have a0 := HA.out.cell (j := 0) rfl
    have a1 := HA.out.cell (j := 1) rfl
    have a2 := HA.out.cell (j := 2) rfl
    have a3 := HA.out.cell (j := 3) rfl
    have a4 := HA.out.cell (j := 4) rfl
    have b0 := HB.out.cell (j := 0) rfl
    have b1 := HB.out.cell (j := 1) rfl
    have b2 := HB.out.cell (j := 2) rfl
    have b3 := HB.out.cell (j := 3) rfl
    have b4 := HB.out.cell (j := 4) rfl
    go_wp2_with fail
    go_ret
    exact ⟨rfl, HU.out⟩

end Go.Proofs.YtbeigaanlhaolaaDoor
