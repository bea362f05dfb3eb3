/-
  What the reference's End and Ends return: where the first chunk ends, and where all end. Conditions: a text of at most 600 bytes, right numbers.
-/
import Derived.Test.YtidofplebkbbmaaLawCut
import Derived.Test.YtidofplebkbbmaaRefPrint
namespace Go.Proofs.Ytidofplebkbbmaa
open Go.RowKit
open Go.Proofs

theorem wrap_toInt (X : BitVec 64) : IntKind.i64.wrap (X.toNat : Int) = X.toInt := by
  have h := X.isLt
  rw [BitVec.toInt_eq_toNat_cond]
  generalize X.toNat = n at *
  simp only [IntKind.wrap, IntKind.bits, IntKind.signed]
  simp
  split <;> split <;> omega

theorem bv_test (p m : BitVec 64) : p ||| (BitVec.allOnes 64 ^^^ m) = BitVec.allOnes 64 ↔ p &&& m = m := by
  constructor
  · intro h
    apply BitVec.eq_of_getLsbD_eq
    intro i hi
    have := congrArg (fun z => BitVec.getLsbD z i) h
    simp only [BitVec.getLsbD_or, BitVec.getLsbD_xor, BitVec.getLsbD_allOnes, hi, decide_true] at this
    rw [BitVec.getLsbD_and]
    revert this
    cases p.getLsbD i <;> cases m.getLsbD i <;> simp
  · intro h
    apply BitVec.eq_of_getLsbD_eq
    intro i hi
    have := congrArg (fun z => BitVec.getLsbD z i) h
    simp only [BitVec.getLsbD_and] at this
    simp only [BitVec.getLsbD_or, BitVec.getLsbD_xor, BitVec.getLsbD_allOnes, hi, decide_true]
    revert this
    cases p.getLsbD i <;> cases m.getLsbD i <;> simp

theorem or_not_test (P mask : Nat) (hP : P < 9223372036854775808) (hm : mask < 9223372036854775808) :
    (bits .or .i64 (P : Int) (bits .xor .i64 (if IntKind.i64.signed = true then -1 else 9223372036854775807) (mask : Int)) == -1) = (P &&& mask == mask) := by
  have e1 : bits .xor .i64 (if IntKind.i64.signed = true then -1 else 9223372036854775807) (mask : Int) = (BitVec.allOnes 64 ^^^ BitVec.ofNat 64 mask).toInt := by
    rw [← wrap_toInt]
    rfl
  have e2 : bits .or .i64 (P : Int) (bits .xor .i64 (if IntKind.i64.signed = true then -1 else 9223372036854775807) (mask : Int)) = (BitVec.ofNat 64 P ||| (BitVec.allOnes 64 ^^^ BitVec.ofNat 64 mask)).toInt := by
    rw [e1, ← wrap_toInt (BitVec.ofNat 64 P ||| (BitVec.allOnes 64 ^^^ BitVec.ofNat 64 mask))]
    show IntKind.i64.wrap ((BitVec.ofInt 64 (P : Int) ||| BitVec.ofInt 64 (BitVec.allOnes 64 ^^^ BitVec.ofNat 64 mask).toInt).toNat : Int) = _
    rw [BitVec.ofInt_toInt, BitVec.ofInt_natCast]
  rw [e2, Bool.eq_iff_iff, beq_iff_eq, beq_iff_eq]
  have e3 : (-1 : Int) = (BitVec.allOnes 64).toInt := by decide
  rw [e3]
  constructor
  · intro h
    have h2 := (bv_test _ _).1 (BitVec.eq_of_toInt_eq h)
    have h3 := congrArg BitVec.toNat h2
    rw [BitVec.toNat_and, BitVec.toNat_ofNat, BitVec.toNat_ofNat, Nat.mod_eq_of_lt (by omega), Nat.mod_eq_of_lt (by omega)] at h3
    exact h3
  · intro h
    congr 1
    apply (bv_test _ _).2
    apply BitVec.eq_of_toNat_eq
    rw [BitVec.toNat_and, BitVec.toNat_ofNat, BitVec.toNat_ofNat, Nat.mod_eq_of_lt (by omega), Nat.mod_eq_of_lt (by omega)]
    exact h

def REndRel (l : List UInt8) (least most mask : Nat) (w : World) (n : Value) (wr : World) : Prop :=
  ∃ k : Nat, least ≤ k ∧ k ≤ most ∧ n = .int .i64 k ∧ (∀ j, least ≤ j → j < k → mk l mask j = false) ∧ Up w wr

set_option maxRecDepth 100000 in
set_option maxHeartbeats 2000000 in
theorem refEnd_any (s : ByteArray) (least most mask : Nat) (w : World) (hs : s.size ≤ 600) (h2 : least ≤ most) (h3 : most ≤ 600) (hm : mask ≤ 65535) :
    Calls Try.prog 57 #[.string s, .int .i64 (least : Int), .int .i64 (most : Int), .int .i64 (mask : Int)] w fun e w' => e = .returned (.int .i64 (chunk s.data.toList least most mask : Nat)) ∧ Up w w' := by
  generalize hC : chunk s.data.toList least most mask = C
  have HC := Lib.hid hC
  clear hC
  go_enter Try.func57, Try.ntmps57
  go_wp2_with fail
  go_loopw [9] (fun n wr => REndRel s.data.toList least most mask w n wr) (fun n _ => s.size - (intOf n).toNat)
  case atStart => exact ⟨least, Nat.le_refl _, h2, rfl, fun j j1 j2 => by omega, Up.refl w⟩
  case round =>
    obtain ⟨k, hk, hk2, rfl, hno, hu⟩ := hrel
    have HNO := Lib.hid hno
    have HU := Lib.hid hu
    clear hno hu
    by_cases hlt : k < s.size
    · by_cases hmo : k = most
      · have hend := scan_end s.data.toList least most mask k (by omega) HNO.out
        rw [HC.out, len_ba] at hend
        have hend2 : C = k := by omega
        subst hend2
        subst hmo
        clear hend
        go_wp2_with fail
        go_ret
        exact ⟨rfl, HU.out⟩
      · have hb : ((k : Int) == (most : Int)) = false := by rw [beq_eq_false_iff_ne]; omega
        have hb2 : (k == most) = false := by rw [beq_eq_false_iff_ne]; exact hmo
        have hkm : k < most := by omega
        clear hmo
        have hst : mk s.data.toList mask k = true → C = k := fun h => by rw [← HC.out]; exact scan_step s.data.toList least most mask k hk (by rw [len_ba]; omega) HNO.out h
        have hnx : mk s.data.toList mask k = false → ∀ j, least ≤ j → j < k + 1 → mk s.data.toList mask j = false := by
          intro h j j1 j2
          by_cases e : j = k
          · subst e; exact h
          · exact HNO.out j j1 (by omega)
        have HST := Lib.hid hst
        have HNX := Lib.hid hnx
        have hws : (s.extract (k - 8) k).size ≤ 600 := by rw [ByteArray.size_extract]; omega
        have hwl : mk s.data.toList mask k = (fp 65581 (s.extract (k - 8) k).data.toList &&& mask == mask) := by rw [ext_wnd]; rfl
        have hP := fp_le 65581 (by omega) (by omega) (s.extract (k - 8) k).data.toList
        have htest := or_not_test (fp 65581 (s.extract (k - 8) k).data.toList) mask (by omega) (by omega)
        rw [← hwl] at htest
        obtain ⟨P, hPd⟩ : ∃ P, fp 65581 (s.extract (k - 8) k).data.toList = P := ⟨_, rfl⟩
        rw [hPd] at htest hP
        have HTEST := Lib.hid htest
        have HPD := Lib.hid hPd
        clear hst hnx hwl htest hPd
        by_cases hmk : mk s.data.toList mask k = true
        · obtain rfl := HST.out hmk
          have ht := HTEST.out
          rw [hmk] at ht
          have HT := Lib.hid ht
          clear ht hmk
          by_cases h8 : 8 < C
          · go_wp2_with fail
            refine (refPrint_any 65581 _ _ (by omega) (by omega) hws).mono ?_
            rintro e w1 ⟨rfl, u1⟩
            rw [HPD.out]
            have ht := HT.out
            go_wp2_with fail
            go_ret
            exact ⟨rfl, HU.out.trans u1⟩
          · rw [show C - 8 = 0 by omega] at hws HPD
            go_wp2_with fail
            refine (refPrint_any 65581 _ _ (by omega) (by omega) hws).mono ?_
            rintro e w1 ⟨rfl, u1⟩
            rw [HPD.out]
            have ht := HT.out
            go_wp2_with fail
            go_ret
            exact ⟨rfl, HU.out.trans u1⟩
        · have hmk' : mk s.data.toList mask k = false := by simpa using hmk
          have HNEXT := Lib.hid (HNX.out hmk')
          have ht := HTEST.out
          rw [hmk'] at ht
          have HT := Lib.hid ht
          clear ht hmk hmk'
          by_cases h8 : 8 < k
          · go_wp2_with fail
            refine (refPrint_any 65581 _ _ (by omega) (by omega) hws).mono ?_
            rintro e w1 ⟨rfl, u1⟩
            rw [HPD.out]
            have ht := HT.out
            go_wp2_with fail
            go_roundw
            case rel => exact ⟨k + 1, by omega, by omega, by go_num, HNEXT.out, HU.out.trans u1⟩
            case measure => simp only [intOf]; omega
          · rw [show k - 8 = 0 by omega] at hws HPD
            go_wp2_with fail
            refine (refPrint_any 65581 _ _ (by omega) (by omega) hws).mono ?_
            rintro e w1 ⟨rfl, u1⟩
            rw [HPD.out]
            have ht := HT.out
            go_wp2_with fail
            go_roundw
            case rel => exact ⟨k + 1, by omega, by omega, by go_num, HNEXT.out, HU.out.trans u1⟩
            case measure => simp only [intOf]; omega
    · have hend := scan_end s.data.toList least most mask k (by rw [len_ba]; omega) HNO.out
      rw [HC.out, len_ba] at hend
      have hend2 : C = s.size := by omega
      subst hend2
      clear hend
      go_wp2_with fail
      go_ret
      exact ⟨rfl, HU.out⟩

end Go.Proofs.Ytidofplebkbbmaa
