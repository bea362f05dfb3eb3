/-
  The law PrintRolls, walked: for every modulus, every text and every size of the window the Go text returns true; nothing that was there turns. Conditions: a text that came in has at most 2^47 - 4096 bytes.
-/
import Derived.Test.YtidofplebkbbmaaBytes
namespace Go.Proofs.Ytidofplebkbbmaa
open Go.RowKit
open Go.Proofs

/-- a window -/
def win (l : List UInt8) (a n : Nat) : List UInt8 := (l.drop a).take n

theorem win_cons (l : List UInt8) (a n : Nat) (h : a < l.length) : win l a (n + 1) = l[a] :: win l (a + 1) n := by
  unfold win
  rw [List.drop_eq_getElem_cons h, List.take_succ_cons]

theorem win_snoc (l : List UInt8) (a n : Nat) (h : a + n < l.length) : win l a (n + 1) = win l a n ++ [l[a + n]] := by
  unfold win
  rw [List.take_succ_eq_append_getElem (by rw [List.length_drop]; omega), List.getElem_drop]

theorem win_length (l : List UInt8) (a n : Nat) (h : a + n ≤ l.length) : (win l a n).length = n := by
  unfold win
  rw [List.length_take, List.length_drop]; omega

theorem win_roll (M : Nat) (h : 2 ≤ M) (l : List UInt8) (a n : Nat) (hn : 1 ≤ n) (ha : a + n < l.length) :
    rollV M (fp M (win l a n)) l[a].toNat l[a + n].toNat n = fp M (win l (a + 1) n) := by
  obtain ⟨k, rfl⟩ : ∃ k, n = k + 1 := ⟨n - 1, by omega⟩
  have e1 := win_cons l a k (by omega)
  have e2 := win_snoc l (a + 1) k (by omega)
  have e3 := fp_roll M h l[a] l[a + 1 + k] (win l (a + 1) k)
  rw [← e1, ← e2, win_length _ _ _ (by omega)] at e3
  rw [e3]
  congr 3
  omega

theorem win_roll_ba (M : Nat) (h : 2 ≤ M) (S : ByteArray) (a N I : Nat) (hI : a + N = I) (hN : 1 ≤ N) (ha : a < S.size) (hlt : I < S.size) :
    rollV M (fp M (win S.data.toList a N)) S[a].toNat S[I].toNat N = fp M (win S.data.toList (a + 1) N) := by
  subst hI
  have hlen := ba_length S
  exact win_roll M h S.data.toList a N hN (by omega)

theorem extract_win (s : ByteArray) (a b : Nat) : (s.extract a b).data.toList = win s.data.toList a (b - a) := by
  unfold win
  rw [ByteArray.data_extract, Array.toList_extract, List.extract_eq_take_drop]

theorem roll283 : rollV 283 0 0 0 1 = 69 := by decide +kernel

theorem fp283 : fp 283 (⟨#[97]⟩ : ByteArray).data.toList = 122 := by decide +kernel

def RollRel (M N : Nat) (s : ByteArray) (w : World) (p i : Value) (wr : World) : Prop :=
  ∃ I a : Nat, a + N = I ∧ I ≤ s.size ∧ i = .int .i64 I ∧ p = .int .i64 (fp M (win s.data.toList a N) : Nat) ∧ Up w wr

set_option maxRecDepth 100000 in
set_option maxHeartbeats 1000000 in
theorem printRolls_walk (a0 : Int) (a1 : ByteArray) (a2 : Int) (w : World) (_w0 : (Lit.int .i64 a0).wf = true) (w1 : a1.size ≤ 140737488351232) (_w2 : (Lit.int .i64 a2).wf = true) :
    Calls Try.prog 8 #[.int .i64 a0, .string a1, .int .i64 a2] w fun e w' => e = .returned (.bool true) ∧ Up w w' := by
  have HR := Lib.hid roll283
  have HF := Lib.hid fp283
  obtain ⟨m, hm⟩ : ∃ m : Nat, m = min a1.size 40 := ⟨_, rfl⟩
  have hm1 : m ≤ a1.size := by omega
  have hm40 : m ≤ 40 := by omega
  have hmin : ∀ (ts : Array TypeId) (t : TypeId) (W : World), (Builtin.min_ ts t #[.int .i64 (a1.size : Int), .int .i64 40]).run Try.prog W = .ok (.int .i64 (m : Int)) W := by
    intro ts t W
    simp [Builtin.min_, Builtin.min2]
    split <;> omega
  have hes := extract_size a1 m hm1
  clear hm
  go_enter Try.func8, Try.ntmps8
  go_wp2_with fail
  refine (roll_ok 283 0 0 0 1 _ (by omega) (by omega) (by decide) (by omega) (by omega) (by omega) (by omega)).mono ?_
  rintro e v1 ⟨rfl, u1⟩
  rw [HR.out]
  go_wp2_with fail
  refine (of_ok 283 _ _ (by omega) (by omega) (by decide)).mono ?_
  rintro e v2 ⟨rfl, u2⟩
  rw [HF.out]
  go_wp2_with fail
  rw [show max (1 : Int) (m : Int) = ((max 1 m : Nat) : Int) by omega]
  refine (within_any a2 _ _ (by omega) (by omega)).mono ?_
  rintro e w' ⟨rfl, rfl⟩
  rw [Int.toNat_natCast]
  have hW := within_lt a2 (max 1 m) (by omega)
  generalize within a2 (max 1 m) = X at *
  have HES := Lib.hid hes
  generalize a1.extract 0 m = S at *
  clear hmin
  have hes2 : S.size ≤ m := by omega
  have hes3 : m ≤ S.size := by omega
  clear hes
  by_cases hm0 : m = 0
  · subst hm0
    have hX0 : X = 0 := by omega
    subst hX0
    go_wp2_with fail
    go_ret
    exact ⟨rfl, u1.trans u2⟩
  · have hX : X < m := by omega
    have hmp : 0 < m := by omega
    clear hW hm0
    have hgt : decide ((m : Int) < 1 + (X : Int)) = false := by rw [decide_eq_false_iff_not]; omega
    go_wp2_with fail
    rw [show (1 : Int) + (X : Int) = ((1 + X : Nat) : Int) by omega]
    have hN1 : 1 ≤ 1 + X := by omega
    have hN2 : 1 + X ≤ S.size := by omega
    have hS40 : S.size ≤ 40 := by omega
    clear hgt hX
    generalize 1 + X = N at *
    have hes : (S.extract 0 N).size = N := extract_size S N hN2
    have hel : (S.extract 0 N).data.toList = win S.data.toList 0 N := extract_win S 0 N
    generalize S.extract 0 N = T at *
    have HEL := Lib.hid hel
    have hT : T.size ≤ 40 := by omega
    clear hes hel hes2 hes3 hm40 hm1 hmp HES
    by_cases hm : a0 < 2 ∨ 2147483647 < a0
    · have HM := Lib.hid hm
      clear hm
      refine (of_bad _ _ _ HM.out).mono ?_
      rintro e v3 ⟨rfl, rfl⟩
      go_wp2_with fail
      go_ret
      exact ⟨rfl, u1.trans u2⟩
    · obtain ⟨M, rfl⟩ := Int.eq_ofNat_of_zero_le (show 0 ≤ a0 by omega)
      have hM0 : 2 ≤ M := by omega
      have hM1 : M ≤ 2147483647 := by omega
      clear hm
      refine (of_ok M _ _ hM0 hM1 (by omega)).mono ?_
      rintro e v3 ⟨rfl, u3⟩
      rw [HEL.out]
      go_wp2_with fail
      go_loopw [11, 13] (fun p i wr => RollRel M N S v3 p i wr) (fun _ i _ => S.size - (intOf i).toNat)
      case atStart => exact ⟨N, 0, by omega, hN2, rfl, rfl, Up.refl _⟩
      case round =>
        obtain ⟨I, a, hI, hIS, rfl, rfl, hu⟩ := hrel
        have HU := Lib.hid hu
        have HI := Lib.hid hI
        clear hu hI
        by_cases hlt : I < S.size
        · have haS : a < S.size := by have := HI.out; omega
          have hroll := win_roll_ba M hM0 S a N I HI.out hN1 haS hlt
          have hlt0 := fp_lt M hM0 (win S.data.toList a N)
          have hext := extract_win S (a + 1) (I + 1)
          rw [show I + 1 - (a + 1) = N by have := HI.out; omega] at hext
          have hexs : (S.extract (a + 1) (I + 1)).size = I + 1 - (a + 1) := by rw [ByteArray.size_extract]; omega
          have hw1 : IntKind.i64.wrap ((I : Int) - (N : Int)) = (I : Int) - (N : Int) := by
            have := HI.out
            rw [show (I : Int) - (N : Int) = (a : Int) by omega]
            exact wrap_i64_nat _ (by omega)
          have hw2 : ((I : Int) - (N : Int)).toNat = a := by
            have := HI.out
            omega
          have hw3 : 0 ≤ (I : Int) - (N : Int) := by have := HI.out; omega
          have hw4 : (I : Int) - (N : Int) < (S.size : Int) := by omega
          have hb1 : S[a].toNat < 256 := UInt8.toNat_lt _
          have hb2 : S[I].toNat < 256 := UInt8.toNat_lt _
          have HW3 := Lib.hid (wrap_i64_nat S[a].toNat (by omega))
          have HW4 := Lib.hid (wrap_i64_nat S[I].toNat (by omega))
          have HEXT := Lib.hid hext
          have HROLL := Lib.hid hroll
          have HLT := Lib.hid hlt0
          clear hroll hext hlt0
          have haI : a ≤ I := by have := HI.out; omega
          have hexs2 : (S.extract (a + 1) (I + 1)).size ≤ 600 := by omega
          clear hexs
          generalize fp M (win S.data.toList a N) = P at *
          go_wp2_with fail
          go_region_held3 (fun _ => True) (trivial) (first
            | (go_at_call 25; rw [HW3.out, HW4.out]; refine (roll_ok M P S[a].toNat S[I].toNat N _ hM0 hM1 HLT.out (by omega) (by omega) hN1 (by omega)).mono ?_; rintro e v4 ⟨rfl, u4⟩; rw [HROLL.out]))
          all_goals
            clear hw1
            go_wp2_with fail
            rw [show I - N = a by have := HI.out; omega]
            refine (of_ok M _ _ hM0 hM1 hexs2).mono ?_
            rintro e v5 ⟨rfl, u5⟩
            rw [HEXT.out]
            generalize hG : fp M (win S.data.toList (a + 1) N) = G at *
            have HG := Lib.hid hG
            clear hG
            go_wp2_with fail
            go_roundw
            case rel => exact ⟨I + 1, a + 1, by have := HI.out; omega, by omega, by go_num, by rw [HG.out], ((HU.out.trans (Up.drew _)).trans u4).trans u5⟩
            case measure => simp only [intOf]; omega
        · go_wp2_with fail
          go_ret
          exact ⟨rfl, ((u1.trans u2).trans u3).trans HU.out⟩

end Go.Proofs.Ytidofplebkbbmaa
