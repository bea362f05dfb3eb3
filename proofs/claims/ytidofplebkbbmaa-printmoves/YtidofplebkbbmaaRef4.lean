/-
  What the reference's Clone (of coefficients), Left, Gcd, ModMul and ModPow return. Conditions: as each says.
-/
import Derived.Test.YtidofplebkbbmaaRef3
namespace Go.Proofs.Ytidofplebkbbmaa
open Go.RowKit
open Go.Proofs

theorem bitsL_one (N n : Nat) : ∀ u ∈ bitsL N n, u.oneCell' = true := by
  intro u hu
  unfold bitsL at hu
  rw [List.mem_map] at hu
  obtain ⟨i, _, rfl⟩ := hu
  rfl

def ClonePost (n N : Nat) (w : World) (e : Ending) (w' : World) : Prop :=
  ∃ u, e = .returned u ∧ Bits w' w.heap.size u n N ∧ Up w w'

set_option maxRecDepth 100000 in
set_option maxHeartbeats 400000 in
theorem clone_any (v : Value) (base n N : Nat) (w : World) (hn : n ≤ 1000) (hb : Bits w base v n N) :
    Calls Try.prog 72 #[v] w (ClonePost n N w) := by
  obtain ⟨i0, hi, hz0, hz1, hz2⟩ := info_parts boolInfo
  have HB := Lib.hid hb
  have hnil := fun (w : World) (a : Option Addr) (n c : Nat) => Lib.run_eql_slice_nil (P := Try.prog) w 69 4 a n c 0 0 Try.underlying69
  rcases hb.2 with ⟨rfl, rfl⟩ | ⟨g, cap, cur, rfl, hg, hh, hnc, hcm, hcs, htk⟩
  · clear hb hi hz0 hz1 hz2
    go_enter Try.func72, Try.ntmps72
    go_wp2
    go_ret
    exact ⟨_, rfl, World.ownsRow_nil _ _ _ _, Up.refl w⟩
  · have HI := Lib.hid hi
    have HZ0 := Lib.hid hz0
    have HZ1 := Lib.hid hz1
    have HZ2 := Lib.hid hz2
    have hgw : g < w.heap.size := by
      rcases Nat.lt_or_ge g w.heap.size with hlt | hge
      · exact hlt
      · rw [Array.getElem?_eq_none hge] at hh; cases hh
    clear hb hi hz0 hz1 hz2 hg hh hcs htk
    unfold maxLen at hcm
    go_enter Try.func72, Try.ntmps72
    go_wp2_with (at_builtin; refine wpList_append_own _ rfl _ _ 69 rfl w.heap.size 4 i0 (.bool false) 1 1 Try.underlying69 HI.out HZ0.out HZ1.out HZ2.out rfl (by decide) _ 0 [] rfl (World.ownsRow_made _ #[] 0 (Nat.le_refl _) (by omega) (by simp)) ⟨g, 0, none⟩ n cap (bitsL N n) rfl (by rw [bitsL_length, Nat.mul_one]) ?c1 (bitsL_one N n) (by unfold maxLen; omega) (by omega) (by simp) ?_)
    case c1 => exact World.ownsRow.cells (World.ownsRow.alloc HB.out _) rfl
    intro v' w1 hown' hgrow _
    have hu : Up w w1 := Below.grown (Up.alloc w _) hgrow (by simp) (fun k hk => by simp [Value.ownBlock] at hk; omega)
    have HO := Lib.hid hown'
    have HU := Lib.hid hu
    clear hown' hgrow hu
    go_wp2_with fail
    go_ret
    exact ⟨_, rfl, HO.out, HU.out⟩

/-! ytidofplebkbbmaa# Left -/

/-- what is left at the head of the inner round k -/
def part (R B s k : Nat) : Nat := R ^^^ WoolMath.mul (2 ^ s) (B % 2 ^ k)

theorem part_zero (R B s : Nat) : part R B s 0 = R := by
  unfold part; rw [Nat.pow_zero, Nat.mod_one, WoolMath.mul_zero, Nat.xor_zero]
theorem part_full (R B s k : Nat) (h : B < 2 ^ k) : part R B s k = R ^^^ (B <<< s) := by
  unfold part; rw [Nat.mod_eq_of_lt h, WoolMath.mul_comm, ← WoolMath.mul_shift]
theorem part_yes (R B s k : Nat) (h : B.testBit k = true) : part R B s (k + 1) = part R B s k ^^^ 2 ^ (s + k) := by
  unfold part
  rw [mod_succ, if_pos h, WoolMath.mul_xor, Nat.xor_assoc, WoolMath.mul_pow (2 ^ s), ← Nat.pow_add]
theorem part_no (R B s k : Nat) (h : B.testBit k = false) : part R B s (k + 1) = part R B s k := by
  unfold part
  rw [mod_succ, if_neg (by simp [h]), Nat.xor_zero]

def LeftRel (A B X Y G nq : Nat) (w : World) (v : Value) (wr : World) : Prop :=
  ∃ R Q : Nat, WoolMath.blen R ≤ X ∧ Q < 2 ^ nq ∧ A = WoolMath.mul Q B ^^^ R ∧ (∀ i, i + Y ≤ WoolMath.blen R → Q.testBit i = false) ∧
    Bits wr w.heap.size v (WoolMath.blen R) R ∧ (∀ k, v.ownBlock = some k → k < G) ∧ Bits wr G (.slice (some ⟨G, 0, none⟩) nq nq) nq Q ∧ Up w wr

def LeftIn (B R Q s G nq g c : Nat) (w : World) (k : Value) (wr : World) : Prop :=
  ∃ K : Nat, K ≤ WoolMath.blen B ∧ k = .int .i64 K ∧ Bits wr w.heap.size (.slice (some ⟨g, 0, none⟩) (WoolMath.blen R) c) (WoolMath.blen R) (part R B s K) ∧
    Bits wr G (.slice (some ⟨G, 0, none⟩) nq nq) nq (Q ||| 2 ^ s) ∧ Up w wr

theorem left_turn (A B R Q s X nq : Nat) (hB : B ≠ 0) (hX : WoolMath.blen R ≤ X) (hnq : nq + WoolMath.blen B = X + 1) (hQ : Q < 2 ^ nq) (h : A = WoolMath.mul Q B ^^^ R)
    (hi : ∀ i, i + WoolMath.blen B ≤ WoolMath.blen R → Q.testBit i = false) (hs : s + WoolMath.blen B = WoolMath.blen R) :
    (R ^^^ (B <<< s)) < 2 ^ (WoolMath.blen R) ∧ WoolMath.blen (R ^^^ (B <<< s)) < WoolMath.blen R ∧ (Q ||| 2 ^ s) < 2 ^ nq ∧ A = WoolMath.mul (Q ||| 2 ^ s) B ^^^ (R ^^^ (B <<< s)) ∧
    (∀ i, i + WoolMath.blen B ≤ WoolMath.blen (R ^^^ (B <<< s)) → (Q ||| 2 ^ s).testBit i = false) := by
  have e : s = WoolMath.blen R - WoolMath.blen B := by omega
  obtain ⟨t1, t2⟩ := WoolMath.turn_blen R B hB (by omega)
  rw [← e] at t1 t2
  have hq : Q.testBit s = false := hi s (by omega)
  refine ⟨t2, t1, Nat.or_lt_two_pow hQ (Nat.pow_lt_pow_right (by omega) (by omega)), ?_, ?_⟩
  · rw [WoolMath.or_bit Q s hq, WoolMath.xor_mul, WoolMath.mul_comm (2 ^ s), ← WoolMath.mul_shift, h, Nat.xor_comm R, Nat.xor_assoc, WoolMath.xor_cancel_left]
  · intro i hle
    rw [Nat.testBit_or, hi i (by omega), Nat.testBit_two_pow]
    have : s ≠ i := by omega
    simp [this]

def LeftPost (A B : Nat) (w : World) (e : Ending) (w' : World) : Prop :=
  ∃ uq ur, e = .returned (.tuple #[uq, ur]) ∧ Bits w' w.heap.size uq (WoolMath.blen (WoolMath.pdiv A B)) (WoolMath.pdiv A B) ∧
    Bits w' w.heap.size ur (WoolMath.blen (WoolMath.pmod A B)) (WoolMath.pmod A B) ∧ Up w w'

theorem Bits.own_lt {w : World} {base : Nat} {v : Value} {n N : Nat} (h : Bits w base v n N) : ∀ k, v.ownBlock = some k → k < w.heap.size := fun k hk => (World.ownsRow.lt h k hk).2

set_option maxRecDepth 100000 in
set_option maxHeartbeats 1000000 in
theorem left_any (va vb : Value) (A B la : Nat) (w : World) (hla : la ≤ 64) (hA : A < 2 ^ la) (hB : B ≠ 0) (hlb : WoolMath.blen B ≤ 64) (ha : Bits w 0 va la A) (hb : Bits w 0 vb (WoolMath.blen B) B) :
    Calls Try.prog 53 #[va, vb] w (LeftPost A B w) := by
  obtain ⟨i0, hi, hz0, hz1, hz2⟩ := info_parts boolInfo
  have HI := Lib.hid hi
  have HZ0 := Lib.hid hz0
  have HZ1 := Lib.hid hz1
  have HZ2 := Lib.hid hz2
  have hY0 : 0 < WoolMath.blen B := by rw [WoolMath.blen_pos B hB]; omega
  have hX : WoolMath.blen A ≤ 64 := Nat.le_trans (WoolMath.blen_le A la hA) hla
  have hlB := WoolMath.lt_blen B
  obtain ⟨gb, cb, rfl, _, hgb, hcb, hcb2⟩ := hb.block hY0
  have HA := Lib.hid ha
  have HB := Lib.hid hb
  have HB0 := Lib.hid hB
  have HLA := Lib.hid hA
  have HLB := Lib.hid hlB
  clear hi hz0 hz1 hz2 ha hb hB hA hlB
  unfold maxLen at hcb2
  go_enter Try.func53, Try.ntmps53
  go_wp2_with fail
  refine (trim_any _ _ la A _ (by omega) HLA.out HA.out).mono ?_
  rintro e w' ⟨u, rfl, hbu, _, rfl⟩
  have HBU := Lib.hid hbu
  clear hbu
  go_wp2_with fail
  refine (clone_any _ _ _ A _ (by omega) HBU.out).mono ?_
  rintro e w1 ⟨r, rfl, hbr, u1⟩
  obtain ⟨oR, cR, rfl⟩ := hbr.shape
  have HBR := Lib.hid hbr
  have HU1 := Lib.hid u1
  have hs1 := u1.size
  clear hbr u1
  obtain ⟨nq, hnq⟩ : ∃ nq : Nat, nq = WoolMath.blen A + 1 - WoolMath.blen B := ⟨_, rfl⟩
  have HNQ := Lib.hid hnq
  have hnq2 : nq ≤ 65 := by omega
  clear hnq
  go_wp2_with (at_make; refine wpList_make_full _ rfl _ _ 69 rfl w1.heap.size 4 i0 (.bool false) 1 Try.underlying69 HI.out HZ0.out HZ1.out .i64 .i64 _ _ nq rfl rfl (by have := HNQ.out; omega) (by have := HNQ.out; omega) (by rw [HZ2.out]; omega) (by unfold maxLen; omega) (Nat.le_refl _) ?_)
  intro w2 hown hgrow
  have hb0 : Bits w2 w1.heap.size (.slice (some ⟨w1.heap.size, 0, none⟩) nq nq) nq 0 := by
    unfold Bits
    rw [← bitsL_zero, ← toList_madeCells_one (.bool false) nq]
    exact hown
  have hu2 : Up w1 w2 := Below.grown (Up.refl w1) hgrow (Nat.le_refl _) (fun k hk => by cases hk)
  have hstart : LeftRel A B (WoolMath.blen A) (WoolMath.blen B) w1.heap.size nq w (.slice oR (WoolMath.blen A) cR) w2 :=
    ⟨A, 0, Nat.le_refl _, Nat.pow_pos (by omega), by rw [WoolMath.zero_mul, Nat.zero_xor], fun i _ => Nat.zero_testBit i, HBR.out.up hu2, HBR.out.own_lt, hb0, HU1.out.trans hu2⟩
  have HST := Lib.hid hstart
  clear hown hgrow hb0 hu2 hstart
  generalize hXX : WoolMath.blen A = X at *
  clear hXX
  go_wp2_with fail
  go_loopw [5] (fun v wr => LeftRel A B X (WoolMath.blen B) w1.heap.size nq w v wr) (fun v _ => match v with | .slice _ m _ => m | _ => 0)
  case atStart => exact HST.out
  case round =>
    obtain ⟨R, Q, hRX, hQ, hAQ, hlow, hbR, hown, hbQ, huR⟩ := hrel
    by_cases hge : WoolMath.blen B ≤ WoolMath.blen R
    · obtain ⟨g, c, rfl, hgw, hgl, hc, hc2⟩ := hbR.block (by omega)
      obtain ⟨s, hs⟩ : ∃ s : Nat, s + WoolMath.blen B = WoolMath.blen R := ⟨WoolMath.blen R - WoolMath.blen B, by omega⟩
      have hnqs : nq + WoolMath.blen B = X + 1 := by have := HNQ.out; omega
      obtain ⟨k1, k2, k3, k4, k5⟩ := left_turn A B R Q s X nq HB0.out hRX hnqs hQ hAQ hlow hs
      have hgG : g < w1.heap.size := hown g rfl
      have hsq : s < nq := by omega
      have hfq := World.ownsRow.frozenAt hbQ s
      have hcq := hbQ.cell s hsq
      have hput := hbQ.put s
      have hbR2 := hbR.other w1.heap.size s (.bool true) (by simp [Value.ownBlock]; omega)
      have hu2 := huR.set w1.heap.size s (.bool true) hs1
      have HPUT := Lib.hid hput
      have HBR2 := Lib.hid hbR2
      have HU2 := Lib.hid hu2
      have HK1 := Lib.hid k1
      have HK2 := Lib.hid k2
      have HK3 := Lib.hid k3
      have HK4 := Lib.hid k4
      have HK5 := Lib.hid k5
      have HS := Lib.hid hs
      have hat : (WoolMath.blen R : Int) - (WoolMath.blen B : Int) = (s : Int) := by omega
      unfold maxLen at hc2
      clear hQ hAQ hlow hbR hown hbQ huR k1 k2 k3 k4 k5 hput hbR2 hu2 hs
      go_wp2_with fail
      clear hat
      go_loopw [35] (fun k wr => LeftIn B R Q s w1.heap.size nq g c w k wr) (fun k _ => WoolMath.blen B - (intOf k).toNat)
      case atStart => exact ⟨0, by omega, rfl, by rw [part_zero]; exact HBR2.out, HPUT.out, HU2.out⟩
      case round =>
        obtain ⟨K, hK, rfl, hbK, hbQ, huK⟩ := hrel
        by_cases hltk : K < WoolMath.blen B
        · have hc2 := ((HB.out).up huK).cell K hltk
          have hsK : s + K < WoolMath.blen R := by have := HS.out; omega
          cases hy : B.testBit K with
          | true =>
            rw [hy] at hc2
            have hc3 := hbK.cell (s + K) hsK
            have hfz := World.ownsRow.frozenAt hbK (s + K)
            have hnext := hbK.flip (s + K)
            rw [← part_yes R B s K hy] at hnext
            have hun := huK.set g (s + K) (.bool (!(part R B s K).testBit (s + K))) hgw
            have hbQ2 := hbQ.other g (s + K) (.bool (!(part R B s K).testBit (s + K))) (by simp [Value.ownBlock]; omega)
            generalize (part R B s K).testBit (s + K) = z at *
            have HNX := Lib.hid hnext
            have HUN := Lib.hid hun
            have HBQ2 := Lib.hid hbQ2
            clear hy hnext hun hbQ2 hbQ hbK huK
            go_wp2_with fail
            go_roundw
            case rel => exact ⟨K + 1, by omega, by go_num, HNX.out, HBQ2.out, HUN.out⟩
            case measure => simp [intOf]; omega
          | false =>
            rw [hy] at hc2
            have hnext := hbK
            rw [← part_no R B s K hy] at hnext
            have HNX := Lib.hid hnext
            have HUN := Lib.hid huK
            have HBQ2 := Lib.hid hbQ
            clear hy hnext hbQ hbK huK
            go_wp2_with fail
            go_roundw
            case rel => exact ⟨K + 1, by omega, by go_num, HNX.out, HBQ2.out, HUN.out⟩
            case measure => simp [intOf]; omega
        · have hKe : K = WoolMath.blen B := by omega
          have hnext := hbK
          rw [hKe, part_full R B s _ HLB.out] at hnext
          have dd : decide (K < WoolMath.blen B) = false := by rw [decide_eq_false_iff_not]; omega
          have HNX := Lib.hid hnext
          have HUN := Lib.hid huK
          have HBQ2 := Lib.hid hbQ
          clear hKe hnext hbQ hbK huK
          go_wp2_with fail
          refine (trim_any _ _ _ _ _ (by omega) HK1.out HNX.out).mono ?_
          rintro e w' ⟨ur, rfl, hbu, hou, rfl⟩
          obtain ⟨ou, cu, rfl⟩ := hbu.shape
          have HBU2 := Lib.hid hbu
          have HOU := Lib.hid hou
          clear hbu hou
          go_wp2_with fail
          go_roundw
          case rel =>
            refine ⟨_, _, Nat.le_trans (Nat.le_of_lt HK2.out) hRX, HK3.out, HK4.out, HK5.out, HBU2.out, fun k hk => ?_, HBQ2.out, HUN.out⟩
            have := HOU.out k hk
            simp [Value.ownBlock] at this
            omega
          case measure => exact HK2.out
    · have hr := WoolMath.lt_of_blen R B HB0.out (by omega)
      have e1 := WoolMath.pdiv_of A B Q R HB0.out hAQ hr
      have e2 := WoolMath.pmod_of A B Q R HB0.out hAQ hr
      obtain ⟨oF, cF, rfl⟩ := hbR.shape
      have HBR3 := Lib.hid hbR
      have HBQ3 := Lib.hid hbQ
      have HUR := Lib.hid huR
      have HE1 := Lib.hid e1
      have HE2 := Lib.hid e2
      have HQ := Lib.hid hQ
      have dd : decide (WoolMath.blen B ≤ WoolMath.blen R) = false := by rw [decide_eq_false_iff_not]; omega
      clear hr e1 e2 hbR hbQ huR hAQ hlow hown hQ
      go_wp2_with fail
      refine (trim_any _ _ nq Q _ (by omega) HQ.out HBQ3.out).mono ?_
      rintro e w' ⟨uq, rfl, hbu, _, rfl⟩
      have HBU2 := Lib.hid hbu
      clear hbu
      go_wp2_with fail
      go_ret2
      refine ⟨_, _, rfl, ?_, ?_, HUR.out⟩
      · rw [HE1.out]; exact HBU2.out.weak hs1
      · rw [HE2.out]; exact HBR3.out

end Go.Proofs.Ytidofplebkbbmaa
