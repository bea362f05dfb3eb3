/-
  What the reference's Prod returns: the row of the product's coefficients. Conditions: rows of at most 64 coefficients.
-/
import Derived.Test.YtidofplebkbbmaaRef2
namespace Go.Proofs.Ytidofplebkbbmaa
open Go.RowKit
open Go.Proofs

theorem mod_succ (A i : Nat) : A % 2 ^ (i + 1) = (A % 2 ^ i) ^^^ (if A.testBit i = true then 2 ^ i else 0) := by
  apply Nat.eq_of_testBit_eq
  intro j
  rw [Nat.testBit_xor, Nat.testBit_mod_two_pow, Nat.testBit_mod_two_pow]
  by_cases h : A.testBit i = true
  · rw [if_pos h, Nat.testBit_two_pow]
    by_cases e : i = j
    · subst e; simp [h]
    · by_cases l : j < i
      · simp [l, e, show j < i + 1 by omega]
      · simp [l, e, show ¬ j < i + 1 by omega]
  · rw [if_neg h, Nat.zero_testBit, Bool.xor_false]
    by_cases e : j = i
    · subst e
      have : A.testBit j = false := by simpa using h
      simp [this]
    · by_cases l : j < i
      · simp [l, show j < i + 1 by omega]
      · simp [l, show ¬ j < i + 1 by omega]

/-- what lies there at the head of the outer round i -/
def acc (A B i : Nat) : Nat := WoolMath.mul (A % 2 ^ i) B
/-- and at the head of the inner round k -/
def acc2 (A B i k : Nat) : Nat := acc A B i ^^^ (if A.testBit i = true then WoolMath.mul (2 ^ i) (B % 2 ^ k) else 0)

theorem acc_zero (A B : Nat) : acc A B 0 = 0 := by
  unfold acc; rw [Nat.pow_zero, Nat.mod_one, WoolMath.zero_mul]
theorem acc2_zero (A B i : Nat) : acc2 A B i 0 = acc A B i := by
  unfold acc2; rw [Nat.pow_zero, Nat.mod_one, WoolMath.mul_zero]; simp
theorem acc2_full (A B i k : Nat) (h : B < 2 ^ k) : acc2 A B i k = acc A B (i + 1) := by
  unfold acc2 acc
  rw [Nat.mod_eq_of_lt h, mod_succ, WoolMath.xor_mul]
  split
  · rfl
  · rw [WoolMath.zero_mul]
theorem acc_full (A B i : Nat) (h : A < 2 ^ i) : acc A B i = WoolMath.mul A B := by
  unfold acc; rw [Nat.mod_eq_of_lt h]
theorem acc2_yes (A B i k : Nat) (h1 : A.testBit i = true) (h2 : B.testBit k = true) : acc2 A B i (k + 1) = acc2 A B i k ^^^ 2 ^ (i + k) := by
  unfold acc2
  rw [if_pos h1, if_pos h1, mod_succ, if_pos h2, WoolMath.mul_xor, Nat.xor_assoc, WoolMath.mul_pow, ← Nat.pow_add]
theorem acc2_no1 (A B i k : Nat) (h1 : A.testBit i = false) : acc2 A B i (k + 1) = acc2 A B i k := by
  unfold acc2; simp [h1]
theorem acc2_no2 (A B i k : Nat) (h2 : B.testBit k = false) : acc2 A B i (k + 1) = acc2 A B i k := by
  unfold acc2
  have : B % 2 ^ (k + 1) = B % 2 ^ k := by rw [mod_succ, if_neg (by simp [h2]), Nat.xor_zero]
  rw [this]

def ProdPost (N : Nat) (w : World) (e : Ending) (w' : World) : Prop :=
  ∃ u, e = .returned u ∧ Bits w' w.heap.size u (WoolMath.blen N) N ∧ Up w w'

theorem Bits.shape {w : World} {base : Nat} {v : Value} {n N : Nat} (h : Bits w base v n N) : ∃ o c, v = .slice o n c := by
  rcases h.2 with ⟨rfl, rfl⟩ | ⟨g, cap, cur, rfl, _⟩
  · exact ⟨_, _, rfl⟩
  · exact ⟨_, _, rfl⟩

theorem Bits.block {w : World} {base : Nat} {v : Value} {n N : Nat} (h : Bits w base v n N) (hn : 0 < n) : ∃ g c, v = .slice (some ⟨g, 0, none⟩) n c ∧ base ≤ g ∧ g < w.heap.size ∧ n ≤ c ∧ c ≤ maxLen := by
  rcases h.2 with ⟨rfl, rfl⟩ | ⟨g, cap, cur, rfl, h2, h3, h4, h5, _⟩
  · omega
  · refine ⟨g, cap, rfl, h2, ?_, h4, h5⟩
    rcases Nat.lt_or_ge g w.heap.size with hlt | hge
    · exact hlt
    · rw [Array.getElem?_eq_none hge] at h3; cases h3

theorem Bits.cell {w : World} {base g n c N : Nat} (h : Bits w base (.slice (some ⟨g, 0, none⟩) n c) n N) (j : Nat) (hj : j < n) : w.cell? ⟨g, j, none⟩ = some (.bool (N.testBit j)) :=
  (World.ownsRow.cellAt h j (by omega)).trans (bitsL_get N n j hj)

/-- one coefficient turned -/
theorem Bits.flip {w : World} {base g n c N : Nat} (h : Bits w base (.slice (some ⟨g, 0, none⟩) n c) n N) (j : Nat) :
    Bits (w.setCell ⟨g, j, none⟩ (.bool (!N.testBit j))) base (.slice (some ⟨g, 0, none⟩) n c) n (N ^^^ 2 ^ j) := by
  have := (World.ownsRow.stored h j (.bool (!N.testBit j))).1
  rw [bitsL_flip] at this
  exact this

theorem Bits.put {w : World} {base g n c N : Nat} (h : Bits w base (.slice (some ⟨g, 0, none⟩) n c) n N) (j : Nat) :
    Bits (w.setCell ⟨g, j, none⟩ (.bool true)) base (.slice (some ⟨g, 0, none⟩) n c) n (N ||| 2 ^ j) := by
  have := (World.ownsRow.stored h j (.bool true)).1
  rw [bitsL_put] at this
  exact this

/-- a row in another block is as it was -/
theorem Bits.other {w : World} {base : Nat} {v : Value} {n N : Nat} (h : Bits w base v n N) (g j : Nat) (u : Value) (hne : v.ownBlock ≠ some g) : Bits (w.setCell ⟨g, j, none⟩ u) base v n N :=
  ownsRow_setCell_other h hne u

theorem Up.set {w wr : World} (h : Up w wr) (g j : Nat) (u : Value) (hg : w.heap.size ≤ g) : Up w (wr.setCell ⟨g, j, none⟩ u) := Below.setCell h hg u

def InRel (A B i : Nat) (w : World) (G n lb : Nat) (k : Value) (wr : World) : Prop :=
  ∃ K : Nat, K ≤ lb ∧ k = .int .i64 K ∧ Bits wr w.heap.size (.slice (some ⟨G, 0, none⟩) n n) n (acc2 A B i K) ∧ Up w wr

def OutRel (A B : Nat) (w : World) (G n la : Nat) (i : Value) (wr : World) : Prop :=
  ∃ I : Nat, I ≤ la ∧ i = .int .i64 I ∧ Bits wr w.heap.size (.slice (some ⟨G, 0, none⟩) n n) n (acc A B I) ∧ Up w wr

set_option maxRecDepth 100000 in
set_option maxHeartbeats 1000000 in
theorem prod_any (va vb : Value) (A B la lb : Nat) (w : World) (hla : la ≤ 64) (hlb : lb ≤ 64) (hA : A < 2 ^ la) (hB : B < 2 ^ lb) (ha : Bits w 0 va la A) (hb : Bits w 0 vb lb B) :
    Calls Try.prog 54 #[va, vb] w (ProdPost (WoolMath.mul A B) w) := by
  obtain ⟨oa, ca, rfl⟩ := ha.shape
  obtain ⟨ob, cb, rfl⟩ := hb.shape
  by_cases h1 : la = 0
  · subst h1
    have : A = 0 := by simpa using hA
    subst this
    rw [WoolMath.zero_mul]
    clear ha hb hA hB
    go_enter Try.func54, Try.ntmps54
    go_wp2
    go_ret
    exact ⟨_, rfl, World.ownsRow_nil _ _ _ _, Up.refl w⟩
  have e1 : ((la : Int) == 0) = false := by rw [beq_eq_false_iff_ne]; omega
  by_cases h2 : lb = 0
  · subst h2
    have : B = 0 := by simpa using hB
    subst this
    rw [WoolMath.mul_zero]
    clear ha hb hA hB h1
    go_enter Try.func54, Try.ntmps54
    go_wp2
    go_ret
    exact ⟨_, rfl, World.ownsRow_nil _ _ _ _, Up.refl w⟩
  have e2 : ((lb : Int) == 0) = false := by rw [beq_eq_false_iff_ne]; omega
  obtain ⟨ga, ca', hsa, _, hga, hca, hca2⟩ := ha.block (by omega)
  obtain ⟨gb, cb', hsb, _, hgb, hcb, hcb2⟩ := hb.block (by omega)
  simp only [Value.slice.injEq, true_and] at hsa hsb
  obtain ⟨rfl, rfl⟩ := hsa
  obtain ⟨rfl, rfl⟩ := hsb
  obtain ⟨i0, hi, hz0, hz1, hz2⟩ := info_parts boolInfo
  obtain ⟨n, hn⟩ : ∃ n : Nat, n + 1 = la + lb := ⟨la + lb - 1, by omega⟩
  have hM : WoolMath.mul A B < 2 ^ n := by
    have := WoolMath.mul_lt A B la (lb - 1) hA (by rw [show lb - 1 + 1 = lb by omega]; exact hB)
    rwa [show la + (lb - 1) = n by omega] at this
  have HI := Lib.hid hi
  have HZ0 := Lib.hid hz0
  have HZ1 := Lib.hid hz1
  have HZ2 := Lib.hid hz2
  have HA := Lib.hid ha
  have HB := Lib.hid hb
  have HLA := Lib.hid hA
  have HLB := Lib.hid hB
  have HM := Lib.hid hM
  have HN := Lib.hid hn
  have hla0 : 0 < la := by omega
  have hlb0 : 0 < lb := by omega
  have hn1 : n ≤ 127 := by omega
  have hn2 : la ≤ n := by omega
  unfold maxLen at hca2 hcb2
  clear hi hz0 hz1 hz2 ha hb hA hB hM hn h1 h2
  go_enter Try.func54, Try.ntmps54
  go_wp2_with (at_make; refine wpList_make_full _ rfl _ _ 69 rfl w.heap.size 4 i0 (.bool false) 1 Try.underlying69 HI.out HZ0.out HZ1.out .i64 .i64 _ _ n rfl rfl (by have := HN.out; omega) (by have := HN.out; omega) (by rw [HZ2.out]; omega) (by unfold maxLen; omega) (Nat.le_refl _) ?_)
  intro w1 hown hgrow
  have hb0 : Bits w1 w.heap.size (.slice (some ⟨w.heap.size, 0, none⟩) n n) n (acc A B 0) := by
    unfold Bits
    rw [acc_zero, ← bitsL_zero]
    first
      | exact hown
      | (rw [← toList_madeCells_one (.bool false) n]; exact hown)
      | (have e : (madeCells (Value.bool false).cells (n * 1)).toList = (madeCells #[.bool false] n).toList := by rw [Nat.mul_one]; rfl
         rw [← toList_madeCells_one (.bool false) n, ← e]; exact hown)
  have hu0 : Up w w1 := Below.grown (Up.refl w) hgrow (Nat.le_refl _) (fun k hk => by cases hk)
  have HB0 := Lib.hid hb0
  have HU0 := Lib.hid hu0
  clear hown hgrow hb0 hu0
  go_wp2_with fail
  go_loopw [27] (fun i wr => OutRel A B w w.heap.size n la i wr) (fun i _ => la - (intOf i).toNat)
  case atStart => exact ⟨0, by omega, rfl, HB0.out, HU0.out⟩
  case round =>
    obtain ⟨I, hI, rfl, hbI, huI⟩ := hrel
    have HBI := Lib.hid hbI
    have HUI := Lib.hid huI
    clear hbI huI
    by_cases hlt : I < la
    · have hc := (HA.out.up HUI.out).cell I hlt
      generalize hx : A.testBit I = x at *
      have HX := Lib.hid hx
      clear hx
      go_wp2_with fail
      go_loopw [34] (fun k wr => InRel A B I w w.heap.size n lb k wr) (fun k _ => lb - (intOf k).toNat)
      case atStart => exact ⟨0, by omega, rfl, by rw [acc2_zero]; exact HBI.out, HUI.out⟩
      case round =>
        obtain ⟨K, hK, rfl, hbK, huK⟩ := hrel
        have HBK := Lib.hid hbK
        have HUK := Lib.hid huK
        clear hbK huK
        by_cases hltk : K < lb
        · have hc2 := (HB.out.up HUK.out).cell K hltk
          have hIK : I + K < n := by have := HN.out; omega
          cases x with
          | true =>
            cases hy : B.testBit K with
            | true =>
              rw [hy] at hc2
              have hc3 := HBK.out.cell (I + K) hIK
              have hfz := World.ownsRow.frozenAt HBK.out (I + K)
              have hnext := HBK.out.flip (I + K)
              rw [← acc2_yes A B I K HX.out hy] at hnext
              have hun := HUK.out.set w.heap.size (I + K) (.bool (!(acc2 A B I K).testBit (I + K))) (Nat.le_refl _)
              generalize (acc2 A B I K).testBit (I + K) = z at *
              have HNX := Lib.hid hnext
              have HUN := Lib.hid hun
              clear hy hnext hun
              go_wp2_with fail
              go_roundw
              case rel => exact ⟨K + 1, by omega, by go_num, HNX.out, HUN.out⟩
              case measure => simp [intOf]; omega
            | false =>
              rw [hy] at hc2
              have hnext := HBK.out
              rw [← acc2_no2 A B I K hy] at hnext
              have HNX := Lib.hid hnext
              clear hy hnext
              go_wp2_with fail
              go_roundw
              case rel => exact ⟨K + 1, by omega, by go_num, HNX.out, HUK.out⟩
              case measure => simp [intOf]; omega
          | false =>
            have hnext := HBK.out
            rw [← acc2_no1 A B I K HX.out] at hnext
            have HNX := Lib.hid hnext
            clear hnext
            go_wp2_with fail
            go_roundw
            case rel => exact ⟨K + 1, by omega, by go_num, HNX.out, HUK.out⟩
            case measure => simp [intOf]; omega
        · have : K = lb := by omega
          subst this
          have hnext := HBK.out
          rw [acc2_full A B I K HLB.out] at hnext
          have HNX := Lib.hid hnext
          have dd : decide (K < K) = false := by simp
          clear hnext
          go_wp2_with fail
          go_roundw
          case rel => exact ⟨I + 1, by omega, by go_num, HNX.out, HUK.out⟩
          case measure => simp [intOf]; omega
    · have : I = la := by omega
      subst this
      have hfin := HBI.out
      rw [acc_full A B I HLA.out] at hfin
      have HFIN := Lib.hid hfin
      have dd : decide (I < I) = false := by simp
      clear hfin
      go_wp2_with fail
      refine (trim_any _ _ n _ _ (by omega) HM.out HFIN.out).mono ?_
      rintro e w' ⟨u, rfl, hbu, _, rfl⟩
      have HBU := Lib.hid hbu
      clear hbu
      go_wp2_with fail
      go_ret
      exact ⟨u, rfl, HBU.out, HUI.out⟩

end Go.Proofs.Ytidofplebkbbmaa
