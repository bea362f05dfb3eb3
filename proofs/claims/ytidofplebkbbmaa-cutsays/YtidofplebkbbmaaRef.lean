/-
  What the reference's small functions return: Poly, Coef, Num, trim, Prod: polynomials as rows of coefficients. Conditions: as each says (lengths up to 62).
-/
import Derived.Test.YtidofplebkbbmaaKeep
import Derived.OwnWalk
import Derived.Laws.OwnMore
namespace Go.Proofs.Ytidofplebkbbmaa
open Go.RowKit
open Go.Proofs

/-- the coefficients of a number, so many -/
def bitsL (N n : Nat) : List Value := (List.range n).map fun i => .bool (N.testBit i)

theorem bitsL_length (N n : Nat) : (bitsL N n).length = n := by simp [bitsL]
theorem bitsL_get (N n j : Nat) (h : j < n) : (bitsL N n)[j]? = some (.bool (N.testBit j)) := by
  simp [bitsL, h]
theorem bitsL_succ (N n : Nat) : bitsL N (n + 1) = bitsL N n ++ [.bool (N.testBit n)] := by
  simp [bitsL, List.range_succ]
theorem bitsL_take (N n m : Nat) (h : m ≤ n) : (bitsL N n).take m = bitsL N m := by
  unfold bitsL
  rw [← List.map_take, List.take_range, Nat.min_eq_left h]
theorem bitsL_zero (n : Nat) : List.replicate n (Value.bool false) = bitsL 0 n := by
  apply List.ext_getElem?
  intro j
  by_cases h : j < n
  · rw [bitsL_get 0 n j h]; simp [h]
  · rw [List.getElem?_eq_none (by simp; omega), List.getElem?_eq_none (by rw [bitsL_length]; omega)]

theorem bitsL_set (N M n j : Nat) (b : Bool) (h1 : M.testBit j = b) (h2 : ∀ i, i ≠ j → M.testBit i = N.testBit i) : (bitsL N n).set j (.bool b) = bitsL M n := by
  apply List.ext_getElem?
  intro i
  rw [List.getElem?_set]
  by_cases hi : i < n
  · rw [bitsL_get M n i hi]
    by_cases e : j = i
    · subst e; rw [if_pos rfl, if_pos (by rw [bitsL_length]; exact hi), h1]
    · rw [if_neg e, bitsL_get N n i hi, h2 i (fun h => e h.symm)]
  · rw [List.getElem?_eq_none (l := bitsL M n) (by rw [bitsL_length]; omega)]
    by_cases e : j = i
    · subst e; rw [if_pos rfl, if_neg (by rw [bitsL_length]; omega)]
    · rw [if_neg e, List.getElem?_eq_none (by rw [bitsL_length]; omega)]

theorem bitsL_flip (N n j : Nat) : (bitsL N n).set j (.bool (!N.testBit j)) = bitsL (N ^^^ 2 ^ j) n := by
  apply bitsL_set
  · rw [Nat.testBit_xor, Nat.testBit_two_pow]; simp
  · intro i hi; rw [Nat.testBit_xor, Nat.testBit_two_pow]; simp [Ne.symm hi]

theorem bitsL_put (N n j : Nat) : (bitsL N n).set j (.bool true) = bitsL (N ||| 2 ^ j) n := by
  apply bitsL_set
  · rw [Nat.testBit_or, Nat.testBit_two_pow]; simp
  · intro i hi; rw [Nat.testBit_or, Nat.testBit_two_pow]; simp [Ne.symm hi]

theorem boolInfo : (Try.prog.info? 4).map (fun i => (i.zero, i.size, i.bytes)) = some (some (.bool false), 1, 1) := by kernel_rfl

/-- a slice of bools that reads as the coefficients of a number -/
def Bits (w : World) (base : Nat) (v : Value) (n N : Nat) : Prop := w.ownsRow base 4 1 v n (bitsL N n)

theorem Bits.up {w w' : World} {base : Nat} {v : Value} {n N : Nat} (h : Bits w base v n N) (hu : Up w w') : Bits w' base v n N := by
  refine ⟨h.1, ?_⟩
  rcases h.2 with h | ⟨g, cap, cur, h1, h2, h3, h4⟩
  · exact .inl h
  · refine .inr ⟨g, cap, cur, h1, h2, ?_, h4⟩
    have hg : g < w.heap.size := by
      rcases Nat.lt_or_ge g w.heap.size with hlt | hge
      · exact hlt
      · rw [Array.getElem?_eq_none hge] at h3; cases h3
    rw [← h3]; exact hu.block g hg

theorem Bits.weak {w : World} {base b2 : Nat} {v : Value} {n N : Nat} (h : Bits w base v n N) (hb : b2 ≤ base) : Bits w b2 v n N := by
  refine ⟨h.1, ?_⟩
  rcases h.2 with h | ⟨g, cap, cur, h1, h2, h3⟩
  · exact .inl h
  · exact .inr ⟨g, cap, cur, h1, Nat.le_trans hb h2, h3⟩

theorem one_mem (x : Value) (h : x.oneCell' = true) : ∀ u ∈ [x], u.oneCell' = true := by
  intro u hu; rw [List.mem_singleton] at hu; rw [hu]; exact h

/-! ytidofplebkbbmaa# Coef -/

def CoefRel (a0 : Nat) (w : World) (a out : Value) (wr : World) : Prop :=
  ∃ k : Nat, k ≤ WoolMath.blen a0 ∧ a = .int .i64 ((a0 / 2 ^ k : Nat) : Int) ∧ Bits wr w.heap.size out k a0 ∧ Up w wr

def CoefPost (a0 : Nat) (w : World) (e : Ending) (w' : World) : Prop :=
  ∃ v, e = .returned v ∧ Bits w' w.heap.size v (WoolMath.blen a0) a0 ∧ Up w w'

theorem coef_next (a0 k : Nat) (h : 0 < a0 / 2 ^ k) : k < WoolMath.blen a0 := by
  apply Nat.lt_of_not_le
  intro hle
  have := Nat.lt_of_lt_of_le (WoolMath.lt_blen a0) (Nat.pow_le_pow_right (n := 2) (by omega) hle)
  rw [Nat.div_eq_of_lt this] at h
  omega

theorem coef_done (a0 k : Nat) (hk : k ≤ WoolMath.blen a0) (h : a0 / 2 ^ k = 0) : k = WoolMath.blen a0 := by
  have hlt : a0 < 2 ^ k := by
    rcases Nat.lt_or_ge a0 (2 ^ k) with h1 | h1
    · exact h1
    · have := (Nat.le_div_iff_mul_le (Nat.pow_pos (n := k) (show 0 < 2 by omega))).2 (show 1 * 2 ^ k ≤ a0 by omega)
      omega
  have := WoolMath.blen_le a0 k hlt
  omega

theorem grown_up {w wr w' : World} {v : Value} {n : Nat} {xs : List Value} {e : TypeId} (hu : Up w wr) (hown : wr.ownsRow w.heap.size e 1 v n xs) (hg : wr.grownBy w' v.ownBlock) : Up w w' :=
  Below.grown hu hg hu.size (fun k hk => (hown.lt k hk).1)

set_option maxRecDepth 100000 in
set_option maxHeartbeats 400000 in
theorem coef_any (a : Int) (w : World) (h1 : a < 9223372036854775808) :
    Calls Try.prog 52 #[.int .i64 a] w (CoefPost a.toNat w) := by
  obtain ⟨i0, hi, hz0, hz1, hz2⟩ := info_parts boolInfo
  by_cases hneg : a ≤ 0
  · have d : decide ((0 : Int) < a) = false := by rw [decide_eq_false_iff_not]; omega
    go_enter Try.func52, Try.ntmps52
    go_wp2
    refine wp_loop_rounds 1 ?_
    rw [rounds_succ]
    go_wp2
    go_ret
    have e : a.toNat = 0 := by omega
    rw [e]
    exact ⟨_, rfl, World.ownsRow_nil _ _ _ _, Up.refl w⟩
  · obtain ⟨A0, rfl⟩ := Int.eq_ofNat_of_zero_le (show 0 ≤ a by omega)
    rw [Int.toNat_natCast]
    have HI := Lib.hid hi
    have HZ0 := Lib.hid hz0
    have HZ1 := Lib.hid hz1
    have HZ2 := Lib.hid hz2
    clear hi hz0 hz1 hz2
    have hbl := WoolMath.blen_le A0 63 (by omega)
    go_enter Try.func52, Try.ntmps52
    go_wp2_with fail
    go_loopw [0, 3] (fun a out wr => CoefRel A0 w a out wr) (fun a _ _ => (intOf a).toNat)
    case atStart =>
      refine ⟨0, by omega, by simp, ?_, Up.refl w⟩
      exact World.ownsRow_nil _ _ _ _
    case round =>
      obtain ⟨k, hk, rfl, hown, hu⟩ := hrel
      have hd0 : A0 / 2 ^ k ≤ A0 := Nat.div_le_self _ _
      by_cases hz : A0 / 2 ^ k = 0
      · have hkk := coef_done A0 k hk hz
        subst hkk
        rw [hz]
        clear hz
        go_wp2_with fail
        go_ret
        exact ⟨_, rfl, hown, hu⟩
      · have hpos : 0 < A0 / 2 ^ k := Nat.pos_of_ne_zero hz
        have hlt := coef_next A0 k hpos
        have hbit : A0.testBit k = decide (A0 / 2 ^ k % 2 = 1) := Nat.testBit_eq_decide_div_mod_eq ..
        have hdd : A0 / 2 ^ (k + 1) = A0 / 2 ^ k / 2 := by rw [Nat.pow_succ, Nat.div_div_eq_div_mul]
        have hsu := bitsL_succ A0 k
        have HB := Lib.hid hbit
        have HD := Lib.hid hdd
        have HSU := Lib.hid hsu
        have HOWN := Lib.hid hown
        have HU := Lib.hid hu
        clear hbit hdd hsu hown hu
        have hsz := HU.out.size
        clear hz
        generalize A0 / 2 ^ k = Q at *
        have d : decide ((0 : Int) < (Q : Int)) = true := by rw [decide_eq_true_iff]; omega
        go_wp2_with (at_builtin; refine wpList_append_own _ rfl _ _ 69 rfl w.heap.size 4 i0 (.bool false) 1 1 Try.underlying69 HI.out HZ0.out HZ1.out HZ2.out rfl (by decide) _ _ _ rfl (HOWN.out.alloc _) ⟨wr.heap.size, 0, none⟩ 1 1 [.bool ((Q : Int) % 2 == 1)] rfl rfl (cell_one_new _ _ _) (one_mem _ rfl) (by unfold maxLen; omega) (by omega) (by simp; omega) ?_)
        intro v' w1 hown' hgrow _
        have hB : Bits w1 w.heap.size v' (k + 1) A0 := by
          unfold Bits
          rw [HSU.out, HB.out]
          have e : decide (Q % 2 = 1) = ((Q : Int) % 2 == 1) := by
            rw [Bool.eq_iff_iff, decide_eq_true_iff, beq_iff_eq]; omega
          rw [e]
          exact hown'
        have hUp : Up w w1 := grown_up (HU.out.trans (Up.alloc _ _)) (HOWN.out.alloc _) hgrow
        have HBB := Lib.hid hB
        have HUP := Lib.hid hUp
        clear hown' hgrow hB hUp
        go_wp2_with fail
        go_roundw
        case rel => exact ⟨k + 1, by omega, by rw [HD.out]; go_num, HBB.out, HUP.out⟩
        case measure => simp only [intOf]; omega

/-! ytidofplebkbbmaa# Num -/

def NumRel (N n : Nat) (acc i : Value) : Prop := ∃ k : Nat, k ≤ n ∧ i = .int .i64 ((k : Int) - 1) ∧ acc = .int .i64 ((N / 2 ^ k : Nat) : Int)

set_option maxRecDepth 100000 in
set_option maxHeartbeats 400000 in
theorem num_any (v : Value) (base n N : Nat) (w : World) (hn : n ≤ 62) (hN : N < 2 ^ n) (hb : Bits w base v n N) :
    Calls Try.prog 55 #[v] w fun e w' => e = .returned (.int .i64 (N : Int)) ∧ w = w' := by
  have hN62 : N < 2 ^ 62 := Nat.lt_of_lt_of_le hN (Nat.pow_le_pow_right (by omega) hn)
  rcases hb.2 with ⟨rfl, rfl⟩ | ⟨g, cap, cur, rfl, hg, hh, hnc, hcm, hcs, htk⟩
  · have : N = 0 := by simpa using hN
    subst this
    go_enter Try.func55, Try.ntmps55
    go_wp2
    refine wp_loop_rounds 1 ?_
    rw [rounds_succ]
    go_wp2
    go_ret
    exact ⟨rfl, rfl⟩
  · have HB := Lib.hid hb
    have HN := Lib.hid hN
    clear hb hh hcs htk hN hg hcm
    go_enter Try.func55, Try.ntmps55
    go_wp2
    go_loop [3, 4] (fun acc i => NumRel N n acc i) (fun _ i => (intOf i + 1).toNat)
    case atStart => exact ⟨n, Nat.le_refl _, rfl, by rw [Nat.div_eq_of_lt HN.out]; rfl⟩
    case round =>
      obtain ⟨k, hk, rfl, rfl⟩ := hrel
      cases k with
      | zero =>
        rw [Nat.pow_zero, Nat.div_one]
        go_wp2
        go_ret
        exact ⟨rfl, rfl⟩
      | succ k =>
        have hc := (World.ownsRow.cellAt HB.out k (by omega)).trans (bitsL_get N n k (by omega))
        have hbit : N.testBit k = decide (N / 2 ^ k % 2 = 1) := Nat.testBit_eq_decide_div_mod_eq ..
        have hdd : N / 2 ^ (k + 1) = N / 2 ^ k / 2 := by rw [Nat.pow_succ, Nat.div_div_eq_div_mul]
        have hle : N / 2 ^ k ≤ N := Nat.div_le_self _ _
        rw [hbit] at hc
        rw [hdd]
        generalize hQ : N / 2 ^ k = Q at *
        have HQ := Lib.hid hQ
        clear hbit hdd hQ
        have hi : ((k + 1 : Nat) : Int) - 1 = (k : Int) := by omega
        rw [hi]
        clear hi
        have hkn : k < n := by omega
        have hQ62 : Q < 4611686018427387904 := by omega
        by_cases hodd : Q % 2 = 1
        · have hd : decide (Q % 2 = 1) = true := by rw [decide_eq_true_iff]; exact hodd
          rw [hd] at hc
          have HO := Lib.hid hodd
          clear hd hodd
          go_wp2
          go_round
          case rel =>
            have := HO.out
            exact ⟨k, by omega, rfl, by rw [HQ.out]; congr 1; omega⟩
          case measure => simp only [intOf]; omega
        · have hd : decide (Q % 2 = 1) = false := by rw [decide_eq_false_iff_not]; exact hodd
          rw [hd] at hc
          have HO := Lib.hid hodd
          clear hd hodd
          go_wp2
          go_round
          case rel =>
            have := HO.out
            exact ⟨k, by omega, rfl, by rw [HQ.out]; congr 1; omega⟩
          case measure => simp only [intOf]; omega

end Go.Proofs.Ytidofplebkbbmaa
