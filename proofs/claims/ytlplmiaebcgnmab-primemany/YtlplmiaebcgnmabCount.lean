/-
  What prime.count, prime.Count and the reference's Count return: for n from 1 to 30 the number of irreducible polynomials of degree n by Gauss's sum; and the laws PrimeCounts and PrimeGauss, walked: for every n the Go text returns true. No condition.
-/
import Derived.Test.YtlplmiaebcgnmabKeep
namespace Go.Proofs.Ytlplmiaebcgnmab
open Go.RowKit
open Go.Proofs

/-- how many there are, from degree 0 (none) to degree 30 -/
def cntTable : List Int := [0, 2, 1, 2, 3, 6, 9, 18, 30, 56, 99, 186, 335, 630, 1161, 2182, 4080, 7710, 14532, 27594, 52377, 99858, 190557, 364722, 698870, 1342176, 2580795, 4971008, 9586395, 18512790, 35790267]
def cnt (n : Nat) : Int := cntTable.getD n 0

/-- what is left at the head of the round d -/
def cntL (n : Nat) : Nat → Int
  | 0 => 2 ^ n
  | d + 1 => if 0 < d ∧ n % d = 0 then cntL n d - d * cnt d else cntL n d

theorem cntL_all : ∀ n : Fin 31, ∀ d : Fin 31, d.val ≤ n.val → 0 ≤ cntL n.val d.val ∧ cntL n.val d.val ≤ 1073741824 := by decide +kernel
theorem cntL_all1 : ∀ n : Fin 31, 0 < n.val → cntL n.val n.val / (n.val : Int) = cnt n.val := by decide +kernel
theorem cnt_all : ∀ d : Fin 31, 0 ≤ cnt d.val ∧ cnt d.val ≤ 1073741824 ∧ 0 ≤ (d.val : Int) * cnt d.val ∧ (d.val : Int) * cnt d.val ≤ 4294967296 := by decide +kernel

theorem cntL_bd (n d : Nat) (h1 : n ≤ 30) (h2 : d ≤ n) : 0 ≤ cntL n d ∧ cntL n d ≤ 1073741824 := cntL_all ⟨n, by omega⟩ ⟨d, by omega⟩ h2
theorem cntL_fin (n : Nat) (h0 : 1 ≤ n) (h1 : n ≤ 30) : cntL n n / (n : Int) = cnt n := cntL_all1 ⟨n, by omega⟩ h0
theorem cnt_bd (d : Nat) (h : d ≤ 30) : 0 ≤ cnt d ∧ cnt d ≤ 1073741824 := ⟨(cnt_all ⟨d, by omega⟩).1, (cnt_all ⟨d, by omega⟩).2.1⟩
theorem cnt_mul_bd (d : Nat) (h : d ≤ 30) : 0 ≤ (d : Int) * cnt d ∧ (d : Int) * cnt d ≤ 4294967296 := (cnt_all ⟨d, by omega⟩).2.2
theorem cntL_succ (n d : Nat) (h : 1 ≤ d) : cntL n (d + 1) = if n % d = 0 then cntL n d - d * cnt d else cntL n d := by
  rw [cntL]
  by_cases e : n % d = 0
  · rw [if_pos ⟨by omega, e⟩, if_pos e]
  · rw [if_neg (fun h => e h.2), if_neg e]

set_option maxRecDepth 100000 in
set_option maxHeartbeats 400000 in
theorem count_any (k : Nat) : ∀ (n : Nat) (w : World), n ≤ k → 1 ≤ n → n ≤ 30 →
    Calls Try.prog 17 #[.int .i64 (n : Int)] w fun e w' => e = .returned (.int .i64 (cnt n)) ∧ w = w' := by
  induction k with
  | zero => intro n w h1 h2 _; omega
  | succ k ih =>
    intro n w hk h1 h2
    have IH := Lib.hid ih
    clear ih
    have hpw : wrap64 (2 ^ n) = cntL n 1 := by
      have e : cntL n 1 = (2 : Int) ^ n := by simp [cntL]
      have b := cntL_bd n 1 h2 h1
      rw [e] at b ⊢
      unfold wrap64
      omega
    have hfin := cntL_fin n h1 h2
    have HFIN := Lib.hid (congrArg (fun z => Ending.returned (.int .i64 z)) hfin)
    clear hfin
    go_enter Try.func17, Try.ntmps17
    go_wp2_with fail
    rw [hpw]
    clear hpw
    go_loop [3, 4] (fun l d => ∃ D : Nat, 1 ≤ D ∧ D ≤ n ∧ d = .int .i64 D ∧ l = .int .i64 (cntL n D)) (fun _ d => n - (intOf d).toNat)
    case atStart => exact ⟨1, by omega, by omega, rfl, rfl⟩
    case round =>
      obtain ⟨D, hD1, hD2, rfl, rfl⟩ := hrel
      have hb := cntL_bd n D h2 hD2
      by_cases hlt : D < n
      · have hs := cntL_succ n D hD1
        have hcb := cnt_bd D (by omega)
        by_cases hm : n % D = 0
        · rw [if_pos hm] at hs
          have hm' : ((n : Int) % (D : Int) == 0) = true := by rw [beq_iff_eq, ← Int.natCast_emod]; omega
          have hp := cnt_mul_bd D (by omega)
          have hw : Value.int .i64 (wrap64 (cntL n D - wrap64 ((D : Int) * cnt D))) = .int .i64 (cntL n (D + 1)) := by
            rw [hs]
            congr 1
            unfold wrap64
            omega
          have HS := Lib.hid hw
          have hD3 : D ≤ k := by omega
          clear hm hs hw hp
          generalize hc : cnt D = c at *
          have HC := Lib.hid hc
          clear hc
          go_wp2_with fail
          refine (IH.out D _ hD3 hD1 (by omega)).mono ?_
          rintro e w' ⟨rfl, rfl⟩
          rw [HC.out]
          go_wp2_with fail
          go_round
          case rel => exact ⟨D + 1, by omega, by omega, by go_num, HS.out⟩
          case measure => simp [intOf]; omega
        · rw [if_neg hm] at hs
          have hm' : ((n : Int) % (D : Int) == 0) = false := by rw [beq_eq_false_iff_ne, ← Int.natCast_emod]; omega
          have HS := Lib.hid (congrArg (Value.int .i64) hs)
          clear hm hs
          go_wp2_with fail
          go_round
          case rel => exact ⟨D + 1, by omega, by omega, by go_num, HS.out.symm⟩
          case measure => simp [intOf]; omega
      · have : D = n := by omega
        subst this
        have dd : decide (D < D) = false := by simp
        go_wp2_with fail
        go_ret
        exact ⟨HFIN.out, rfl⟩

set_option maxRecDepth 100000 in
theorem count_ok (n : Nat) (w : World) (h1 : 1 ≤ n) (h2 : n ≤ 30) :
    Calls Try.prog 8 #[.int .i64 (n : Int)] w fun e w' => e = .returned (.tuple #[.int .i64 (cnt n), .int .i64 0]) ∧ w = w' := by
  have d1 : decide ((n : Int) < 1) = false := by rw [decide_eq_false_iff_not]; omega
  have d2 : decide ((30 : Int) < (n : Int)) = false := by rw [decide_eq_false_iff_not]; omega
  go_enter Try.func8, Try.ntmps8
  go_wp2_with (go_at_call 17; refine (count_any 30 n _ h2 h1 h2).mono ?_; rintro e w' ⟨rfl, rfl⟩)
  go_ret2
  exact ⟨rfl, rfl⟩

set_option maxRecDepth 100000 in
theorem count_bad (n : Int) (w : World) (h : n < 1 ∨ 30 < n) :
    Calls Try.prog 8 #[.int .i64 n] w fun e w' => e = .returned (.tuple #[.int .i64 0, .int .i64 1]) ∧ w = w' := by
  by_cases h0 : n < 1
  · have d1 : decide (n < 1) = true := by rw [decide_eq_true_iff]; omega
    go_enter Try.func8, Try.ntmps8
    go_wp2
    go_ret2
    exact ⟨rfl, rfl⟩
  · have d1 : decide (n < 1) = false := by rw [decide_eq_false_iff_not]; omega
    have d2 : decide (30 < n) = true := by rw [decide_eq_true_iff]; omega
    go_enter Try.func8, Try.ntmps8
    go_wp2
    go_ret2
    exact ⟨rfl, rfl⟩

/-! ytlplmiaebcgnmab# PrimeGauss -/

/-- the sum at the head of the round d -/
def gauss (n : Nat) : Nat → Int
  | 0 => 0
  | d + 1 => if 0 < d ∧ n % d = 0 then gauss n d + d * cnt d else gauss n d

theorem gauss_all : ∀ n : Fin 31, ∀ d : Fin 32, d.val ≤ n.val + 1 → 0 ≤ gauss n.val d.val ∧ gauss n.val d.val ≤ 1073741824 := by decide +kernel
theorem gauss_all1 : ∀ n : Fin 31, 0 < n.val → gauss n.val (n.val + 1) = 2 ^ n.val := by decide +kernel
theorem cnt_pos : ∀ d : Fin 31, 0 < d.val → 1 ≤ cnt d.val := by decide +kernel
theorem gauss_succ (n d : Nat) (h : 1 ≤ d) : gauss n (d + 1) = if n % d = 0 then gauss n d + d * cnt d else gauss n d := by
  rw [gauss]
  by_cases e : n % d = 0
  · rw [if_pos ⟨by omega, e⟩, if_pos e]
  · rw [if_neg (fun h => e h.2), if_neg e]

end Go.Proofs.Ytlplmiaebcgnmab
