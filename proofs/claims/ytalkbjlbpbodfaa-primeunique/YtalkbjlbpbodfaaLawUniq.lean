/-
  The law PrimeUnique, walked: for every slice of ints the Go text returns true; nothing that was there turns. No condition.
-/
import Derived.Test.YtalkbjlbpbodfaaSortI
import Derived.OpenShut
namespace Go.Proofs.Ytalkbjlbpbodfaa
open Go.RowKit
open Go.Proofs

/-- a slice of integers that came in: nil, or a row of cells -/
def IsRow (k : IntKind) (w : World) (a : Option Addr) (len cap : Nat) (zs : List Int) : Prop :=
  (a = none ∧ len = 0 ∧ cap = 0 ∧ zs = []) ∨
  ∃ x, a = some x ∧ len ≤ cap ∧ cap ≤ maxLen ∧ zs.length = cap ∧ (∀ i, i < zs.length → w.cell? (x.add i) = some (.int k (zs.getD i 0))) ∧ ∀ n ∈ zs, (Lit.int k n).wf = true

theorem uPrime7 : WoolMath.Prime 7 := WoolMath.prime_of 7 (by decide +kernel)
theorem uPrime67 : WoolMath.Prime 67 := WoolMath.prime_of 67 (by decide +kernel)

theorem factors21 : WoolMath.IsFactors [7, 7] 21 := by
  refine ⟨fun p hp => ?_, by decide, by simp⟩
  simp only [List.mem_cons, List.not_mem_nil, or_false] at hp
  rcases hp with rfl | rfl
  · exact uPrime7
  · exact uPrime7

/-- the primes that have been gathered: their product is a polynomial -/
def UInv (S : List Nat) (P : Nat) : Prop := (∀ p, p ∈ S → WoolMath.Prime p) ∧ WoolMath.prodL S = P ∧ 1 ≤ P ∧ P ≤ 2147483647 ∧ S.length ≤ P.log2

theorem UInv.start : UInv [] 1 := ⟨by simp, rfl, by omega, by omega, by simp⟩

theorem UInv.step {S : List Nat} {P f : Nat} (h : UInv S P) (hf : WoolMath.Prime f) (hm : WoolMath.mul P f ≤ 2147483647) : UInv (S ++ [f]) (WoolMath.mul P f) := by
  obtain ⟨h1, h2, h3, h4, h5⟩ := h
  have f0 := WoolMath.prime_ne hf
  obtain ⟨m1, m2⟩ := WoolMath.mul_log2 P f (by omega) f0
  have hfl : 1 ≤ f.log2 := (Nat.le_log2 f0).2 hf.1
  refine ⟨fun p hp => ?_, ?_, by omega, hm, ?_⟩
  · rw [List.mem_append, List.mem_singleton] at hp
    rcases hp with h | rfl
    · exact h1 p h
    · exact hf
  · rw [WoolMath.prodL_append, WoolMath.prodL_cons, WoolMath.prodL_nil, WoolMath.mul_one, h2]
  · rw [List.length_append, List.length_singleton]; omega

theorem UInv.sorted {S S2 : List Nat} {P : Nat} (h : UInv S P) (hp : S2.Perm S) (hs : S2.Pairwise (· ≤ ·)) : WoolMath.IsFactors S2 P :=
  ⟨fun p hp' => h.1 p (hp.mem_iff.1 hp'), (WoolMath.prodL_perm hp).trans h.2.1, hs⟩

def UniqRel (n : Nat) (w : World) (some_ p i : Value) (wr : World) : Prop :=
  ∃ (K P : Nat) (S : List Nat), K ≤ n ∧ UInv S P ∧ i = .int .i64 K ∧ p = .int .i64 P ∧ Ints wr w.heap.size some_ S ∧ Up w wr

/-- the cells of the argument, later -/
theorem arg_cell {w wr : World} {x : Addr} {zs : List Int} {k : Nat} (hc : ∀ i, i < zs.length → w.cell? (x.add i) = some (.int .i64 (zs.getD i 0))) (hk : k < zs.length) (hu : Up w wr) :
    ∃ b off, x = ⟨b, off, none⟩ ∧ wr.cell? ⟨b, off + k, none⟩ = some (.int .i64 (zs.getD k 0)) := by
  obtain ⟨b, off, spot⟩ := x
  have h0 := hc 0 (by omega)
  have hspot : spot = none := by simpa [Addr.add] using World.cell?_spot h0
  subst hspot
  refine ⟨b, off, rfl, ?_⟩
  have hk' := hc k hk
  have ea : (⟨b, off, none⟩ : Addr).add k = ⟨b, off + k, none⟩ := by
    unfold Addr.add
    split
    · rename_i h; subst h; simp
    · rfl
  rw [ea] at hk'
  rw [← hk']
  exact hu.cell (World.block_lt_of_cell? w _ hk')

set_option maxRecDepth 100000 in
set_option maxHeartbeats 1000000 in
theorem primeUnique_walk (a0 : Option Addr) (len0 cap0 : Nat) (z0 : List Int) (w : World) (w0 : IsRow .i64 w a0 len0 cap0 z0) :
    Calls Try.prog 3 #[.slice a0 len0 cap0] w fun e w' => e = .returned (.bool true) ∧ Up w w' := by
  obtain ⟨i0, hi, hz0, hz1, hz2⟩ := info_parts intInfo
  have HI := Lib.hid hi
  have HZ0 := Lib.hid hz0
  have HZ1 := Lib.hid hz1
  have HZ2 := Lib.hid hz2
  have hcap : len0 ≤ cap0 ∧ cap0 ≤ 9223372036854775807 := by
    rcases w0 with ⟨_, rfl, rfl, _⟩ | ⟨x, _, h1, h2, _⟩
    · exact ⟨Nat.le_refl _, by omega⟩
    · unfold maxLen at h2; exact ⟨h1, by omega⟩
  obtain ⟨hlc, hcm⟩ := hcap
  have W0 := Lib.hid w0
  clear hi hz0 hz1 hz2 w0
  go_enter Try.func3, Try.ntmps3
  go_wp2_with fail
  refine (factors_ok 21 _ (by omega) (by omega)).mono ?_
  rintro e w1 ⟨v, l0, hfac, hl30, rfl, hints, u1⟩
  obtain rfl := WoolMath.factors_unique hfac factors21
  have HINTS := Lib.hid hints
  clear hfac hints
  go_wp2_with fail
  have hlit : Ints (w1.alloc (.cells #[.int .i64 7, .int .i64 7] 3)) 0 (.slice (some ⟨w1.heap.size, 0, none⟩) 2 2) [7, 7] :=
    World.ownsRow_lit w1 _ 2 (Nat.zero_le _) (by unfold maxLen; omega) rfl
  refine (equal_yes _ _ _ _ [7, 7] _ (by simp) (HINTS.out.up (Up.alloc _ _)) hlit).mono ?_
  rintro e w2 ⟨rfl, u2⟩
  have HU := Lib.hid ((u1.trans (Up.alloc _ _)).trans u2)
  clear hlit u1 u2 HINTS
  go_wp2_with fail
  go_loopw [5, 6, 28] (fun s p i wr => UniqRel len0 w2 s p i wr) (fun _ _ i _ => len0 - (intOf i).toNat)
  case atStart => exact ⟨0, 1, [], by omega, UInv.start, rfl, rfl, Ints.nil _ _, Up.refl _⟩
  case round =>
    obtain ⟨K, P, S, hK, hinv, rfl, rfl, hints, hu⟩ := hrel
    have hP1 := hinv.2.2.1
    have hP2 := hinv.2.2.2.1
    have hS30 : S.length ≤ 30 := Nat.le_trans hinv.2.2.2.2 (log2_le30 P (by omega) hP2)
    have HINV := Lib.hid hinv
    have HINTS := Lib.hid hints
    have HUR := Lib.hid hu
    clear hinv hints hu
    by_cases hlt : K < len0
    · rcases W0.out with ⟨rfl, rfl, rfl, rfl⟩ | ⟨x, rfl, _, _, hzl, hcell, _⟩
      · omega
      obtain ⟨b, off, rfl, hc⟩ := arg_cell hcell (show K < z0.length by omega) (HU.out.trans HUR.out)
      generalize z0.getD K 0 = z at *
      clear hcell
      have hltI : (K : Int) < (len0 : Int) := by omega
      go_wp2_with fail
      refine (less_any _ 6 _ (by omega)).mono ?_
      rintro e w' ⟨rfl, rfl⟩
      have hX : within z (2 ^ 6) < 64 := within_lt z (2 ^ 6) (by omega)
      generalize within z (2 ^ 6) = X at *
      go_wp2_with fail
      rw [show (2 : Int) + (X : Int) = ((2 + X : Nat) : Int) by omega]
      obtain ⟨f, hf, hfl⟩ := WoolMath.next_exists uPrime67 (show 2 + X ≤ 67 by omega)
      refine (next_ok _ f _ hf (by omega)).mono ?_
      rintro e w3 ⟨rfl, u3⟩
      have HF := Lib.hid hf.1
      have hf0 : 0 < f := by have := hf.1.1; omega
      have HINTS3 := Lib.hid (HINTS.out.up u3)
      have HU3 := Lib.hid (HUR.out.trans u3)
      clear hf u3 hX
      by_cases hm : WoolMath.mul P f ≤ 2147483647
      · go_wp2_with fail
        refine (mulN P f _ hP2 (by omega) hm).mono ?_
        rintro e w4 ⟨rfl, u4⟩
        have HINTS4 := Lib.hid (HINTS3.out.up u4)
        have HU4 := Lib.hid (HU3.out.trans u4)
        have HST := Lib.hid (HINV.out.step HF.out hm)
        have hs4 := HU4.out.size
        clear u4
        generalize WoolMath.mul P f = Q at *
        go_wp2_with (at_builtin; refine wpList_append_own _ rfl _ _ 22 rfl w2.heap.size 3 i0 (.int .i64 0) 1 8 Try.underlying22 HI.out HZ0.out HZ1.out HZ2.out rfl (by decide) _ _ _ rfl (World.ownsRow.alloc HINTS4.out _) ⟨w4.heap.size, 0, none⟩ 1 1 [.int .i64 (f : Int)] rfl rfl (cell_one_new _ _ _) (one_mem' _ rfl) (by unfold maxLen; omega) (by omega) (by simp; omega) ?_)
        intro v' w5 hown' hgrow _
        have hB : Ints w5 w2.heap.size v' (S ++ [f]) := by
          unfold Ints
          rw [intL_snoc, List.length_append]
          exact hown'
        have hUp : Up w2 w5 := grown_up' (HU4.out.trans (Up.alloc _ _)) (World.ownsRow.alloc HINTS4.out _) hgrow
        have HBB := Lib.hid hB
        have HUP := Lib.hid hUp
        clear hown' hgrow hB hUp
        go_wp2_with fail
        go_roundw
        case rel => exact ⟨K + 1, Q, S ++ [f], by omega, HST.out, by go_num, rfl, HBB.out, HUP.out⟩
        case measure => simp [intOf]; omega
      · have hml : 2147483647 < WoolMath.mul P f := by omega
        go_wp2_with fail
        refine (mul_large _ _ _ (by omega) (by omega) (by omega) (by omega) (by rw [Int.toNat_natCast, Int.toNat_natCast]; exact hml)).mono ?_
        rintro e w4 ⟨rfl, u4⟩
        have HINTS4 := Lib.hid (HINTS3.out.up u4)
        have HU4 := Lib.hid (HU3.out.trans u4)
        clear u4 hml hm
        go_wp2_with fail
        refine (sort_any _ _ S _ (by omega) HINTS4.out).mono ?_
        rintro e w5 ⟨S2, p1, p2, rfl, hints, hgrow⟩
        have hu5 : Up w2 w5 := grown_up' HU4.out HINTS4.out hgrow
        have hfs := HINV.out.sorted p1 p2
        have hl2 := p1.length_eq
        have HI5 := Lib.hid hints
        have HU5 := Lib.hid hu5
        have HFS := Lib.hid hfs
        have hS2 : S2.length ≤ 30 := by omega
        clear hints hgrow hu5 hfs p1 p2 hl2
        go_wp2_with fail
        refine (factors_ok P _ hP1 hP2).mono ?_
        rintro e w6 ⟨v6, l6, hfac, hl6, rfl, hints6, u6⟩
        obtain rfl := WoolMath.factors_unique hfac HFS.out
        have HI6 := Lib.hid hints6
        have HI5' := Lib.hid (HI5.out.up u6)
        clear hfac hints6
        go_wp2_with fail
        refine (equal_yes _ _ _ _ l6 _ (by omega) HI6.out HI5'.out).mono ?_
        rintro e w7 ⟨rfl, u7⟩
        go_wp2_with fail
        go_ret
        exact ⟨rfl, ((HU.out.trans HU5.out).trans u6).trans u7⟩
    · have d : decide (K < len0) = false := by rw [decide_eq_false_iff_not]; omega
      go_wp2_with fail
      refine (sort_any _ _ S _ (by omega) HINTS.out).mono ?_
      rintro e w5 ⟨S2, p1, p2, rfl, hints, hgrow⟩
      have hu5 : Up w2 w5 := grown_up' HUR.out HINTS.out hgrow
      have hfs := HINV.out.sorted p1 p2
      have hl2 := p1.length_eq
      have HI5 := Lib.hid hints
      have HU5 := Lib.hid hu5
      have HFS := Lib.hid hfs
      have hS2 : S2.length ≤ 30 := by omega
      clear hints hgrow hu5 hfs p1 p2 hl2
      go_wp2_with fail
      refine (factors_ok P _ hP1 hP2).mono ?_
      rintro e w6 ⟨v6, l6, hfac, hl6, rfl, hints6, u6⟩
      obtain rfl := WoolMath.factors_unique hfac HFS.out
      have HI6 := Lib.hid hints6
      have HI5' := Lib.hid (HI5.out.up u6)
      clear hfac hints6
      go_wp2_with fail
      refine (equal_yes _ _ _ _ l6 _ (by omega) HI6.out HI5'.out).mono ?_
      rintro e w7 ⟨rfl, u7⟩
      go_wp2_with fail
      go_ret
      exact ⟨rfl, ((HU.out.trans HU5.out).trans u6).trans u7⟩

end Go.Proofs.Ytalkbjlbpbodfaa
