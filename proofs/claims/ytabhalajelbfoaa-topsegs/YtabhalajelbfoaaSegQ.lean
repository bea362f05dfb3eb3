/-
  What Live of package seg, slices.Min and slices.Index of ints return. Conditions: as each says.
-/
import Derived.Test.YtabhalajelbfoaaSegO
namespace Go.Proofs.Ytabhalajelbfoaa
open Go.RowKit
open Go.Proofs
open WoolBag
open WoolSeg

/-! ytabhalajelbfoaa# Min, Index -/

def MnRel (A : List Nat) (w : World) (m i : Value) (wr : World) : Prop :=
  ∃ k q : Nat, ∃ (hk : k ≤ A.length) (hq : q < k), i = .int .i64 (k : Int) ∧ m = .int .i64 ((A[q]'(by omega) : Nat) : Int) ∧ Up w wr ∧ ∀ j (hj : j < k), A[q]'(by omega) ≤ A[j]'(by omega)

set_option maxRecDepth 100000 in
set_option maxHeartbeats 1000000 in
theorem minN_any (v : Value) (A : List Nat) (w : World) (h : Ns w v A) (h0 : A ≠ []) (hm : A.length ≤ 16) (hs : ∀ n ∈ A, n ≤ 1000000) :
    Calls Try.prog 30 #[v] w fun e w' => e = .returned (.int .i64 ((A[least A]?.getD 0 : Nat) : Int)) ∧ Up w w' := by
  have HX := Lib.hid h
  have hpos := List.length_pos_iff.2 h0
  obtain ⟨o, c, rfl, h2, h3⟩ := h.slice
  unfold maxLen at h3
  obtain ⟨b, off, rfl, hat⟩ := h.at h0
  have HAT := Lib.hid hat
  obtain ⟨hl1, hl2, hl3⟩ := least_spec h0
  have HFIN : Hid (∀ q (hq : q < A.length), (∀ j (hj : j < A.length), A[q] ≤ A[j]) → A[q] = A[least A]?.getD 0) := fun q hq hle => by
    rw [List.getElem?_eq_getElem hl1, Option.getD_some]
    have h4 := hle _ hl1
    have h5 := hl2 q hq
    omega
  have HS := Lib.hid hs
  obtain ⟨F, hF⟩ : ∃ F, A[least A]?.getD 0 = F := ⟨_, rfl⟩
  rw [hF] at HFIN ⊢
  have a0 := hat 0 hpos
  have d0 : decide ((A.length : Int) < 1) = false := decide_eq_false (by omega)
  obtain ⟨n, hn⟩ : ∃ n, A.length = n := ⟨_, rfl⟩
  have HN := Lib.hid hn
  rw [hn] at hpos hm h2 d0 ⊢
  rw [Nat.add_zero] at a0
  have HP0 : Hid (0 < A.length) := by show _ < _; omega
  obtain ⟨q0, hq0⟩ : ∃ q0, A[0]'HP0.out = q0 := ⟨_, rfl⟩
  rw [hq0] at a0
  have HQ0 := Lib.hid hq0
  clear h h0 hat hl3 hl2 hl1 hs hF hn hq0
  go_enter Try.func30, Try.ntmps30
  go_wp2_with fail
  go_loopw [3, 4] (fun m i wr => MnRel A w m i wr) (fun _ i _ => n - (intOf i).toNat)
  case atStart =>
    refine ⟨1, 0, HP0.out, Nat.one_pos, rfl, (by rw [HQ0.out]), Up.refl w, fun j hj => ?_⟩
    obtain rfl : j = 0 := (by omega)
    exact Nat.le_refl _
  case round =>
    obtain ⟨k, q, hk, hq, rfl, rfl, hu, hle⟩ := hrel
    rw [HN.out] at hk
    by_cases hlt : k < n
    · have hkA : k < A.length := by rw [HN.out]; exact hlt
      have ak := HAT.out k hkA
      rw [← hu.cell (World.block_lt_of_cell? w _ ak)] at ak
      have d1 : decide (k < n) = true := decide_eq_true hlt
      have hqA : q < A.length := by omega
      have HNX : Hid (∀ wF, Up wr wF → (A[q] ≤ A[k] → MnRel A w (.int .i64 ((A[q] : Nat) : Int)) (.int .i64 ((k + 1 : Nat) : Int)) wF) ∧ (A[k] ≤ A[q] → MnRel A w (.int .i64 ((A[k] : Nat) : Int)) (.int .i64 ((k + 1 : Nat) : Int)) wF)) := fun wF hF => by
        refine ⟨fun h => ⟨k + 1, q, by omega, by omega, rfl, rfl, hu.trans hF, fun j hj => ?_⟩, fun h => ⟨k + 1, k, by omega, by omega, rfl, rfl, hu.trans hF, fun j hj => ?_⟩⟩
        · rcases Nat.lt_or_ge j k with h1 | h1
          · exact hle j h1
          · obtain rfl : j = k := by omega
            exact h
        · rcases Nat.lt_or_ge j k with h1 | h1
          · exact Nat.le_trans h (hle j h1)
          · obtain rfl : j = k := by omega
            exact Nat.le_refl _
      obtain ⟨x, hx⟩ : ∃ x, A[q] = x := ⟨_, rfl⟩
      obtain ⟨y, hy⟩ : ∃ y, A[k] = y := ⟨_, rfl⟩
      rw [hx, hy] at HNX
      rw [hy] at ak
      rw [hx]
      clear hle hx hy hu
      by_cases hxy : x ≤ y
      · have HM := Lib.hid ((HNX.out wr (Up.refl _)).1 hxy)
        have hmn : min (x : Int) (y : Int) = (x : Int) := by omega
        go_wp2_with fail
        go_roundw
        case rel => have := HM.out; simpa using this
        case measure => simp only [intOf]; omega
      · have HM := Lib.hid ((HNX.out wr (Up.refl _)).2 (by omega))
        have hmn : min (x : Int) (y : Int) = (y : Int) := by omega
        go_wp2_with fail
        go_roundw
        case rel => have := HM.out; simpa using this
        case measure => simp only [intOf]; omega
    · have d1 : decide (k < n) = false := decide_eq_false hlt
      have hfin := HFIN.out q (by omega) (fun j hj => hle j (by rw [HN.out] at hj; omega))
      rw [hfin]
      clear hle hfin
      go_wp2_with fail
      go_ret
      exact ⟨rfl, hu⟩

set_option maxRecDepth 100000 in
set_option maxHeartbeats 1000000 in
theorem indexN_any (v : Value) (A : List Nat) (m K : Nat) (w : World) (h : Ns w v A) (hK : K < A.length) (hm : A[K] = m) (hf : ∀ j (hj : j < A.length), j < K → A[j] ≠ m) (hl : A.length ≤ 16) :
    Calls Try.prog 29 #[v, .int .i64 ((m : Nat) : Int)] w fun e w' => e = .returned (.int .i64 ((K : Nat) : Int)) ∧ Up w w' := by
  have h0 : A ≠ [] := by rintro rfl; simp at hK
  obtain ⟨o, c, rfl, h2, h3⟩ := h.slice
  unfold maxLen at h3
  obtain ⟨b, off, rfl, hat⟩ := h.at h0
  have HAT := Lib.hid hat
  have HM : Hid (∀ h : K < A.length, A[K] = m) := fun _ => hm
  have HF := Lib.hid hf
  obtain ⟨n, hn⟩ : ∃ n, A.length = n := ⟨_, rfl⟩
  have HN := Lib.hid hn
  rw [hn] at h2 hl ⊢
  have hKn : K < n := by omega
  have HKA := Lib.hid hK
  clear h h0 hat hm hf hn hK
  go_enter Try.func29, Try.ntmps29
  go_wp2_with fail
  go_loopw [5, 8] (fun _ i wr => ∃ k : Nat, k ≤ K ∧ i = .int .i64 (k : Int) ∧ Up w wr) (fun _ i _ => n - (intOf i).toNat)
  case atStart => exact ⟨0, Nat.zero_le _, rfl, Up.refl w⟩
  case round =>
    obtain ⟨k, hk, rfl, hu⟩ := hrel
    have hkA : k < A.length := by have := HKA.out; omega
    have hkn : k < n := by omega
    have ak := HAT.out k hkA
    rw [← hu.cell (World.block_lt_of_cell? w _ ak)] at ak
    have d1 : decide (k < n) = true := decide_eq_true hkn
    by_cases e : k = K
    · subst e
      rw [HM.out hkA] at ak
      clear d1
      have d1 : decide (k < n) = true := decide_eq_true hkn
      go_wp2_with fail
      go_ret
      exact ⟨rfl, hu⟩
    · have hne := HF.out k hkA (by omega)
      generalize A[k] = y at ak hne
      have d2 : ((m : Int) == (y : Int)) = false := by rw [beq_eq_false_iff_ne]; omega
      have d3 : (m == y) = false := by rw [beq_eq_false_iff_ne]; omega
      go_wp2_with fail
      go_roundw
      case rel => exact ⟨k + 1, by omega, by go_num, hu⟩
      case measure => simp only [intOf]; omega

end Go.Proofs.Ytabhalajelbfoaa
