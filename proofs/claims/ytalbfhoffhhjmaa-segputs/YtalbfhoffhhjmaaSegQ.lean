/-
  What Live of package seg, slices.Min and slices.Index of ints return. Conditions: as each says.
-/
import Derived.Test.YtalbfhoffhhjmaaSegO
namespace Go.Proofs.Ytalbfhoffhhjmaa
open Go.RowKit
open Go.Proofs
open WoolBag
open WoolSeg

set_option maxRecDepth 100000 in
set_option maxHeartbeats 2000000 in
theorem live_any (v vb : Value) (l : List (List Rc)) (b : List Itm) (w : World) (h : Sgs w v l) (hb : Items w vb b) (hm : ∀ s ∈ l, s.length ≤ 1000000000000000) :
    Calls Try.prog 9 #[v, vb] w (LivePost w (WoolSeg.live FP l b)) := by
  have HF := Lib.hid (find_any' v vb l b w h hb hm)
  have hck := chk_range l
  have HRT : Hid (WoolSeg.chk l = 0 → Right l) := fun e => chk_zero.1 e
  obtain ⟨o, c, rfl, _, _⟩ := h.slice
  obtain ⟨ob, cb, rfl, _⟩ := hb.slice
  obtain ⟨R, hR⟩ : ∃ R, WoolSeg.live FP l b = R := ⟨_, rfl⟩
  rw [hR]
  unfold WoolSeg.live at hR
  unfold findV at HF
  generalize l.length = n at HF ⊢
  generalize b.length = nb at HF ⊢
  obtain ⟨K, hK⟩ : ∃ K, WoolSeg.chk l = K := ⟨_, rfl⟩
  obtain ⟨M, hM⟩ : ∃ M, WoolBag.chk FP b = M := ⟨_, rfl⟩
  rw [hK] at hR HF HRT
  rw [hM] at hR HF
  have HRR := Lib.hid hR
  clear h hb hm hK hM hR hck
  go_enter Try.func9, Try.ntmps9
  go_wp2_with fail
  refine HF.out.mono ?_
  rintro e w1 ⟨v1, rfl, ho1, u1⟩
  have HU1 := Lib.hid u1
  have HO1 := Lib.hid ho1
  have hrr := HRR.out
  obtain ⟨o1, c1, hv1, _, _⟩ := ho1.sgs.slice
  clear u1 ho1
  by_cases hk : K = 0
  · subst hk
    have HRI := Lib.hid (HRT.out rfl)
    by_cases hm : M = 0
    · subst hm
      rw [if_neg (by simp), if_neg (by simp)] at hrr hv1
      have ho := HO1.out
      rw [if_neg (by simp), if_neg (by simp)] at ho ⊢
      have HSZ := Lib.hid (sizes_any v1 (alive b l) w1 ho.sgs (by rw [alive_length]; exact HRI.out.len) (alive_takes HRI.out))
      have HR2 := Lib.hid hrr
      obtain ⟨m1, hm1⟩ : ∃ m1, (alive b l).length = m1 := ⟨_, rfl⟩
      rw [hm1] at hv1
      subst hv1
      clear ho hrr hm1 HO1 HRR
      go_wp2_with fail
      refine HSZ.out.mono ?_
      rintro e w2 ⟨v2, rfl, ho2, u2⟩
      have HO2 : Hid (ONs w2 w.heap.size v2 ((alive b l).map takes)) := own_baseS ho2 HU1.out.size
      have HU2 : Hid (Up w w2) := HU1.out.trans u2
      clear ho2 u2
      go_wp2_with fail
      refine bodyPost_ret (v := .tuple #[v2, .int .i64 0]) (by simp [results, Try.results9, go_sem]) rfl ?_
      rw [← HR2.out]
      exact ⟨_, rfl, HO2.out, HU2.out⟩
    · rw [if_neg (by simp), if_pos hm] at hrr hv1
      rw [if_neg (by simp), if_pos hm]
      have HR2 := Lib.hid hrr
      have d1 : (M != 0) = true := by rw [bne_iff_ne]; exact hm
      subst hv1
      clear hrr HO1 HRR
      go_wp2_with fail
      refine bodyPost_ret (v := .tuple #[.slice none 0 0, .int .i64 M]) (by simp [results, Try.results9, go_sem]) rfl ?_
      rw [← HR2.out]
      exact ⟨_, rfl, ONs.nil _ _, HU1.out⟩
  · rw [if_pos hk] at hrr hv1
    rw [if_pos hk]
    have HR2 := Lib.hid hrr
    have d1 : (K != 0) = true := by rw [bne_iff_ne]; exact hk
    subst hv1
    clear hrr HO1 HRR
    go_wp2_with fail
    refine bodyPost_ret (v := .tuple #[.slice none 0 0, .int .i64 K]) (by simp [results, Try.results9, go_sem]) rfl ?_
    rw [← HR2.out]
    exact ⟨_, rfl, ONs.nil _ _, HU1.out⟩

/-! ytalbfhoffhhjmaa# Min, Index -/

def MnRel (A : List Nat) (w : World) (m i : Value) (wr : World) : Prop :=
  ∃ k q : Nat, ∃ (hk : k ≤ A.length) (hq : q < k), i = .int .i64 (k : Int) ∧ m = .int .i64 ((A[q]'(by omega) : Nat) : Int) ∧ Up w wr ∧ ∀ j (hj : j < k), A[q]'(by omega) ≤ A[j]'(by omega)

set_option maxRecDepth 100000 in
set_option maxHeartbeats 1000000 in
theorem minN_any (v : Value) (A : List Nat) (w : World) (h : Ns w v A) (h0 : A ≠ []) (hm : A.length ≤ 16) (hs : ∀ n ∈ A, n ≤ 1000000) :
    Calls Try.prog 33 #[v] w fun e w' => e = .returned (.int .i64 ((A[least A]?.getD 0 : Nat) : Int)) ∧ Up w w' := by
  have HX := Lib.hid h
  have hpos := List.length_pos_iff.2 h0
  obtain ⟨o, c, rfl, h2, h3⟩ := h.slice
  unfold maxLen at h3
  obtain ⟨b, off, rfl, hat⟩ := h.at h0
  have HAT := Lib.hid hat
  obtain ⟨hl1, hl2, hl3⟩ := least_spec h0
  have HFIN : Hid (∀ q (hq : q < A.length), (∀ j (hj : j < A.length), A[q] ≤ A[j]) → A[q] = A[least A]?.getD 0) := fun q hq hle => by
    rw [List.getElem?_eq_getElem hl1, Option.getD_some]
    have h4 := hle _ hl1
    have h5 := hl2 q hq
    omega
  have HS := Lib.hid hs
  obtain ⟨F, hF⟩ : ∃ F, A[least A]?.getD 0 = F := ⟨_, rfl⟩
  rw [hF] at HFIN ⊢
  have a0 := hat 0 hpos
  have d0 : decide ((A.length : Int) < 1) = false := decide_eq_false (by omega)
  obtain ⟨n, hn⟩ : ∃ n, A.length = n := ⟨_, rfl⟩
  have HN := Lib.hid hn
  rw [hn] at hpos hm h2 d0 ⊢
  rw [Nat.add_zero] at a0
  have HP0 : Hid (0 < A.length) := by show _ < _; omega
  obtain ⟨q0, hq0⟩ : ∃ q0, A[0]'HP0.out = q0 := ⟨_, rfl⟩
  rw [hq0] at a0
  have HQ0 := Lib.hid hq0
  clear h h0 hat hl3 hl2 hl1 hs hF hn hq0
  go_enter Try.func33, Try.ntmps33
  go_wp2_with fail
  go_loopw [3, 4] (fun m i wr => MnRel A w m i wr) (fun _ i _ => n - (intOf i).toNat)
  case atStart =>
    refine ⟨1, 0, HP0.out, Nat.one_pos, rfl, (by rw [HQ0.out]), Up.refl w, fun j hj => ?_⟩
    obtain rfl : j = 0 := (by omega)
    exact Nat.le_refl _
  case round =>
    obtain ⟨k, q, hk, hq, rfl, rfl, hu, hle⟩ := hrel
    rw [HN.out] at hk
    by_cases hlt : k < n
    · have hkA : k < A.length := by rw [HN.out]; exact hlt
      have ak := HAT.out k hkA
      rw [← hu.cell (World.block_lt_of_cell? w _ ak)] at ak
      have d1 : decide (k < n) = true := decide_eq_true hlt
      have hqA : q < A.length := by omega
      have HNX : Hid (∀ wF, Up wr wF → (A[q] ≤ A[k] → MnRel A w (.int .i64 ((A[q] : Nat) : Int)) (.int .i64 ((k + 1 : Nat) : Int)) wF) ∧ (A[k] ≤ A[q] → MnRel A w (.int .i64 ((A[k] : Nat) : Int)) (.int .i64 ((k + 1 : Nat) : Int)) wF)) := fun wF hF => by
        refine ⟨fun h => ⟨k + 1, q, by omega, by omega, rfl, rfl, hu.trans hF, fun j hj => ?_⟩, fun h => ⟨k + 1, k, by omega, by omega, rfl, rfl, hu.trans hF, fun j hj => ?_⟩⟩
        · rcases Nat.lt_or_ge j k with h1 | h1
          · exact hle j h1
          · obtain rfl : j = k := by omega
            exact h
        · rcases Nat.lt_or_ge j k with h1 | h1
          · exact Nat.le_trans h (hle j h1)
          · obtain rfl : j = k := by omega
            exact Nat.le_refl _
      obtain ⟨x, hx⟩ : ∃ x, A[q] = x := ⟨_, rfl⟩
      obtain ⟨y, hy⟩ : ∃ y, A[k] = y := ⟨_, rfl⟩
      rw [hx, hy] at HNX
      rw [hy] at ak
      rw [hx]
      clear hle hx hy hu
      by_cases hxy : x ≤ y
      · have HM := Lib.hid ((HNX.out wr (Up.refl _)).1 hxy)
        have hmn : min (x : Int) (y : Int) = (x : Int) := by omega
        go_wp2_with fail
        go_roundw
        case rel => have := HM.out; simpa using this
        case measure => simp only [intOf]; omega
      · have HM := Lib.hid ((HNX.out wr (Up.refl _)).2 (by omega))
        have hmn : min (x : Int) (y : Int) = (y : Int) := by omega
        go_wp2_with fail
        go_roundw
        case rel => have := HM.out; simpa using this
        case measure => simp only [intOf]; omega
    · have d1 : decide (k < n) = false := decide_eq_false hlt
      have hfin := HFIN.out q (by omega) (fun j hj => hle j (by rw [HN.out] at hj; omega))
      rw [hfin]
      clear hle hfin
      go_wp2_with fail
      go_ret
      exact ⟨rfl, hu⟩

set_option maxRecDepth 100000 in
set_option maxHeartbeats 1000000 in
theorem indexN_any (v : Value) (A : List Nat) (m K : Nat) (w : World) (h : Ns w v A) (hK : K < A.length) (hm : A[K] = m) (hf : ∀ j (hj : j < A.length), j < K → A[j] ≠ m) (hl : A.length ≤ 16) :
    Calls Try.prog 32 #[v, .int .i64 ((m : Nat) : Int)] w fun e w' => e = .returned (.int .i64 ((K : Nat) : Int)) ∧ Up w w' := by
  have h0 : A ≠ [] := by rintro rfl; simp at hK
  obtain ⟨o, c, rfl, h2, h3⟩ := h.slice
  unfold maxLen at h3
  obtain ⟨b, off, rfl, hat⟩ := h.at h0
  have HAT := Lib.hid hat
  have HM : Hid (∀ h : K < A.length, A[K] = m) := fun _ => hm
  have HF := Lib.hid hf
  obtain ⟨n, hn⟩ : ∃ n, A.length = n := ⟨_, rfl⟩
  have HN := Lib.hid hn
  rw [hn] at h2 hl ⊢
  have hKn : K < n := by omega
  have HKA := Lib.hid hK
  clear h h0 hat hm hf hn hK
  go_enter Try.func32, Try.ntmps32
  go_wp2_with fail
  go_loopw [5, 8] (fun _ i wr => ∃ k : Nat, k ≤ K ∧ i = .int .i64 (k : Int) ∧ Up w wr) (fun _ i _ => n - (intOf i).toNat)
  case atStart => exact ⟨0, Nat.zero_le _, rfl, Up.refl w⟩
  case round =>
    obtain ⟨k, hk, rfl, hu⟩ := hrel
    have hkA : k < A.length := by have := HKA.out; omega
    have hkn : k < n := by omega
    have ak := HAT.out k hkA
    rw [← hu.cell (World.block_lt_of_cell? w _ ak)] at ak
    have d1 : decide (k < n) = true := decide_eq_true hkn
    by_cases e : k = K
    · subst e
      rw [HM.out hkA] at ak
      clear d1
      have d1 : decide (k < n) = true := decide_eq_true hkn
      go_wp2_with fail
      go_ret
      exact ⟨rfl, hu⟩
    · have hne := HF.out k hkA (by omega)
      generalize A[k] = y at ak hne
      have d2 : ((m : Int) == (y : Int)) = false := by rw [beq_eq_false_iff_ne]; omega
      have d3 : (m == y) = false := by rw [beq_eq_false_iff_ne]; omega
      go_wp2_with fail
      go_roundw
      case rel => exact ⟨k + 1, by omega, by go_num, hu⟩
      case measure => simp only [intOf]; omega

end Go.Proofs.Ytalbfhoffhhjmaa
