/-
  slices.Equal of two slices of texts. Conditions: they can be read.
-/
import Derived.Test.YtnmdfdkagkpcaaaJDiffCopies08
namespace Go.Proofs.Ytnmdfdkagkpcaaa
open Go.RowKit
open Go.Proofs
open WoolTree

theorem txt_eqT (a b : List UInt8) : ((bs a).toList == (bs b).toList) = (a == b) := by
  rw [ByteArray.toList_eq, ByteArray.toList_eq, bs_list, bs_list]

def EqTRel (l m : List (List UInt8)) (w : World) (i : Value) (wr : World) : Prop :=
  ∃ k : Nat, k ≤ l.length ∧ i = .int .i64 (k : Int) ∧ Up w wr ∧ (l == m) = (l.drop k == m.drop k)

set_option maxRecDepth 100000 in
set_option maxHeartbeats 1000000 in
theorem equalT_any (v1 v2 : Value) (l m : List (List UInt8)) (w : World) (hl : l.length ≤ 140737488351232) (h1 : Txs w v1 l) (h2 : Txs w v2 m) :
    Calls Try.prog 11 #[v1, v2] w fun e w' => e = .returned (.bool (l == m)) ∧ Up w w' := by
  have H1 := Lib.hid h1
  have H2 := Lib.hid h2
  obtain ⟨o1, c1, rfl, _, _⟩ := h1.slice
  obtain ⟨o2, c2, rfl, _, _⟩ := h2.slice
  obtain ⟨R, hR⟩ : ∃ R, (l == m) = R := ⟨_, rfl⟩
  rw [hR]
  have HR := Lib.hid hR
  by_cases hlen : l.length = m.length
  · obtain ⟨n, hn⟩ : ∃ n, l.length = n := ⟨_, rfl⟩
    have hm : m.length = n := by omega
    have HN := Lib.hid hn
    have HM := Lib.hid hm
    rw [hn] at H1 hl ⊢
    rw [hm] at H2 ⊢
    have dn : ((n : Int) != (n : Int)) = false := by simp
    clear h1 h2 hR hlen hn hm
    go_enter Try.func11, Try.ntmps11
    go_wp2_with fail
    go_loopw [5, 13] (fun _ i wr => EqTRel l m w i wr) (fun _ i _ => n - (intOf i).toNat)
    case atStart => exact ⟨0, Nat.zero_le _, rfl, Up.refl w, rfl⟩
    case round =>
      obtain ⟨k, hk, rfl, hu, he⟩ := hrel
      have HU := Lib.hid hu
      rw [HR.out] at he
      rw [HN.out] at hk
      by_cases hlt : k < n
      · have d1 : decide (k < n) = true := decide_eq_true hlt
        have hkl : k < l.length := by rw [HN.out]; exact hlt
        have hkm : k < m.length := by rw [HM.out]; exact hlt
        obtain ⟨b1, f1, rfl, g1⟩ := (H1.out.up hu).at (fun e => by rw [e] at hkl; simp at hkl)
        obtain ⟨b2, f2, rfl, g2⟩ := (H2.out.up hu).at (fun e => by rw [e] at hkm; simp at hkm)
        have a1 := g1 k hkl
        have a2 := g2 k hkm
        have q := txt_eqT l[k] m[k]
        rw [List.drop_eq_getElem_cons hkl, List.drop_eq_getElem_cons hkm, List.cons_beq_cons] at he
        obtain ⟨Q, hQ⟩ : ∃ Q, (l[k] == m[k]) = Q := ⟨_, rfl⟩
        rw [hQ] at q he
        generalize l[k] = x at a1 q
        generalize m[k] = y at a2 q
        have HE := Lib.hid he
        clear g1 g2 hu he hQ
        cases Q with
        | true =>
          go_wp2_with fail
          go_quiet (fail)
          go_wp2_with fail
          go_roundw
          case rel => exact ⟨k + 1, hkl, by go_num, HU.out.trans (Up.drewN _ _), by rw [HR.out, HE.out, Bool.true_and]⟩
          case measure => simp only [intOf]; omega
        | false =>
          have HF : Hid (R = false) := by show _ = _; rw [HE.out, Bool.false_and]
          go_wp2_with fail
          go_quiet (fail)
          go_wp2_with fail
          go_ret
          exact ⟨by rw [HF.out]; rfl, HU.out.trans (Up.drewN _ _)⟩
      · have d1 : decide (k < n) = false := decide_eq_false hlt
        rw [List.drop_of_length_le (by rw [HN.out]; omega), List.drop_of_length_le (by rw [HM.out]; omega)] at he
        have HT : Hid (R = true) := by show _ = _; rw [he]; rfl
        clear he hu
        go_wp2_with fail
        go_ret
        exact ⟨by rw [HT.out]; rfl, HU.out⟩
  · have hf : R = false := by
      rw [← hR, beq_eq_false_iff_ne]
      intro e; exact hlen (by rw [e])
    rw [hf]
    have dn : ((l.length : Int) != (m.length : Int)) = true := by rw [bne_iff_ne]; omega
    obtain ⟨n, hn⟩ : ∃ n, l.length = n := ⟨_, rfl⟩
    obtain ⟨q, hq⟩ : ∃ q, m.length = q := ⟨_, rfl⟩
    rw [hn] at dn ⊢
    rw [hq] at dn ⊢
    clear h1 h2 hR hlen hn hq H1 H2 HR hf
    go_enter Try.func11, Try.ntmps11
    go_wp2_with fail
    go_ret
    exact ⟨rfl, Up.refl _⟩

end Go.Proofs.Ytnmdfdkagkpcaaa
