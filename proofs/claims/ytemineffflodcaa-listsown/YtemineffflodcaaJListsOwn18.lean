/-
  What slices.IndexFunc and ContainsFunc (of texts) and tree.Check return. Conditions: as each says.
-/
import Derived.Test.YtemineffflodcaaJListsOwn17
import Derived.Shelf.Abstract
namespace Go.Proofs.Ytemineffflodcaa
open Go.RowKit
open Go.Proofs
open WoolTree

/-- what is wrong with a list of texts -/
def chkT (l : List (List UInt8)) : Int := if l.length = 0 then 4 else if (decide (32 < l.length) || l.any fun t => decide (64 < t.length)) = true then 2 else 0

theorem chkT_ok {l : List (List UInt8)} (h : chkT l = 0) : 0 < l.length ∧ l.length ≤ 32 ∧ ∀ t ∈ l, t.length ≤ 64 := by
  unfold chkT at h
  split at h
  · cases h
  · split at h
    · cases h
    · rename_i h1 h2
      simp only [Bool.or_eq_true, decide_eq_true_eq, List.any_eq_true, not_or, not_exists, not_and] at h2
      exact ⟨by omega, by omega, fun t ht => by have := h2.2 t ht; omega⟩

theorem chkT_cases (l : List (List UInt8)) : chkT l = 0 ∨ chkT l = 2 ∨ chkT l = 4 := by
  unfold chkT; split
  · simp
  · split <;> simp

def idxT (p : List UInt8 → Bool) (l : List (List UInt8)) : Int := match l.findIdx? p with | some i => (i : Int) | none => -1

theorem idxT_any (p : List UInt8 → Bool) (l : List (List UInt8)) : decide (0 ≤ idxT p l) = l.any p := by
  unfold idxT
  cases h : l.findIdx? p with
  | none =>
    rw [List.findIdx?_eq_none_iff] at h
    have : l.any p = false := by rw [List.any_eq_false]; intro x hx; rw [h x hx]; simp
    rw [this]; rfl
  | some i =>
    rw [List.findIdx?_eq_some_iff_getElem] at h
    obtain ⟨hi, hp, _⟩ := h
    have : l.any p = true := List.any_eq_true.2 ⟨_, List.getElem_mem hi, hp⟩
    rw [this]; simp

def IxTRel (p : List UInt8 → Bool) (l : List (List UInt8)) (w : World) (i : Value) (wr : World) : Prop :=
  ∃ k : Nat, k ≤ l.length ∧ i = .int .i64 k ∧ Up w wr ∧ ∀ j (h : j < l.length), j < k → p l[j] = false

set_option maxRecDepth 100000 in
set_option maxHeartbeats 400000 in
theorem indexT (v : Value) (l : List (List UInt8)) (w : World) (g : Nat) (p : List UInt8 → Bool) (eg : ∀ args w, (callFunc g args).run Try.prog w = .ok (.enter g args) w) (h : Txs w v l)
    (hp : ∀ W t, Calls Try.prog g #[.string (bs t)] W fun e w' => e = .returned (.bool (p t)) ∧ Up W w') :
    Calls Try.prog 60 #[v, .func (.func g) #[] #[]] w fun e w' => e = .returned (.int .i64 (idxT p l)) ∧ Up w w' := by
  obtain ⟨o, c, rfl, h2, h3⟩ := h.slice
  unfold maxLen at h3
  have H4 := Lib.hid h
  have HP := Lib.hid hp
  clear h hp
  obtain ⟨R, hR⟩ : ∃ R, idxT p l = R := ⟨_, rfl⟩
  rw [hR]
  have HR := Lib.hid hR
  clear hR
  go_enter Try.func60, Try.ntmps60
  go_wp2_with fail
  go_loopw [5, 8] (fun _ i wr => IxTRel p l w i wr) (fun _ i _ => l.length - (intOf i).toNat)
  case atStart => exact ⟨0, Nat.zero_le _, rfl, Up.refl w, fun j _ hj => by omega⟩
  case round =>
    obtain ⟨k, hk, rfl, hu, hno⟩ := hrel
    by_cases hlt : k < l.length
    · obtain ⟨b, off, rfl, h5⟩ := (H4.out.up hu).at (fun e => by rw [e] at hlt; simp at hlt)
      have a1 := h5 k hlt
      have hcall := HP.out wr l[k]
      have HU := Lib.hid hu
      have HN := Lib.hid hno
      have d1 : decide (k < l.length) = true := decide_eq_true hlt
      obtain ⟨P, hP⟩ : ∃ P, p l[k] = P := ⟨_, rfl⟩
      rw [hP] at hcall
      have HPP := Lib.hid hP
      generalize l[k] = xt at a1 hcall
      clear h5 hu hno hP
      cases P with
      | true =>
        go_wp2_with (go_at_fn g; refine hcall.mono ?_; rintro e w1 ⟨rfl, u1⟩)
        go_ret
        refine ⟨?_, HU.out.trans u1⟩
        rw [← HR.out]
        unfold idxT
        rw [show l.findIdx? p = some k from List.findIdx?_eq_some_iff_getElem.2 ⟨hlt, HPP.out, fun j hj => by rw [HN.out j (by omega) hj]; simp⟩]
        rfl
      | false =>
        go_wp2_with (go_at_fn g; refine hcall.mono ?_; rintro e w1 ⟨rfl, u1⟩)
        go_roundw
        case rel =>
          refine ⟨k + 1, by omega, by go_num, HU.out.trans u1, fun j hj hjk => ?_⟩
          by_cases e : j = k
          · subst e; exact HPP.out
          · exact HN.out j hj (by omega)
        case measure => simp only [intOf]; omega
    · have d1 : decide (k < l.length) = false := decide_eq_false hlt
      have HN := Lib.hid hno
      clear hno
      go_wp2_with fail
      go_ret
      refine ⟨?_, hu⟩
      rw [← HR.out]
      unfold idxT
      rw [show l.findIdx? p = none from List.findIdx?_eq_none_iff.2 fun x hx => by obtain ⟨i, hi, rfl⟩ := List.getElem_of_mem hx; exact HN.out i hi (by omega)]
      rfl

set_option maxRecDepth 100000 in
theorem containsT (v : Value) (l : List (List UInt8)) (w : World) (g : Nat) (p : List UInt8 → Bool) (eg : ∀ args w, (callFunc g args).run Try.prog w = .ok (.enter g args) w) (h : Txs w v l)
    (hp : ∀ W t, Calls Try.prog g #[.string (bs t)] W fun e w' => e = .returned (.bool (p t)) ∧ Up W w') :
    Calls Try.prog 51 #[v, .func (.func g) #[] #[]] w fun e w' => e = .returned (.bool (l.any p)) ∧ Up w w' := by
  obtain ⟨o, c, hv, hc⟩ := h.slice
  rw [← idxT_any]
  have hcall := indexT v l w g p eg h hp
  generalize idxT p l = R at hcall ⊢
  subst hv
  clear h hp eg hc
  go_enter Try.func51, Try.ntmps51
  go_wp2_with fail
  refine hcall.mono ?_
  rintro e w1 ⟨rfl, u1⟩
  go_wp2_with fail
  go_ret
  exact ⟨rfl, u1⟩

theorem eg_long : ∀ args w, (callFunc 52 args).run Try.prog w = .ok (.enter 52 args) w := enters_of Try.func52 (by kernel_rfl) rfl

set_option maxRecDepth 100000 in
theorem checkT_any (v : Value) (l : List (List UInt8)) (w : World) (h : Txs w v l) :
    Calls Try.prog 36 #[v] w fun e w' => e = .returned (.int .i64 (chkT l)) ∧ Up w w' := by
  obtain ⟨o, c, rfl, hc⟩ := h.slice
  have HC := Lib.hid (containsT _ l w 52 (fun t => decide (64 < t.length)) eg_long h (fun W t => (tooLong_any t W).mono fun _ _ h => ⟨h.1, Up.of_eq h.2⟩))
  obtain ⟨R, hR⟩ : ∃ R, chkT l = R := ⟨_, rfl⟩
  rw [hR]
  unfold chkT at hR
  generalize (l.any fun t => decide (64 < t.length)) = A at *
  generalize l.length = n at *
  clear h hc
  by_cases h0 : n = 0
  · subst h0
    rw [if_pos rfl] at hR
    subst hR
    go_enter Try.func36, Try.ntmps36
    go_wp2_with fail
    go_ret
    exact ⟨rfl, Up.refl _⟩
  · rw [if_neg h0] at hR
    have d0 : ((n : Int) == 0) = false := by rw [beq_eq_false_iff_ne]; omega
    by_cases h1 : 32 < n
    · rw [if_pos (by simp [h1])] at hR
      subst hR
      have d1 : decide ((n : Int) > 32) = true := decide_eq_true (by omega)
      have d2 : decide (32 < (n : Int)) = true := decide_eq_true (by omega)
      clear h0
      go_enter Try.func36, Try.ntmps36
      go_wp2_with fail
      go_ret
      exact ⟨rfl, Up.refl _⟩
    · have d1 : decide ((n : Int) > 32) = false := decide_eq_false (by omega)
      have d2 : decide (32 < (n : Int)) = false := decide_eq_false (by omega)
      rw [show decide (32 < n) = false from decide_eq_false h1, Bool.false_or] at hR
      clear h0
      cases A with
      | true =>
        rw [if_pos rfl] at hR
        subst hR
        go_enter Try.func36, Try.ntmps36
        go_wp2_with fail
        refine HC.out.mono ?_
        rintro e w1 ⟨rfl, u1⟩
        go_wp2_with fail
        go_ret
        exact ⟨rfl, u1⟩
      | false =>
        rw [if_neg (by simp)] at hR
        subst hR
        go_enter Try.func36, Try.ntmps36
        go_wp2_with fail
        refine HC.out.mono ?_
        rintro e w1 ⟨rfl, u1⟩
        go_wp2_with fail
        go_ret
        exact ⟨rfl, u1⟩

end Go.Proofs.Ytemineffflodcaa
