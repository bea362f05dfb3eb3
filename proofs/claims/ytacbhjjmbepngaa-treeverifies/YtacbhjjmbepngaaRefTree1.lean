/-
  The reference's Leaves, span and Root. Conditions: as each says.
-/
import Derived.Test.YtacbhjjmbepngaaLawTree2
import Derived.Test.YtacbhjjmbepngaaRefPrint
namespace Go.Proofs.Ytacbhjjmbepngaa
open Go.RowKit
open Go.Proofs
open WoolTree

theorem refPrintT (l : List UInt8) (w : World) (hs : l.length ≤ 1000) :
    Calls Try.prog 23 #[.int .i64 1073741907, .string (bs l)] w fun e w' => e = .returned (.int .i64 (TH l : Nat)) ∧ Up w w' := by
  have := refPrint_any 1073741907 (bs l) w (by omega) (by omega) (by rw [bs_size]; exact hs)
  rwa [bs_list] at this

def LvsRel (l : List (List UInt8)) (i : Value) : Prop := ∃ k : Nat, k ≤ l.length ∧ i = .int .i64 (k : Int) ∧ (0 < k → l.length ≤ 32) ∧ ∀ j (h : j < l.length), j < k → l[j].length ≤ 64

set_option maxRecDepth 100000 in
set_option maxHeartbeats 1000000 in
theorem refLeaves_any (v : Value) (l : List (List UInt8)) (w : World) (h : Txs w v l) :
    Calls Try.prog 16 #[v] w fun e w' => e = .returned (.int .i64 (chkT l)) ∧ w = w' := by
  have H := Lib.hid h
  obtain ⟨o, c, rfl, _, _⟩ := h.slice
  obtain ⟨n, hn⟩ : ∃ n, l.length = n := ⟨_, rfl⟩
  have HN := Lib.hid hn
  obtain ⟨R, hR⟩ : ∃ R, chkT l = R := ⟨_, rfl⟩
  have HR := Lib.hid hR
  rw [hn] at H ⊢
  rw [hR]
  clear h hn hR
  by_cases h0 : n < 1
  · have d0 : decide ((n : Int) < 1) = true := decide_eq_true (by omega)
    have hr : R = 4 := by rw [← HR.out]; unfold chkT; rw [if_pos (by rw [HN.out]; omega)]
    subst hr
    go_enter Try.func16, Try.ntmps16
    go_wp2_with fail
    go_ret
    exact ⟨rfl, rfl⟩
  · have d0 : decide ((n : Int) < 1) = false := decide_eq_false (by omega)
    go_enter Try.func16, Try.ntmps16
    go_wp2_with fail
    go_loop [4, 10] (fun _ i => LvsRel l i) (fun _ i => n - (intOf i).toNat)
    case atStart => exact ⟨0, Nat.zero_le _, rfl, fun h => by omega, fun j _ h => by omega⟩
    case round =>
      obtain ⟨k, hk, rfl, h32, hok⟩ := hrel
      rw [HN.out] at hk h32
      have HOK := Lib.hid hok
      by_cases hlt : k < n
      · have dk : decide (k < n) = true := decide_eq_true hlt
        have hkl : k < l.length := by rw [HN.out]; exact hlt
        obtain ⟨b, off, rfl, hat⟩ := H.out.at (fun e => by rw [e] at hkl; simp at hkl)
        have q := hat k hkl
        have hsz := bs_size l[k]
        by_cases ht : 64 < l[k].length
        · have hr : R = 2 := by
            rw [← HR.out]; unfold chkT; rw [if_neg (by rw [HN.out]; omega), if_pos]
            rw [Bool.or_eq_true, List.any_eq_true]
            exact .inr ⟨_, List.getElem_mem hkl, decide_eq_true ht⟩
          subst hr
          have d1 : decide ((l[k].length : Int) > 64) = true := decide_eq_true (by omega)
          have d1' : decide (64 < (l[k].length : Int)) = true := decide_eq_true (by omega)
          generalize l[k] = t at *
          generalize t.length = m at *
          clear hat hok h32
          go_wp2_with fail
          go_ret
          exact ⟨rfl, rfl⟩
        · have d1 : decide ((l[k].length : Int) > 64) = false := decide_eq_false (by omega)
          have d1' : decide (64 < (l[k].length : Int)) = false := decide_eq_false (by omega)
          by_cases hn32 : 32 < n
          · have hr : R = 2 := by
              rw [← HR.out]; unfold chkT; rw [if_neg (by rw [HN.out]; omega), if_pos]
              rw [Bool.or_eq_true, HN.out]
              exact .inl (decide_eq_true hn32)
            subst hr
            have d2 : decide ((n : Int) > 32) = true := decide_eq_true (by omega)
            have d2' : decide (32 < (n : Int)) = true := decide_eq_true (by omega)
            generalize l[k] = t at *
            generalize t.length = m at *
            clear hat hok h32
            go_wp2_with fail
            go_ret
            exact ⟨rfl, rfl⟩
          · have d2 : decide ((n : Int) > 32) = false := decide_eq_false (by omega)
            have d2' : decide (32 < (n : Int)) = false := decide_eq_false (by omega)
            have HT : Hid (l[k].length ≤ 64) := by show _ ≤ _; omega
            generalize hte : l[k] = t at *
            generalize hme : t.length = m at *
            clear hat hok h32
            go_wp2_with fail
            go_round
            case rel =>
              refine ⟨k + 1, hkl, by go_num, fun _ => by rw [HN.out]; omega, fun j hj hjk => ?_⟩
              by_cases e : j = k
              · subst e; rw [hte, hme]; exact HT.out
              · exact HOK.out j hj (by omega)
            case measure => simp only [intOf]; omega
      · have dk : decide (k < n) = false := decide_eq_false hlt
        have hr : R = 0 := by
          rw [← HR.out]; exact chkT_of (by rw [HN.out]; omega) (by rw [HN.out]; exact h32 (by omega)) (fun t ht => by obtain ⟨j, hj, rfl⟩ := List.getElem_of_mem ht; exact hok j hj (by rw [HN.out] at hj; omega))
        subst hr
        clear hok h32
        go_wp2_with fail
        go_ret
        exact ⟨rfl, rfl⟩

def SpRel2 (n : Nat) (i : Value) : Prop := ∃ j K : Nat, K = 2 ^ j ∧ K < n ∧ i = .int .i64 (K : Int)

set_option maxRecDepth 100000 in
theorem refSpan_any (n : Nat) (w : World) (h2 : 2 ≤ n) (h32 : n ≤ 32) :
    Calls Try.prog 43 #[.int .i64 (n : Int)] w fun e w' => e = .returned (.int .i64 ((spn n : Nat) : Int)) ∧ w = w' := by
  have HSU := Lib.hid (fun k => spn_unique n k h2)
  generalize spn n = S at *
  go_enter Try.func43, Try.ntmps43
  go_wp2_with fail
  go_loop [3] (fun i => SpRel2 n i) (fun i => n - (intOf i).toNat)
  case atStart => exact ⟨0, 1, rfl, by omega, rfl⟩
  case round =>
    obtain ⟨j, k, hj, hk, rfl⟩ := hrel
    have HJ := Lib.hid hj
    have hj0 : 0 < k := by rw [hj]; exact Nat.pow_pos (by omega)
    clear hj
    by_cases h3 : 2 * k < n
    · have d3 : decide (2 * (k : Int) < (n : Int)) = true := decide_eq_true (by omega)
      go_wp2_with fail
      go_round
      case rel => exact ⟨j + 1, 2 * k, by rw [Nat.pow_succ, ← HJ.out, Nat.mul_comm], h3, by go_num⟩
      case measure => simp only [intOf]; omega
    · have d3 : decide (2 * (k : Int) < (n : Int)) = false := decide_eq_false (by omega)
      have hkK : S = k := by have := HSU.out j (by rw [← HJ.out]; omega) (by rw [← HJ.out]; omega); rw [this, HJ.out]
      subst hkK
      go_wp2_with fail
      go_ret
      exact ⟨rfl, rfl⟩

set_option maxRecDepth 100000 in
set_option maxHeartbeats 2000000 in
theorem refRoot_any : ∀ (n : Nat) (l : List (List UInt8)) (v : Value) (w : World), Txs w v l → chkT l = 0 → l.length ≤ n →
    Calls Try.prog 18 #[v] w fun e w' => e = .returned (.int .i64 ((rtx TH l : Nat) : Int)) ∧ Up w w'
  | 0, l, v, w, h, hE, hn => by
    have := (chkT_ok hE).1
    omega
  | n + 1, l, v, w, h, hE, hn => by
    obtain ⟨h0, h32, hs⟩ := chkT_ok hE
    obtain ⟨o, c, rfl, _, _⟩ := h.slice
    by_cases h1 : l.length ≤ 1
    · obtain ⟨t, rfl⟩ := List.length_eq_one_iff.1 (show l.length = 1 by omega)
      have ht := hs t (by simp)
      obtain ⟨b, off, rfl, hat⟩ := h.at (by simp)
      have q := hat 0 (by simp)
      simp only [List.getElem_cons_zero, Nat.add_zero] at q
      have ha : ∀ v : World, (Op.stringOp .add ⟨#[108]⟩ (bs t)).run Try.prog v = .ok (.string (bs (lf t))) v := add_bs [108] t (by simp; omega)
      have HP := Lib.hid (fun W => refPrintT (lf t) W (by unfold lf; rw [List.length_cons]; omega))
      rw [rtx_one]
      generalize TH (lf t) = N at *
      generalize lf t = P at *
      rw [show [t].length = 1 from rfl]
      clear hat h hE hn h0 h32 hs h1
      go_enter Try.func18, Try.ntmps18
      go_wp2_with fail
      refine (HP.out _).mono ?_
      rintro e w1 ⟨rfl, u1⟩
      go_wp2_with fail
      go_ret
      exact ⟨rfl, u1⟩
    · have h2l : 2 ≤ l.length := by omega
      have s1 := spn_lt l.length h2l
      have s0 := spn_pos l.length
      have HSP := Lib.hid (fun W => refSpan_any l.length W h2l h32)
      obtain ⟨oA, runA, rdA⟩ := h.upto (spn l.length) (by omega)
      obtain ⟨oB, runB, rdB⟩ := h.from (spn l.length) (by omega)
      have t1 : (l.take (spn l.length)).length = spn l.length := by rw [List.length_take]; omega
      have t3 : (l.drop (spn l.length)).length = l.length - spn l.length := List.length_drop
      have HA := Lib.hid (fun W (hW : Up w W) => refRoot_any n (l.take (spn l.length)) _ W (rdA.up hW) (chkT_take hE _ s0 (by omega)) (by omega))
      have HB := Lib.hid (fun W (hW : Up w W) => refRoot_any n (l.drop (spn l.length)) _ W (rdB.up hW) (chkT_drop hE _ (by omega)) (by omega))
      have lt1 := rtx_lt (l.take (spn l.length)) (by omega) (by omega)
      have lt2 := rtx_lt (l.drop (spn l.length)) (by omega) (by omega)
      rw [rtx_halves TH l h2l h32]
      have HSD := Lib.hid (fun W => refSaid_any (rtx TH (l.take (spn l.length))) (rtx TH (l.drop (spn l.length))) W (by omega) (by omega))
      have HP := Lib.hid (fun W => refPrintT (pr (rtx TH (l.take (spn l.length))) (rtx TH (l.drop (spn l.length)))) W (by rw [pr_length]; omega))
      unfold hp
      generalize rtx TH (l.take (spn l.length)) = RA at *
      generalize rtx TH (l.drop (spn l.length)) = RB at *
      generalize TH (pr RA RB) = N at *
      generalize pr RA RB = P at *
      have dm : ((l.length : Int) == 1) = false := by rw [beq_eq_false_iff_ne]; omega
      generalize spn l.length = K at *
      generalize l.length = m at *
      clear h hE hn hs h1 t1 t3 rdA rdB lt1 lt2
      go_enter Try.func18, Try.ntmps18
      go_wp2_with fail
      refine (HSP.out _).mono ?_
      rintro e w1 ⟨rfl, rfl⟩
      go_wp2_with fail
      go_region_held3 (fun _ => True) (trivial) (first
        | (go_at_call 18; ((with_reducible refine (HA.out _ (by first | exact ub | exact Up.drew _)).mono ?_); rintro e w4 ⟨rfl, u4⟩; have ua : Up w w4 := (by first | exact ub.trans u4 | exact (Up.drew _).trans u4)))
        | (go_at_call 18; ((with_reducible refine (HB.out _ (by first | exact ua | exact Up.drew _)).mono ?_); rintro e w5 ⟨rfl, u5⟩; have ub : Up w w5 := (by first | exact ua.trans u5 | exact (Up.drew _).trans u5)))
        | (go_at_call 24; ((with_reducible refine (HSD.out _).mono ?_); rintro e w6 ⟨rfl, u6⟩))
        | (go_at_call 23; ((with_reducible refine (HP.out _).mono ?_); rintro e w7 ⟨rfl, u7⟩)))
      all_goals
        have HUU := Lib.hid (show Up w _ from by first | exact ub.trans (u6.trans u7) | exact ua.trans (u6.trans u7))
        go_wp2_with fail
        go_ret
        exact ⟨rfl, HUU.out⟩

end Go.Proofs.Ytacbhjjmbepngaa
