/-
  What the reference's DeltaOf returns, and the walk of the law GammaSays. Conditions: a text of at most 2^47 bytes; one cell of the table deBruijn64tab.
-/
import Derived.Test.YtjbedphofjdfkaaDoorRefGam2
import Derived.Test.YtjbedphofjdfkaaDoorGam3
namespace Go.Proofs.YtjbedphofjdfkaaDoor
open Go.RowKit
open Go.Proofs

set_option maxHeartbeats 2000000 in
theorem rDeltaOf_any (l : List UInt8) (w : World) (hl : l.length ≤ 281474976710656) :
    Calls Tryd.prog 19 #[.string (bs l)] w fun e w' => e = .returned (three (WoolBits.rd l)) ∧ Up w w' := by
  have hsz := bs_size l
  obtain ⟨k, hk⟩ : ∃ k, (WoolBits.rg l).1 = k := ⟨_, rfl⟩
  obtain ⟨u, hu⟩ : ∃ u, (WoolBits.rg l).2.1 = u := ⟨_, rfl⟩
  obtain ⟨x, hx⟩ : ∃ x, (WoolBits.rg l).2.2 = x := ⟨_, rfl⟩
  have HR : Hid (three (WoolBits.rg l) = .tuple #[.int .i64 (k : Int), .int .i64 (u : Int), .int .i64 (x : Int)]) := by
    show three _ = _
    unfold three
    rw [hk, hu, hx]
  have hrd : WoolBits.rd l = if x ≠ 0 then (0, 0, x) else if 31 < k then (0, 0, 2) else if l.length < u + k - 1 then (0, 0, 7) else (WoolBits.val 1 ((l.drop u).take (k - 1)), u + k - 1, 0) := by
    unfold WoolBits.rd
    rw [hk, hu, hx]
  by_cases h0 : x = 0
  · have hp := WoolBits.rg_pos l (by rw [hx]; exact h0)
    have hb := (WoolBits.rg_ok l (by rw [hx]; exact h0)).1
    rw [hk, hu] at hp
    obtain ⟨p1, p2, p3, p4, p5⟩ := hp
    subst h0
    rw [if_neg (by simp)] at hrd
    by_cases h31 : 31 < k
    · rw [if_pos h31] at hrd
      rw [hrd]
      clear hrd hk hu hx hb
      go_enter Tryd.func19, Tryd.ntmps19
      go_wp2_with fail
      refine (rGammaOf_any l _ hl).mono ?_
      rintro e w1 ⟨rfl, u1⟩
      rw [HR.out]
      go_wp2
      go_ret3
      exact ⟨rfl, u1⟩
    · rw [if_neg h31] at hrd
      by_cases hs : l.length < u + k - 1
      · rw [if_pos hs] at hrd
        rw [hrd]
        obtain ⟨n, hn⟩ : ∃ n, l.length = n := ⟨_, rfl⟩
        rw [hn] at hsz hs p5
        have HN := Lib.hid hn
        have hl' : n ≤ 281474976710656 := by omega
        clear hrd hk hu hx hb hn hl
        have hgt : (n : Int) < (u : Int) + (k : Int) - 1 := by omega
        go_enter Tryd.func19, Tryd.ntmps19
        go_wp2_with fail
        refine (rGammaOf_any l _ (by rw [HN.out]; exact hl')).mono ?_
        rintro e w1 ⟨rfl, u1⟩
        rw [HR.out]
        go_wp2
        go_ret3
        exact ⟨rfl, u1⟩
      · rw [if_neg hs] at hrd
        rw [hrd]
        have hsl := slice_bs l (u : Int) ((u : Int) + (k : Int) - 1) u (u + k - 1) rfl (by omega) (by omega) (by omega)
        rw [show u + k - 1 - u = k - 1 by omega] at hsl
        obtain ⟨T, hT⟩ : ∃ T, (l.drop u).take (k - 1) = T := ⟨_, rfl⟩
        have hTb : WoolBits.isB T = true := by rw [← hT]; exact WoolBits.isB_take _ _ (WoolBits.isB_drop _ _ hb)
        have hTl : T.length = k - 1 := by rw [← hT, List.length_take, List.length_drop]; omega
        rw [hT] at hsl ⊢
        obtain ⟨n, hn⟩ : ∃ n, l.length = n := ⟨_, rfl⟩
        rw [hn] at hsz hs p5
        have hto := to_bytes T
        obtain ⟨q, hq⟩ : ∃ q, k - 1 = q := ⟨_, rfl⟩
        rw [hq] at hTl
        rw [hTl] at hto
        have HN := Lib.hid hn
        have HT := Lib.hid hTb
        have HTL := Lib.hid hTl
        have hl' : n ≤ 281474976710656 := by omega
        have hq' : q ≤ 30 := by omega
        have hle : (u : Int) + (k : Int) - 1 ≤ (n : Int) := by omega
        clear hrd hk hu hx hb hn hl hT hTb hTl hq
        go_enter Tryd.func19, Tryd.ntmps19
        go_wp2_with fail
        refine (rGammaOf_any l _ (by rw [HN.out]; exact hl')).mono ?_
        rintro e w1 ⟨rfl, u1⟩
        rw [HR.out]
        go_wp2
        go_loop [8, 41] (ReadRel 1 T) (fun _ t41 => q - (RowKit.intOf t41).toNat)
        case atStart => exact ⟨0, by omega, rfl, rfl⟩
        case round =>
          obtain ⟨j, hj, rfl, rfl⟩ := hrel
          rw [HTL.out] at hj
          have hv := val_small 1 T j HT.out (by omega) (by rw [HTL.out]; omega)
          by_cases hlt2 : j < q
          · have hjl : j < T.length := by rw [HTL.out]; exact hlt2
            have hcell := bworld_cell T w1 j hjl
            have hst := val_take 1 T j hjl
            have hbit := bit_at T j hjl HT.out
            obtain ⟨d, hd⟩ : ∃ d, T[j].toNat = d := ⟨_, rfl⟩
            obtain ⟨V, hV⟩ : ∃ V, WoolBits.val 1 (T.take j) = V := ⟨_, rfl⟩
            rw [hd] at hcell hst hbit
            rw [hV] at hv hst
            rw [hV]
            have HST := Lib.hid hst
            have hand := and_one_u8 d hbit
            have hc2 : d - 48 ≤ 1 := by omega
            obtain ⟨y, hy⟩ : ∃ y, d - 48 = y := ⟨_, rfl⟩
            rw [hy] at hand HST hc2
            clear hst hd hV hbit hy
            go_wp2
            go_round
            case rel => exact ⟨j + 1, by rw [HTL.out]; omega, by go_num, by rw [HST.out]; go_num⟩
            case measure => simp [intOf]; omega
          · have ht : T.take j = T := List.take_of_length_le (by rw [HTL.out]; omega)
            rw [ht] at hv
            rw [ht]
            clear ht
            go_wp2
            go_ret3
            exact ⟨by unfold three; congr 3; simp; omega, u1.trans (bworld_up _ _)⟩
  · rw [if_pos h0] at hrd
    rw [hrd]
    have hx0 : ((x : Int) == 0) = false := by simp; omega
    have hx1 : ((x : Int) != 0) = true := by simp; omega
    clear hrd hk hu hx h0
    go_enter Tryd.func19, Tryd.ntmps19
    go_wp2_with fail
    refine (rGammaOf_any l _ hl).mono ?_
    rintro e w1 ⟨rfl, u1⟩
    rw [HR.out]
    go_wp2
    go_ret3
    exact ⟨rfl, u1⟩

theorem same_text (s : ByteArray) : (s.toList == s.toList) = true := by simp

set_option maxHeartbeats 2000000 in
set_option maxRecDepth 100000 in
theorem gammaSays_yes (n : Nat) (l : List UInt8) (w : World) (h1 : 1 ≤ n) (h2 : n ≤ 2147483647) (hl : l.length ≤ 140737488351232) (hT : Tab w) :
    Calls Tryd.prog 3 #[.int .i64 (n : Int), .string (bs l)] w fun e w' => e = .returned (.bool true) ∧ Up w w' := by
  have e1 := same_text (bs (WoolBits.gam n))
  have e2 := same_text (bs (WoolBits.del n))
  go_enter Tryd.func3, Tryd.ntmps3
  go_wp2_with fail
  refine (gamma_yes n _ h1 h2 hT).mono ?_
  rintro e w1 ⟨rfl, u1⟩
  go_wp2_with fail
  refine (delta_yes n _ h1 h2 (hT.up u1)).mono ?_
  rintro e w2 ⟨rfl, u2⟩
  have U2 := u1.trans u2
  clear u1 u2
  go_wp2_with fail
  refine (rGamma_any n _ h1 (by omega)).mono ?_
  rintro e w3 ⟨rfl, u3⟩
  have U3 := U2.trans u3
  clear u3 U2
  go_wp2_with fail
  refine (rDelta_any n _ h1 h2).mono ?_
  rintro e w4 ⟨rfl, u4⟩
  have U4 := U3.trans u4
  clear u4 U3 e1 e2
  go_wp2_with fail
  refine (readGamma_any l _ (by omega)).mono ?_
  rintro e w5 ⟨rfl, rfl⟩
  have F1 := Lib.hid (show three (WoolBits.rg l) = .tuple #[.int .i64 ((WoolBits.rg l).1 : Int), .int .i64 ((WoolBits.rg l).2.1 : Int), .int .i64 ((WoolBits.rg l).2.2 : Int)] from rfl)
  have F2 := Lib.hid (show three (WoolBits.rd l) = .tuple #[.int .i64 ((WoolBits.rd l).1 : Int), .int .i64 ((WoolBits.rd l).2.1 : Int), .int .i64 ((WoolBits.rd l).2.2 : Int)] from rfl)
  rw [F1.out]
  generalize (WoolBits.rg l).1 = x1 at *
  generalize (WoolBits.rg l).2.1 = x2 at *
  generalize (WoolBits.rg l).2.2 = x3 at *
  go_wp2_with fail
  refine (readDelta_any l _ (by omega)).mono ?_
  rintro e w5 ⟨rfl, rfl⟩
  rw [F2.out]
  generalize (WoolBits.rd l).1 = y1 at *
  generalize (WoolBits.rd l).2.1 = y2 at *
  generalize (WoolBits.rd l).2.2 = y3 at *
  go_wp2_with fail
  refine (rGammaOf_any l _ (by omega)).mono ?_
  rintro e w5 ⟨rfl, u5⟩
  have U5 := U4.trans u5
  clear u5 U4
  rw [F1.out]
  go_wp2_with fail
  refine (rDeltaOf_any l _ (by omega)).mono ?_
  rintro e w6 ⟨rfl, u6⟩
  have U6 := U5.trans u6
  clear u6 U5
  rw [F2.out]
  go_wp2
  go_ret
  exact ⟨rfl, U6⟩

set_option maxHeartbeats 2000000 in
set_option maxRecDepth 100000 in
theorem gammaSays_no (n : Int) (l : List UInt8) (w : World) (h : n < 1 ∨ 2147483647 < n) (hl : l.length ≤ 140737488351232) :
    Calls Tryd.prog 3 #[.int .i64 n, .string (bs l)] w fun e w' => e = .returned (.bool true) ∧ Up w w' := by
  have H := Lib.hid h
  have HP : ∃ b : Bool, decide (n < 1) = b ∧ (b = false → decide (2147483647 < n) = true) := ⟨_, rfl, fun hb => by
    rw [decide_eq_false_iff_not] at hb; rw [decide_eq_true_iff]; omega⟩
  clear h
  obtain ⟨b, hb1, hb2⟩ := HP
  have HQ : b = true ∨ (b = false ∧ decide (2147483647 < n) = true) := by
    cases b with
    | true => exact .inl rfl
    | false => exact .inr ⟨rfl, hb2 rfl⟩
  clear hb2
  have F1 := Lib.hid (show three (WoolBits.rg l) = .tuple #[.int .i64 ((WoolBits.rg l).1 : Int), .int .i64 ((WoolBits.rg l).2.1 : Int), .int .i64 ((WoolBits.rg l).2.2 : Int)] from rfl)
  have F2 := Lib.hid (show three (WoolBits.rd l) = .tuple #[.int .i64 ((WoolBits.rd l).1 : Int), .int .i64 ((WoolBits.rd l).2.1 : Int), .int .i64 ((WoolBits.rd l).2.2 : Int)] from rfl)
  generalize (WoolBits.rg l).1 = x1 at *
  generalize (WoolBits.rg l).2.1 = x2 at *
  generalize (WoolBits.rg l).2.2 = x3 at *
  generalize (WoolBits.rd l).1 = y1 at *
  generalize (WoolBits.rd l).2.1 = y2 at *
  generalize (WoolBits.rd l).2.2 = y3 at *
  go_enter Tryd.func3, Tryd.ntmps3
  go_wp2_with fail
  refine (gamma_no n _ H.out).mono ?_
  rintro e w1 ⟨rfl, rfl⟩
  rw [show bs [] = ⟨#[]⟩ from rfl]
  go_wp2_with fail
  refine (delta_no n _ H.out).mono ?_
  rintro e w1 ⟨rfl, rfl⟩
  rw [show bs [] = ⟨#[]⟩ from rfl]
  rcases HQ with rfl | ⟨rfl, hgt⟩
  all_goals
    go_wp2_with fail
    refine (readGamma_any l _ (by omega)).mono ?_
    rintro e w5 ⟨rfl, rfl⟩
    rw [F1.out]
    go_wp2_with fail
    refine (readDelta_any l _ (by omega)).mono ?_
    rintro e w5 ⟨rfl, rfl⟩
    rw [F2.out]
    go_wp2_with fail
    refine (rGammaOf_any l _ (by omega)).mono ?_
    rintro e w5 ⟨rfl, u5⟩
    rw [F1.out]
    go_wp2_with fail
    refine (rDeltaOf_any l _ (by omega)).mono ?_
    rintro e w6 ⟨rfl, u6⟩
    have U6 := u5.trans u6
    rw [F2.out]
    go_wp2
    go_ret
    exact ⟨rfl, U6⟩

theorem gammaSays_walk (a0 : Int) (a1 : ByteArray) (w : World) (_w0 : (Lit.int .i64 a0).wf = true) (w1 : a1.size ≤ 140737488351232) (hT : Tab w) :
    Calls Tryd.prog 3 #[.int .i64 a0, .string a1] w fun e w' => e = .returned (.bool true) ∧ Up w w' := by
  rw [← bs_of a1]
  by_cases h : a0 < 1 ∨ 2147483647 < a0
  · exact gammaSays_no a0 a1.data.toList w h (by rw [ba_length]; exact w1)
  · obtain ⟨n, rfl⟩ := Int.eq_ofNat_of_zero_le (show 0 ≤ a0 by omega)
    exact gammaSays_yes n a1.data.toList w (by omega) (by omega) (by rw [ba_length]; exact w1) hT

end Go.Proofs.YtjbedphofjdfkaaDoor
