/-
  What gamma.ReadDelta returns. Condition: a text of at most 2^48 bytes.
-/
import Derived.Test.YtjbedphofjdfkaaDoorGam2
import Derived.Test.YtjbedphofjdfkaaDoorBinM2
namespace Go.Proofs.YtjbedphofjdfkaaDoor
open Go.RowKit
open Go.Proofs

set_option maxHeartbeats 1000000 in
theorem readDelta_any (l : List UInt8) (w : World) (hl : l.length ≤ 281474976710656) :
    Calls Tryd.prog 17 #[.string (bs l)] w fun e w' => e = .returned (three (WoolBits.rd l)) ∧ w = w' := by
  have hsz := bs_size l
  obtain ⟨k, hk⟩ : ∃ k, (WoolBits.rg l).1 = k := ⟨_, rfl⟩
  obtain ⟨u, hu⟩ : ∃ u, (WoolBits.rg l).2.1 = u := ⟨_, rfl⟩
  obtain ⟨x, hx⟩ : ∃ x, (WoolBits.rg l).2.2 = x := ⟨_, rfl⟩
  have HR : Hid (three (WoolBits.rg l) = .tuple #[.int .i64 (k : Int), .int .i64 (u : Int), .int .i64 (x : Int)]) := by
    show three _ = _
    unfold three
    rw [hk, hu, hx]
  have hrd : WoolBits.rd l = if x ≠ 0 then (0, 0, x) else if 31 < k then (0, 0, 2) else if l.length < u + k - 1 then (0, 0, 7) else (WoolBits.val 1 ((l.drop u).take (k - 1)), u + k - 1, 0) := by
    unfold WoolBits.rd
    rw [hk, hu, hx]
  by_cases h0 : x = 0
  · have hp := WoolBits.rg_pos l (by rw [hx]; exact h0)
    have hb := (WoolBits.rg_ok l (by rw [hx]; exact h0)).1
    rw [hk, hu] at hp
    obtain ⟨p1, p2, p3, p4, p5⟩ := hp
    subst h0
    rw [if_neg (by simp)] at hrd
    by_cases h31 : 31 < k
    · rw [if_pos h31] at hrd
      rw [hrd]
      clear hrd hk hu hx hb
      go_enter Tryd.func17, Tryd.ntmps17
      go_wp2_with fail
      refine (readGamma_any l _ hl).mono ?_
      rintro e w1 ⟨rfl, rfl⟩
      rw [HR.out]
      go_wp2
      go_ret3
      exact ⟨rfl, rfl⟩
    · rw [if_neg h31] at hrd
      by_cases hs : l.length < u + k - 1
      · rw [if_pos hs] at hrd
        rw [hrd]
        obtain ⟨n, hn⟩ : ∃ n, l.length = n := ⟨_, rfl⟩
        rw [hn] at hsz hs p5
        have HN := Lib.hid hn
        have hl' : n ≤ 281474976710656 := by omega
        clear hrd hk hu hx hb hn hl
        go_enter Tryd.func17, Tryd.ntmps17
        go_wp2_with fail
        refine (readGamma_any l _ (by rw [HN.out]; exact hl')).mono ?_
        rintro e w1 ⟨rfl, rfl⟩
        rw [HR.out]
        have hgt : (n : Int) < (u : Int) + (k : Int) - 1 := by omega
        go_wp2
        go_ret3
        exact ⟨rfl, rfl⟩
      · rw [if_neg hs] at hrd
        rw [hrd]
        have hsl := slice_bs l (u : Int) ((u : Int) + (k : Int) - 1) u (u + k - 1) rfl (by omega) (by omega) (by omega)
        rw [show u + k - 1 - u = k - 1 by omega] at hsl
        obtain ⟨T, hT⟩ : ∃ T, (l.drop u).take (k - 1) = T := ⟨_, rfl⟩
        have hTb : WoolBits.isB T = true := by rw [← hT]; exact WoolBits.isB_take _ _ (WoolBits.isB_drop _ _ hb)
        have hTl : T.length ≤ 31 := by rw [← hT, List.length_take]; omega
        rw [hT] at hsl ⊢
        obtain ⟨n, hn⟩ : ∃ n, l.length = n := ⟨_, rfl⟩
        rw [hn] at hsz hs p5
        have HN := Lib.hid hn
        have HT := Lib.hid hTb
        have HTL := Lib.hid hTl
        have hl' : n ≤ 281474976710656 := by omega
        clear hrd hk hu hx hb hn hl hT hTb hTl
        have hgt : (u : Int) + (k : Int) - 1 ≤ (n : Int) := by omega
        go_enter Tryd.func17, Tryd.ntmps17
        go_wp2_with fail
        refine (readGamma_any l _ (by rw [HN.out]; exact hl')).mono ?_
        rintro e w1 ⟨rfl, rfl⟩
        rw [HR.out]
        go_wp2_with fail
        refine (value_any 1 T _ (by omega) HTL.out HT.out).mono ?_
        rintro e w3 ⟨rfl, rfl⟩
        go_wp2
        go_ret3
        exact ⟨by unfold three; congr 3; simp; omega, rfl⟩
  · rw [if_pos h0] at hrd
    rw [hrd]
    have hx0 : ((x : Int) == 0) = false := by simp; omega
    have hx1 : ((x : Int) != 0) = true := by simp; omega
    clear hrd hk hu hx h0
    go_enter Tryd.func17, Tryd.ntmps17
    go_wp2_with fail
    refine (readGamma_any l _ hl).mono ?_
    rintro e w1 ⟨rfl, rfl⟩
    rw [HR.out]
    go_wp2
    go_ret3
    exact ⟨rfl, rfl⟩

end Go.Proofs.YtjbedphofjdfkaaDoor
