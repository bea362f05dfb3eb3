/-
  The law TopRabin, walked: for every two numbers and every two texts the Go text returns true; nothing that was there turns. Conditions: a text that came in has at most 2^47 - 4096 bytes.
-/
import Derived.Test.YtidofplebkbbmaaBytes
import Derived.Test.YtidofplebkbbmaaPrime
namespace Go.Proofs.Ytidofplebkbbmaa
open Go.RowKit
open Go.Proofs

theorem prime4179 : WoolMath.Prime 4179 := (WoolMath.isP_iff 4179).1 (by decide +kernel)

theorem fp_eq_iff (M : Nat) (h : 2 ≤ M) (l k : List UInt8) : fp M l = fp M k ↔ WoolMath.dvd M (sp l ^^^ sp k) := WoolMath.pmod_eq_iff _ _ _ (by omega)

theorem crt (p q d : Nat) (hp : WoolMath.Prime p) (hq : WoolMath.Prime q) (hne : p ≠ q) : WoolMath.dvd (WoolMath.mul p q) d ↔ WoolMath.dvd p d ∧ WoolMath.dvd q d := by
  constructor
  · intro h
    exact ⟨WoolMath.dvd_trans (WoolMath.dvd_mul_self p q) h, WoolMath.dvd_trans (WoolMath.dvd_self_mul q p) h⟩
  · rintro ⟨⟨k, rfl⟩, h2⟩
    rcases WoolMath.prime_dvd_mul hq h2 with h | h
    · obtain ⟨j, rfl⟩ := h
      exact ⟨j, by rw [WoolMath.mul_assoc, WoolMath.mul_comm q p]⟩
    · rcases hp.2 q h with h | h
      · have := hq.1; omega
      · exact absurd h.symm hne

theorem begun_any (w : World) :
    Calls Try.prog 42 #[] w fun e w' => e = .returned (.bool true) ∧ Up w w' := by
  go_enter Try.func42, Try.ntmps42
  go_wp2_with fail
  refine (mulN 3 3 _ (by omega) (by omega) (by decide)).mono ?_
  rintro e w1 ⟨rfl, u1⟩
  rw [show WoolMath.mul 3 3 = 5 from by decide]
  go_wp2_with fail
  go_ret
  exact ⟨rfl, u1⟩

set_option maxRecDepth 100000 in
set_option maxHeartbeats 2000000 in
theorem topRabin_walk (a0 a1 : Int) (a2 a3 : ByteArray) (w : World) (_w0 : (Lit.int .i64 a0).wf = true) (_w1 : (Lit.int .i64 a1).wf = true) (w2 : a2.size ≤ 140737488351232) (_w3 : a3.size ≤ 140737488351232) :
    Calls Try.prog 19 #[.int .i64 a0, .int .i64 a1, .string a2, .string a3] w fun e w' => e = .returned (.bool true) ∧ Up w w' := by
  obtain ⟨n, hn⟩ : ∃ n : Nat, n = min a2.size a3.size := ⟨_, rfl⟩
  have hn1 : n ≤ a2.size := by omega
  have hn2 : n ≤ a3.size := by omega
  have hmin : ∀ (ts : Array TypeId) (t : TypeId) (W : World), (Builtin.min_ ts t #[.int .i64 (a2.size : Int), .int .i64 (a3.size : Int)]).run Try.prog W = .ok (.int .i64 (n : Int)) W := by
    intro ts t W
    simp [Builtin.min_, Builtin.min2]
    split <;> omega
  have HES1 := Lib.hid (extract_size a2 n hn1)
  have HES2 := Lib.hid (extract_size a3 n hn2)
  have hnw : n ≤ 140737488351232 := by omega
  clear hn
  go_enter Try.func19, Try.ntmps19
  go_wp2_with fail
  refine (begun_any _).mono ?_
  rintro e v1 ⟨rfl, u1⟩
  go_wp2_with fail
  refine (within_any a0 4096 _ (by omega) (by omega)).mono ?_
  rintro e w' ⟨rfl, rfl⟩
  rw [show (4096 : Int).toNat = 4096 from rfl]
  have hX := within_lt a0 4096 (by omega)
  generalize within a0 4096 = X at *
  obtain ⟨p, hp, hple⟩ := WoolMath.next_exists prime4179 (show 2 + X ≤ 4179 by omega)
  have HP := Lib.hid hp
  have hp2 := hp.1.1
  clear hp
  go_wp2_with fail
  rw [show (2 : Int) + (X : Int) = ((2 + X : Nat) : Int) by omega]
  refine (next_ok (2 + X) p _ HP.out (by omega)).mono ?_
  rintro e v2 ⟨rfl, u2⟩
  go_wp2_with fail
  refine (within_any a1 4096 _ (by omega) (by omega)).mono ?_
  rintro e w' ⟨rfl, rfl⟩
  rw [show (4096 : Int).toNat = 4096 from rfl]
  have hY := within_lt a1 4096 (by omega)
  generalize within a1 4096 = Y at *
  obtain ⟨q, hq, hqle⟩ := WoolMath.next_exists prime4179 (show 2 + Y ≤ 4179 by omega)
  have HQ := Lib.hid hq
  have hq2 := hq.1.1
  clear hq
  go_wp2_with fail
  rw [show (2 : Int) + (Y : Int) = ((2 + Y : Nat) : Int) by omega]
  refine (next_ok (2 + Y) q _ HQ.out (by omega)).mono ?_
  rintro e v3 ⟨rfl, u3⟩
  go_wp2_with fail
  have hml := WoolMath.mul_lt p q 13 12 (by omega) (by omega)
  have hmg : 2 ≤ WoolMath.mul p q := by
    obtain ⟨m1, m2⟩ := WoolMath.mul_log2 p q (by omega) (by omega)
    have e1 := (WoolMath.top_of _ m1).1
    have e2 : 1 ≤ p.log2 := (Nat.le_log2 (by omega)).2 (by omega)
    exact Nat.le_trans (Nat.pow_le_pow_right (n := 2) (by omega) (show 1 ≤ (WoolMath.mul p q).log2 by omega)) e1
  refine (mulN p q _ (by omega) (by omega) (by omega)).mono ?_
  rintro e v4 ⟨rfl, u4⟩
  have hcrt := fun d h => crt p q d HP.out.1 HQ.out.1 h
  have hdp : WoolMath.dvd p (WoolMath.mul p q) := WoolMath.dvd_mul_self p q
  generalize WoolMath.mul p q = M at *
  have HCRT := Lib.hid hcrt
  have HDP := Lib.hid hdp
  clear hcrt hdp hX hY
  go_wp2_with fail
  clear hmin
  go_region
  generalize a2.extract 0 n = S at *
  generalize a3.extract 0 n = T at *
  clear hn1 hn2
  have HU4 := Lib.hid ((((u1.trans u2).trans u3).trans u4).trans (Up.drew _))
  clear u1 u2 u3 u4
  by_cases hl : n ≤ 600
  · have hS : S.size ≤ 600 := by rw [HES1.out]; exact hl
    have hT : T.size ≤ 600 := by rw [HES2.out]; exact hl
    go_wp2_with fail
    refine (of_ok M S _ (by omega) (by omega) hS).mono ?_
    rintro e w5 ⟨rfl, u5⟩
    go_wp2_with fail
    refine (of_ok M T _ (by omega) (by omega) hT).mono ?_
    rintro e w6 ⟨rfl, u6⟩
    go_wp2_with fail
    refine (of_ok p S _ (by omega) (by omega) hS).mono ?_
    rintro e w7 ⟨rfl, u7⟩
    go_wp2_with fail
    refine (of_ok p T _ (by omega) (by omega) hT).mono ?_
    rintro e w8 ⟨rfl, u8⟩
    go_wp2_with fail
    refine (of_ok q S _ (by omega) (by omega) hS).mono ?_
    rintro e w9 ⟨rfl, u9⟩
    go_wp2_with fail
    refine (of_ok q T _ (by omega) (by omega) hT).mono ?_
    rintro e w10 ⟨rfl, u10⟩
    have eM := fp_eq_iff M (by omega) S.data.toList T.data.toList
    have ep := fp_eq_iff p (by omega) S.data.toList T.data.toList
    have eq' := fp_eq_iff q (by omega) S.data.toList T.data.toList
    have h1 : p ≠ q → (fp M S.data.toList = fp M T.data.toList ↔ fp p S.data.toList = fp p T.data.toList ∧ fp q S.data.toList = fp q T.data.toList) := by
      intro hne
      rw [eM, ep, eq']
      exact HCRT.out _ hne
    have h2 : fp M S.data.toList = fp M T.data.toList → fp p S.data.toList = fp p T.data.toList := by
      rw [eM, ep]
      exact fun h => WoolMath.dvd_trans HDP.out h
    clear eM ep eq'
    generalize fp M S.data.toList = x at *
    generalize fp M T.data.toList = y at *
    generalize fp p S.data.toList = u at *
    generalize fp p T.data.toList = v at *
    generalize fp q S.data.toList = r at *
    generalize fp q T.data.toList = z at *
    have HUE := Lib.hid ((((((HU4.out.trans u5).trans u6).trans u7).trans u8).trans u9).trans u10)
    clear u5 u6 u7 u8 u9 u10
    by_cases hpq : p = q
    · have b1 : ((p : Int) != (q : Int)) = false := by subst hpq; simp
      by_cases hxy : x = y
      · have b2 : ((x : Int) != (y : Int)) = false := by subst hxy; simp
        have b3 : ((u : Int) == (v : Int)) = true := by rw [h2 hxy]; exact beq_self_eq_true _
        clear h1 h2 hpq hxy
        go_wp2_with fail
        go_ret
        exact ⟨rfl, HUE.out⟩
      · have b2 : ((x : Int) != (y : Int)) = true := by rw [bne_iff_ne]; omega
        clear h1 h2 hpq hxy
        go_wp2_with fail
        go_ret
        exact ⟨rfl, HUE.out⟩
    · have b1 : ((p : Int) != (q : Int)) = true := by rw [bne_iff_ne]; omega
      have h3 := h1 hpq
      by_cases huv : u = v
      · have b2 : ((u : Int) == (v : Int)) = true := by rw [huv]; exact beq_self_eq_true _
        by_cases hrz : r = z
        · have b3 : ((r : Int) == (z : Int)) = true := by rw [hrz]; exact beq_self_eq_true _
          have b4 : ((x : Int) == (y : Int)) = true := by rw [h3.2 ⟨huv, hrz⟩]; exact beq_self_eq_true _
          clear h1 h2 h3 hpq huv hrz
          go_wp2_with fail
          go_ret
          exact ⟨rfl, HUE.out⟩
        · have b3 : ((r : Int) == (z : Int)) = false := by rw [beq_eq_false_iff_ne]; omega
          have b4 : ((x : Int) == (y : Int)) = false := by
            rw [beq_eq_false_iff_ne]
            intro h
            exact hrz (h3.1 (by omega)).2
          clear h1 h2 h3 hpq huv hrz
          go_wp2_with fail
          go_ret
          exact ⟨rfl, HUE.out⟩
      · have b2 : ((u : Int) == (v : Int)) = false := by rw [beq_eq_false_iff_ne]; omega
        have b4 : ((x : Int) == (y : Int)) = false := by
          rw [beq_eq_false_iff_ne]
          intro h
          exact huv (h3.1 (by omega)).1
        clear h1 h2 h3 hpq huv
        go_wp2_with fail
        go_ret
        exact ⟨rfl, HUE.out⟩
  · have hS : 600 < S.size := by rw [HES1.out]; omega
    have hT : 600 < T.size := by rw [HES2.out]; omega
    go_wp2_with fail
    refine (of_long M S _ (by omega) (by omega) hS).mono ?_
    rintro e w5 ⟨rfl, rfl⟩
    go_wp2_with fail
    refine (of_long M T _ (by omega) (by omega) hT).mono ?_
    rintro e w6 ⟨rfl, rfl⟩
    go_wp2_with fail
    refine (of_long p S _ (by omega) (by omega) hS).mono ?_
    rintro e w7 ⟨rfl, rfl⟩
    go_wp2_with fail
    refine (of_long p T _ (by omega) (by omega) hT).mono ?_
    rintro e w8 ⟨rfl, rfl⟩
    go_wp2_with fail
    refine (of_long q S _ (by omega) (by omega) hS).mono ?_
    rintro e w9 ⟨rfl, rfl⟩
    go_wp2_with fail
    refine (of_long q T _ (by omega) (by omega) hT).mono ?_
    rintro e w10 ⟨rfl, rfl⟩
    go_wp2_with fail
    go_ret
    exact ⟨rfl, HU4.out⟩

end Go.Proofs.Ytidofplebkbbmaa
