/-
  The laws CutEven and CutMore, walked: for every text and all numbers the Go text returns true; nothing that was there turns. Conditions: a text that came in has at most 2^47 - 4096 bytes.
-/
import Derived.Test.YtidofplebkbbmaaCut
namespace Go.Proofs.Ytidofplebkbbmaa
open Go.RowKit
open Go.Proofs

theorem endsEven : ends 2 9 0 (⟨#[97, 97, 97, 97, 97]⟩ : ByteArray).data.toList = [2, 4, 5] := by decide +kernel

set_option maxRecDepth 100000 in
set_option maxHeartbeats 1000000 in
theorem cutEven_walk (a0 : ByteArray) (a1 a2 : Int) (w : World) (w0 : a0.size ≤ 140737488351232) (_w1 : (Lit.int .i64 a1).wf = true) (_w2 : (Lit.int .i64 a2).wf = true) :
    Calls Try.prog 17 #[.string a0, .int .i64 a1, .int .i64 a2] w fun e w' => e = .returned (.bool true) ∧ Up w w' := by
  have HE := Lib.hid endsEven
  go_enter Try.func17, Try.ntmps17
  go_wp2_with fail
  refine (ends_ok _ 2 9 0 _ (by decide) (by omega) (by omega) (by omega) (by omega)).mono ?_
  rintro e v1 ⟨v, rfl, hints, u1⟩
  rw [HE.out] at hints
  obtain ⟨o, c, rfl⟩ := hints.shape
  have HINTS := Lib.hid hints
  clear hints
  go_wp2_with fail
  have hlit : Ints (v1.alloc (.cells #[.int .i64 2, .int .i64 4, .int .i64 5] 3)) 0 (.slice (some ⟨v1.heap.size, 0, none⟩) 3 3) [2, 4, 5] :=
    World.ownsRow_lit v1 _ 3 (Nat.zero_le _) (by unfold maxLen; omega) rfl
  refine (equal_yes _ _ _ _ [2, 4, 5] _ (by simp) (HINTS.out.up (Up.alloc _ _)) hlit).mono ?_
  rintro e v2 ⟨rfl, u2⟩
  have HU := Lib.hid ((u1.trans (Up.alloc _ _)).trans u2)
  clear hlit u1 u2 HINTS
  go_wp2_with fail
  refine (within_any a1 40 _ (by omega) (by omega)).mono ?_
  rintro e w' ⟨rfl, rfl⟩
  rw [show (40 : Int).toNat = 40 from rfl]
  have hX := within_lt a1 40 (by omega)
  generalize within a1 40 = X at *
  go_wp2_with fail
  refine (within_any a2 40 _ (by omega) (by omega)).mono ?_
  rintro e w' ⟨rfl, rfl⟩
  rw [show (40 : Int).toNat = 40 from rfl]
  have hY := within_lt a2 40 (by omega)
  generalize within a2 40 = Y at *
  go_wp2_with fail
  rw [show (1 : Int) + (X : Int) + (Y : Int) = ((1 + X + Y : Nat) : Int) by omega, show (1 : Int) + (X : Int) = ((1 + X : Nat) : Int) by omega]
  have hL0 : 1 ≤ 1 + X := by omega
  have hL1 : 1 + X ≤ 40 := by omega
  have hM0 : 1 + X ≤ 1 + X + Y := by omega
  have hM1 : 1 + X + Y ≤ 79 := by omega
  clear hX hY
  generalize 1 + X + Y = M at *
  generalize 1 + X = L at *
  by_cases hs : a0.size ≤ 600
  · have hev := ends_even L M hL0 hM0 a0.data.toList
    rw [len_ba] at hev
    refine (ends_ok _ L M 0 _ hs hL0 hM0 (by omega) (by omega)).mono ?_
    rintro e v3 ⟨vx, rfl, hints, u3⟩
    generalize hl : ends L M 0 a0.data.toList = l at *
    obtain ⟨ox, cx, rfl⟩ := hints.shape
    obtain ⟨hev1, hev2⟩ := hev
    have HEV2 := Lib.hid hev2
    have HINTS := Lib.hid hints
    have HL := Lib.hid hl
    have hll : l.length ≤ 600 := by
      have := ends_length L M 0 hL0 hM0 a0.data.toList
      rw [hl, len_ba] at this
      omega
    have htest : ((l.length : Int) != ((a0.size : Int) + (L : Int) - 1) / (L : Int)) = false := by
      rw [bne_eq_false_iff_eq, hev1, Int.natCast_ediv]
      congr 1
      omega
    clear hints hl hev2 hev1
    go_wp2_with fail
    clear htest
    go_loop [59] (fun i => ∃ k : Nat, k ≤ l.length ∧ i = .int .i64 k) (fun i => l.length - (intOf i).toNat)
    case atStart => exact ⟨0, by omega, rfl⟩
    case round =>
      obtain ⟨k, hk, rfl⟩ := hrel
      by_cases hlt : k < l.length
      · obtain ⟨g, c', hsl, _, _, hc, hm⟩ := HINTS.out.block (by omega)
        simp only [Value.slice.injEq, true_and] at hsl
        obtain ⟨rfl, rfl⟩ := hsl
        have hcell := HINTS.out.cell k hlt
        have hz := HEV2.out k hlt
        have hmul : (k + 1) * L ≤ 601 * 40 := Nat.mul_le_mul (by omega) hL1
        have hcast : ((k : Int) + 1) * (L : Int) = (((k + 1) * L : Nat) : Int) := by rw [Int.natCast_mul]; rfl
        have hmin : ∀ (ts : Array TypeId) (t : TypeId) (W : World), (Builtin.min_ ts t #[.int .i64 (a0.size : Int), .int .i64 (wrap64 (((k : Int) + 1) * (L : Int)))]).run Try.prog W = .ok (.int .i64 ((l[k] : Nat) : Int)) W := by
          intro ts t W
          rw [hcast, hz]
          generalize (k + 1) * L = z at *
          rw [show wrap64 (z : Int) = (z : Int) from by unfold wrap64; omega]
          simp [Builtin.min_, Builtin.min2]
          split <;> omega
        generalize l[k] = z at *
        unfold maxLen at hm
        clear hz hmul hcast
        go_wp2_with fail
        go_round
        case rel => exact ⟨k + 1, by omega, by go_num⟩
        case measure => simp only [intOf]; omega
      · have d : decide (k < l.length) = false := by rw [decide_eq_false_iff_not]; omega
        go_wp2_with fail
        go_ret
        exact ⟨rfl, HU.out.trans u3⟩
  · refine (ends_long _ _ _ _ _ (by omega)).mono ?_
    rintro e v3 ⟨rfl, rfl⟩
    go_wp2_with fail
    go_ret
    exact ⟨rfl, HU.out⟩

theorem i64_or_nat (a b : Nat) (ha : a < 9223372036854775808) (hb : b < 9223372036854775808) : bits .or .i64 (a : Int) (b : Int) = ((a ||| b : Nat) : Int) := by
  have hx : a ||| b < 2 ^ 63 := Nat.or_lt_two_pow (by omega) (by omega)
  show IntKind.i64.wrap ((BitVec.ofInt 64 (a : Int) ||| BitVec.ofInt 64 (b : Int)).toNat : Int) = _
  rw [BitVec.toNat_or, ofInt64 a ha, ofInt64 b hb]
  exact wrap_i64_nat _ hx

theorem endsMore : (ends 1 3 0 (⟨#[97, 98, 99]⟩ : ByteArray).data.toList).length = 3 := by decide +kernel

set_option maxRecDepth 100000 in
set_option maxHeartbeats 1000000 in
theorem cutMore_walk (a0 : ByteArray) (a1 a2 a3 a4 : Int) (w : World) (w0 : a0.size ≤ 140737488351232) (_w1 : (Lit.int .i64 a1).wf = true) (_w2 : (Lit.int .i64 a2).wf = true) (_w3 : (Lit.int .i64 a3).wf = true) (_w4 : (Lit.int .i64 a4).wf = true) :
    Calls Try.prog 18 #[.string a0, .int .i64 a1, .int .i64 a2, .int .i64 a3, .int .i64 a4] w fun e w' => e = .returned (.bool true) ∧ Up w w' := by
  have HE := Lib.hid endsMore
  go_enter Try.func18, Try.ntmps18
  go_wp2_with fail
  refine (ends_ok _ 1 3 0 _ (by decide) (by omega) (by omega) (by omega) (by omega)).mono ?_
  rintro e v1 ⟨v, rfl, hints, u1⟩
  obtain ⟨o, c, rfl⟩ := hints.shape
  rw [HE.out]
  clear hints
  go_wp2_with fail
  refine (within_any a1 20 _ (by omega) (by omega)).mono ?_
  rintro e w' ⟨rfl, rfl⟩
  rw [show (20 : Int).toNat = 20 from rfl]
  have hX := within_lt a1 20 (by omega)
  generalize within a1 20 = X at *
  go_wp2_with fail
  refine (within_any a2 40 _ (by omega) (by omega)).mono ?_
  rintro e w' ⟨rfl, rfl⟩
  rw [show (40 : Int).toNat = 40 from rfl]
  have hY := within_lt a2 40 (by omega)
  generalize within a2 40 = Y at *
  go_wp2_with fail
  refine (within_any a3 65536 _ (by omega) (by omega)).mono ?_
  rintro e w' ⟨rfl, rfl⟩
  rw [show (65536 : Int).toNat = 65536 from rfl]
  have hA := within_lt a3 65536 (by omega)
  generalize within a3 65536 = A at *
  go_wp2_with fail
  refine (within_any a4 65536 _ (by omega) (by omega)).mono ?_
  rintro e w' ⟨rfl, rfl⟩
  rw [show (65536 : Int).toNat = 65536 from rfl]
  have hB := within_lt a4 65536 (by omega)
  generalize within a4 65536 = B at *
  go_wp2_with fail
  rw [show (1 : Int) + (X : Int) + (Y : Int) = ((1 + X + Y : Nat) : Int) by omega, show (1 : Int) + (X : Int) = ((1 + X : Nat) : Int) by omega]
  have hL0 : 1 ≤ 1 + X := by omega
  have hM0 : 1 + X ≤ 1 + X + Y := by omega
  have hM1 : 1 + X + Y ≤ 79 := by omega
  clear hX hY
  generalize 1 + X + Y = M at *
  generalize 1 + X = L at *
  have hor := i64_or_nat A B (by omega) (by omega)
  have hAB : A ||| B < 2 ^ 16 := Nat.or_lt_two_pow (by omega) (by omega)
  by_cases hs : a0.size ≤ 600
  · refine (ends_ok _ L M A _ hs hL0 hM0 (by omega) (by omega)).mono ?_
    rintro e v2 ⟨vx, rfl, hx, u2⟩
    obtain ⟨ox, cx, rfl⟩ := hx.shape
    have HX := Lib.hid hx
    clear hx
    go_wp2_with fail
    refine (ends_ok _ L M (A ||| B) _ hs hL0 hM0 (by omega) (by omega)).mono ?_
    rintro e v3 ⟨vy, rfl, hy, u3⟩
    obtain ⟨oy, cy, rfl⟩ := hy.shape
    have HY := Lib.hid hy
    clear hy
    by_cases he : a0.data.toList = []
    · have ha : a0 = ⟨#[]⟩ := by
        cases a0 with | mk d => simp at he; subst he; rfl
      subst ha
      rw [show ends L M A (⟨#[]⟩ : ByteArray).data.toList = [] from rfl, show ends L M (A ||| B) (⟨#[]⟩ : ByteArray).data.toList = [] from rfl]
      clear HX HY he
      go_wp2_with fail
      go_ret
      exact ⟨rfl, (u1.trans u2).trans u3⟩
    · have e1 := ends_cons L M A hL0 hM0 a0.data.toList he
      have e2 := ends_cons L M (A ||| B) hL0 hM0 a0.data.toList he
      have hmore := chunk_more a0.data.toList L M A B
      have hx := HX.out
      have hy := HY.out
      rw [e1] at hx
      rw [e2] at hy
      generalize (ends L M A (a0.data.toList.drop (chunk a0.data.toList L M A))).map (chunk a0.data.toList L M A + ·) = r1 at *
      generalize (ends L M (A ||| B) (a0.data.toList.drop (chunk a0.data.toList L M (A ||| B)))).map (chunk a0.data.toList L M (A ||| B) + ·) = r2 at *
      generalize chunk a0.data.toList L M A = c1 at *
      generalize chunk a0.data.toList L M (A ||| B) = c2 at *
      rw [e1, e2]
      obtain ⟨g1, d1, hs1, _, _, hc1, hm1⟩ := hx.block (by simp)
      obtain ⟨g2, d2, hs2, _, _, hc2, hm2⟩ := hy.block (by simp)
      simp only [Value.slice.injEq, true_and] at hs1 hs2
      obtain ⟨rfl, rfl⟩ := hs1
      obtain ⟨rfl, rfl⟩ := hs2
      have hk1 : v3.cell? ⟨g1, 0, none⟩ = some (.int .i64 ((c1 : Nat) : Int)) := (hx.up u3).cell 0 (by simp)
      have hk2 : v3.cell? ⟨g2, 0, none⟩ = some (.int .i64 ((c2 : Nat) : Int)) := hy.cell 0 (by simp)
      have hn1 : 0 < (c1 :: r1).length := by simp
      have hn2 : 0 < (c2 :: r2).length := by simp
      clear hx hy e1 e2 HX HY
      generalize (c1 :: r1).length = n1 at *
      generalize (c2 :: r2).length = n2 at *
      unfold maxLen at hm1 hm2
      have d1 : decide ((0 : Int) < (n1 : Int)) = true := by rw [decide_eq_true_iff]; omega
      have d2 : decide ((0 : Int) < (n2 : Int)) = true := by rw [decide_eq_true_iff]; omega
      have he2 : a0.toList.isEmpty = false := by
        rw [ByteArray.toList_eq]
        simpa using he
      have hle : decide ((c1 : Int) ≤ (c2 : Int)) = true := by rw [decide_eq_true_iff]; omega
      have hle2 : decide (c1 ≤ c2) = true := by rw [decide_eq_true_iff]; omega
      go_wp2_with fail
      go_region
      all_goals
        go_wp2_with fail
        go_ret
        exact ⟨rfl, ((u1.trans u2).trans u3).trans (Below.drew (Up.refl _))⟩
  · refine (ends_long _ _ _ _ _ (by omega)).mono ?_
    rintro e v2 ⟨rfl, rfl⟩
    go_wp2_with fail
    refine (ends_long _ _ _ _ _ (by omega)).mono ?_
    rintro e v3 ⟨rfl, rfl⟩
    go_wp2_with fail
    go_ret
    exact ⟨rfl, u1⟩

end Go.Proofs.Ytidofplebkbbmaa
