/-
  What gamma's isBits, leadingZeros, value, ReadGamma and ReadDelta return. Condition: a text of at most 2^48 bytes.
-/
import Derived.Test.YtloiciinmdmdkaaGreatDoorGam
namespace Go.Proofs.YtloiciinmdmdkaaGreatDoor
open Go.RowKit
open Go.Proofs

theorem count_bits (l : List UInt8) : l.count 48 + l.count 49 ≤ l.length ∧ (l.count 48 + l.count 49 = l.length ↔ WoolBits.isB l = true) := by
  induction l with
  | nil => simp [WoolBits.isB]
  | cons c l ih =>
    obtain ⟨i1, i2⟩ := ih
    have e : WoolBits.isB (c :: l) = ((c == 48 || c == 49) && WoolBits.isB l) := by simp [WoolBits.isB]
    rw [e, List.count_cons, List.count_cons, List.length_cons]
    by_cases h0 : c = 48
    · subst h0
      rw [if_pos (by decide), if_neg (by decide)]
      refine ⟨by omega, ?_⟩
      rw [show ((48 : UInt8) == 48 || (48 : UInt8) == 49) = true from rfl, Bool.true_and, ← i2]
      omega
    · by_cases h1 : c = 49
      · subst h1
        rw [if_neg (by decide), if_pos (by decide)]
        refine ⟨by omega, ?_⟩
        rw [show ((49 : UInt8) == 48 || (49 : UInt8) == 49) = true from rfl, Bool.true_and, ← i2]
        omega
      · rw [if_neg (by simpa using h0), if_neg (by simpa using h1), show (c == 48 || c == 49) = false by simp [h0, h1], Bool.false_and]
        exact ⟨by omega, ⟨fun h => by omega, fun h => by cases h⟩⟩

/-- the test that both isBits write -/
theorem count_test (l : List UInt8) : (((l.count 48 : Nat) : Int) + ((l.count 49 : Nat) : Int) == ((l.length : Nat) : Int)) = WoolBits.isB l := by
  obtain ⟨_, h⟩ := count_bits l
  rw [Bool.eq_iff_iff, ← h, beq_iff_eq]
  omega

theorem isBits_any (l : List UInt8) (w : World) (hl : l.length ≤ 281474976710656) :
    Calls Tryz.prog 125 #[.string (bs l)] w fun e w' => e = .returned (.bool (WoolBits.isB l)) ∧ w = w' := by
  have hb := (count_bits l).1
  have ht := count_test l
  have hsz := bs_size l
  obtain ⟨x, hx⟩ : ∃ x : Nat, Lib.countByte (bs l).data.toList 48 = x := ⟨_, rfl⟩
  obtain ⟨y, hy⟩ : ∃ y : Nat, Lib.countByte (bs l).data.toList 49 = y := ⟨_, rfl⟩
  have ex : l.count 48 = x := by rw [← hx, bs_list]; rfl
  have ey : l.count 49 = y := by rw [← hy, bs_list]; rfl
  rw [ex, ey] at hb ht
  obtain ⟨n, hn⟩ : ∃ n, l.length = n := ⟨_, rfl⟩
  rw [hn] at hb ht hsz hl
  have HX := Lib.hid hx
  have HY := Lib.hid hy
  clear hx hy ex ey hn
  go_enter Tryz.func125, Tryz.ntmps125
  go_wp2_with fail
  refine (Tryz.strings_Count_one (bs l) 48 _).mono ?_
  rintro e w1 ⟨rfl, rfl⟩
  rw [HX.out]
  go_wp2_with fail
  refine (Tryz.strings_Count_one (bs l) 49 _).mono ?_
  rintro e w2 ⟨rfl, rfl⟩
  rw [HY.out]
  go_wp2
  go_ret
  exact ⟨by rw [← ht]; rfl, rfl⟩

theorem trim_length (l : List UInt8) : (Lib.trimLeftB l 48).length + WoolBits.zs l = l.length := by
  unfold Lib.trimLeftB WoolBits.zs
  induction l with
  | nil => rfl
  | cons c l ih =>
    by_cases h : (c == 48) = true
    · rw [List.dropWhile_cons, List.takeWhile_cons, if_pos h, if_pos h, List.length_cons, List.length_cons]; omega
    · rw [List.dropWhile_cons, List.takeWhile_cons, if_neg h, if_neg h, List.length_cons, List.length_nil]

theorem leadingZeros_any (l : List UInt8) (w : World) (hl : l.length ≤ 281474976710656) :
    Calls Tryz.prog 126 #[.string (bs l)] w fun e w' => e = .returned (.int .i64 ((WoolBits.zs l : Nat) : Int)) ∧ w = w' := by
  have hsz := bs_size l
  have ht := trim_length l
  have hsz2 := bs_size (Lib.trimLeftB l 48)
  have HB := Lib.hid (bs_list l)
  obtain ⟨n, hn⟩ : ∃ n, l.length = n := ⟨_, rfl⟩
  obtain ⟨k, hk⟩ : ∃ k, (Lib.trimLeftB l 48).length = k := ⟨_, rfl⟩
  obtain ⟨z, hz⟩ : ∃ z, WoolBits.zs l = z := ⟨_, rfl⟩
  rw [hn] at hsz ht hl
  rw [hk] at ht hsz2
  rw [hz] at ht
  rw [hz]
  obtain ⟨T, hT⟩ : ∃ T, Lib.trimLeftB l 48 = T := ⟨_, rfl⟩
  rw [hT] at hsz2
  have HT := Lib.hid hT
  clear hn hk hz hT
  have hd : (n : Int) - (k : Int) = (z : Int) := by omega
  clear ht
  go_enter Tryz.func126, Tryz.ntmps126
  go_wp2_with fail
  refine (Tryz.strings_TrimLeft_one (bs l) 48 (by decide) _).mono ?_
  rintro e w1 ⟨rfl, rfl⟩
  rw [HB.out, HT.out, show (⟨T.toArray⟩ : ByteArray) = bs T from rfl]
  go_wp2
  go_ret
  exact ⟨rfl, rfl⟩

theorem val_take (a : Nat) (l : List UInt8) (k : Nat) (h : k < l.length) : WoolBits.val a (l.take (k + 1)) = 2 * WoolBits.val a (l.take k) + (l[k].toNat - 48) := by
  rw [List.take_succ_eq_append_getElem h, WoolBits.val_snoc]

theorem val_small (a : Nat) (l : List UInt8) (k : Nat) (hb : WoolBits.isB l = true) (ha : a ≤ 1) (hl : l.length ≤ 31) : WoolBits.val a (l.take k) < 4294967296 := by
  have h1 := WoolBits.val_bound (l.take k) a ((WoolBits.isB_iff _).1 (WoolBits.isB_take l k hb))
  have h2 : 2 ^ (l.take k).length ≤ 2 ^ 31 := Nat.pow_le_pow_right (by omega) (by rw [List.length_take]; omega)
  have h3 : (a + 1) * 2 ^ (l.take k).length ≤ 2 * 2 ^ 31 := Nat.mul_le_mul (by omega) h2
  have h4 : (2 : Nat) * 2 ^ 31 = 4294967296 := by decide
  omega

theorem bit_at (l : List UInt8) (k : Nat) (h : k < l.length) (hb : WoolBits.isB l = true) : l[k].toNat = 48 ∨ l[k].toNat = 49 := by
  rcases (WoolBits.isB_iff _).1 hb l[k] (List.getElem_mem h) with e | e <;> rw [e]
  · exact .inl rfl
  · exact .inr rfl

def ValRel (a : Nat) (l : List UInt8) (t5 t10 : Value) : Prop :=
  ∃ k : Nat, k ≤ l.length ∧ t10 = .int .i64 (k : Int) ∧ t5 = .int .i64 ((WoolBits.val a (l.take k) : Nat) : Int)

set_option maxHeartbeats 1000000 in
theorem value_any (a : Nat) (l : List UInt8) (w : World) (ha : a ≤ 1) (hl : l.length ≤ 31) (hb : WoolBits.isB l = true) :
    Calls Tryz.prog 127 #[.int .i64 (a : Int), .string (bs l)] w fun e w' => e = .returned (.int .i64 ((WoolBits.val a l : Nat) : Int)) ∧ w = w' := by
  have hsz := bs_size l
  obtain ⟨n, hn⟩ : ∃ n, l.length = n := ⟨_, rfl⟩
  rw [hn] at hsz
  have HB := Lib.hid hb
  have HN := Lib.hid hn
  have hln : n ≤ 31 := by omega
  clear hb hn hl
  go_enter Tryz.func127, Tryz.ntmps127
  go_wp2
  go_loop [5, 10] (ValRel a l) (fun _ t10 => n - (RowKit.intOf t10).toNat)
  case atStart => exact ⟨0, by omega, rfl, rfl⟩
  case round =>
    obtain ⟨k, hk, rfl, rfl⟩ := hrel
    rw [HN.out] at hk
    have hv := val_small a l k HB.out ha (by rw [HN.out]; exact hln)
    by_cases hlt : k < n
    · have hkl : k < l.length := by rw [HN.out]; exact hlt
      have hi := index_bs l k hkl
      have hst := val_take a l k hkl
      have hbit := bit_at l k hkl HB.out
      obtain ⟨c, hc⟩ : ∃ c, l[k].toNat = c := ⟨_, rfl⟩
      obtain ⟨V, hV⟩ : ∃ V, WoolBits.val a (l.take k) = V := ⟨_, rfl⟩
      rw [hc] at hi hst hbit
      rw [hV] at hv hst
      rw [hV]
      have HST := Lib.hid hst
      have hc2 : c - 48 ≤ 1 := by omega
      have hw : IntKind.u8.wrap ((c : Int) - 48) = ((c - 48 : Nat) : Int) := by rw [IntKind.wrap_u8]; omega
      obtain ⟨d, hd⟩ : ∃ d, c - 48 = d := ⟨_, rfl⟩
      rw [hd] at hw HST hc2
      clear hst hc hV hbit hd
      go_wp2
      go_round
      case rel => exact ⟨k + 1, by rw [HN.out]; omega, by go_num, by rw [HST.out]; go_num⟩
      case measure => simp [intOf]; omega
    · have ht : l.take k = l := List.take_of_length_le (by rw [HN.out]; omega)
      rw [ht] at hv
      rw [ht]
      clear ht
      go_wp2
      go_ret
      exact ⟨rfl, rfl⟩

/-- three numbers as the three results -/
def three (x : Nat × Nat × Nat) : Value := .tuple #[.int .i64 (x.1 : Int), .int .i64 (x.2.1 : Int), .int .i64 (x.2.2 : Int)]

set_option maxHeartbeats 1000000 in
theorem readGamma_any (l : List UInt8) (w : World) (hl : l.length ≤ 281474976710656) :
    Calls Tryz.prog 122 #[.string (bs l)] w fun e w' => e = .returned (three (WoolBits.rg l)) ∧ w = w' := by
  have hsz := bs_size l
  have hzl := WoolBits.zs_le l
  by_cases hb : WoolBits.isB l = false
  · have e0 : WoolBits.rg l = (0, 0, 3) := by unfold WoolBits.rg; rw [if_pos hb]
    rw [e0]
    have HB := Lib.hid hb
    clear hb e0
    go_enter Tryz.func122, Tryz.ntmps122
    go_wp2_with fail
    refine (isBits_any l _ hl).mono ?_
    rintro e w1 ⟨rfl, rfl⟩
    rw [HB.out]
    go_wp2
    go_ret3
    exact ⟨rfl, rfl⟩
  · have hb' : WoolBits.isB l = true := by simpa using hb
    have HB := Lib.hid hb'
    by_cases h31 : 31 ≤ WoolBits.zs l
    · have e0 : WoolBits.rg l = (0, 0, 2) := by unfold WoolBits.rg; rw [if_neg hb, if_pos h31]
      rw [e0]
      clear hb hb' e0
      go_enter Tryz.func122, Tryz.ntmps122
      go_wp2_with fail
      refine (isBits_any l _ hl).mono ?_
      rintro e w1 ⟨rfl, rfl⟩
      rw [HB.out]
      go_wp2_with fail
      refine (leadingZeros_any l _ hl).mono ?_
      rintro e w2 ⟨rfl, rfl⟩
      go_wp2
      go_ret3
      exact ⟨rfl, rfl⟩
    · by_cases hs : l.length < 2 * WoolBits.zs l + 1
      · have e0 : WoolBits.rg l = (0, 0, 7) := by unfold WoolBits.rg; rw [if_neg hb, if_neg h31, if_pos hs]
        rw [e0]
        obtain ⟨n, hn⟩ : ∃ n, l.length = n := ⟨_, rfl⟩
        obtain ⟨z, hz⟩ : ∃ z, WoolBits.zs l = z := ⟨_, rfl⟩
        rw [hn] at hsz hs hzl
        rw [hz] at hs h31 hzl
        have HN := Lib.hid hn
        have HZ := Lib.hid hz
        have hl' : n ≤ 281474976710656 := by omega
        clear hb hb' e0 hn hz hl
        go_enter Tryz.func122, Tryz.ntmps122
        go_wp2_with fail
        refine (isBits_any l _ (by rw [HN.out]; exact hl')).mono ?_
        rintro e w1 ⟨rfl, rfl⟩
        rw [HB.out]
        go_wp2_with fail
        refine (leadingZeros_any l _ (by rw [HN.out]; exact hl')).mono ?_
        rintro e w2 ⟨rfl, rfl⟩
        rw [HZ.out]
        go_wp2
        go_ret3
        exact ⟨rfl, rfl⟩
      · have e0 : WoolBits.rg l = (WoolBits.val 0 ((l.drop (WoolBits.zs l)).take (WoolBits.zs l + 1)), 2 * WoolBits.zs l + 1, 0) := by unfold WoolBits.rg; rw [if_neg hb, if_neg h31, if_neg hs]
        rw [e0]
        obtain ⟨z, hz⟩ : ∃ z, WoolBits.zs l = z := ⟨_, rfl⟩
        rw [hz] at hs h31 hzl ⊢
        have hsl := slice_bs l (z : Int) ((z : Int) + (z : Int) + 1) z (z + z + 1) rfl (by omega) (by omega) (by omega)
        rw [show z + z + 1 - z = z + 1 by omega] at hsl
        obtain ⟨T, hT⟩ : ∃ T, (l.drop z).take (z + 1) = T := ⟨_, rfl⟩
        have hTb : WoolBits.isB T = true := by rw [← hT]; exact WoolBits.isB_take _ _ (WoolBits.isB_drop _ _ hb')
        have hTl : T.length ≤ 31 := by rw [← hT, List.length_take]; omega
        rw [hT] at hsl ⊢
        obtain ⟨n, hn⟩ : ∃ n, l.length = n := ⟨_, rfl⟩
        rw [hn] at hsz hs hzl
        have HN := Lib.hid hn
        have HZ := Lib.hid hz
        have HT := Lib.hid hTb
        have HTL := Lib.hid hTl
        have hl' : n ≤ 281474976710656 := by omega
        clear hb hb' e0 hn hz hT hl hTb hTl
        go_enter Tryz.func122, Tryz.ntmps122
        go_wp2_with fail
        refine (isBits_any l _ (by rw [HN.out]; exact hl')).mono ?_
        rintro e w1 ⟨rfl, rfl⟩
        rw [HB.out]
        go_wp2_with fail
        refine (leadingZeros_any l _ (by rw [HN.out]; exact hl')).mono ?_
        rintro e w2 ⟨rfl, rfl⟩
        rw [HZ.out]
        go_wp2_with fail
        refine (value_any 0 T _ (by omega) HTL.out HT.out).mono ?_
        rintro e w3 ⟨rfl, rfl⟩
        go_wp2
        go_ret3
        exact ⟨by unfold three; congr 3; simp; omega, rfl⟩

end Go.Proofs.YtloiciinmdmdkaaGreatDoor
