/-
  What the reference's Digits, Gamma, Delta and Bits return. Conditions: numbers below 2^32, texts of at most 2^48 bytes.
-/
import Derived.Test.YtloiciinmdmdkaaGreatDoorGam
import Derived.Test.YtloiciinmdmdkaaGreatDoorByteS
namespace Go.Proofs.YtloiciinmdmdkaaGreatDoor
open Go.RowKit
open Go.Proofs

/-- the reference's digits: of 0 there are none -/
def rdg (n : Nat) : List UInt8 := if n = 0 then [] else WoolBits.dg n

theorem rdg_pos (n : Nat) (h : 1 ≤ n) : rdg n = WoolBits.dg n := by unfold rdg; rw [if_neg (by omega)]
theorem rdg_step (n : Nat) (h : 1 ≤ n) : rdg n = rdg (n / 2) ++ [WoolBits.bit n] := by
  rw [rdg_pos n h]
  by_cases h2 : n < 2
  · have : n = 1 := by omega
    subst this
    rw [WoolBits.dg_small 1 (by omega)]
    rfl
  · rw [WoolBits.dg_step n (by omega), rdg_pos (n / 2) (by omega)]

theorem rdg_len (n : Nat) (h : n < 4294967296) : (rdg n).length ≤ 32 := by
  unfold rdg
  split
  · simp
  · exact WoolBits.len_lt 32 n (by simpa using h) (by omega)

def DigRel (w : World) (n : Nat) (t0 t3 : Value) (wr : World) : Prop :=
  ∃ (u : Nat) (l : List UInt8), t0 = .int .i64 (u : Int) ∧ t3 = .string (bs l) ∧ u < 4294967296 ∧ rdg u ++ l = rdg n ∧ Up w wr

theorem one_at (i : Int) (c : Int) (h : (i = 0 ∧ c = 48) ∨ (i = 1 ∧ c = 49)) : ∀ W : World, (Instr.index 9 (.string ⟨#[48, 49]⟩) (.int .i64 i)).run Tryz.prog W = .ok (.int .u8 c) W := by
  intro W
  rcases h with ⟨rfl, rfl⟩ | ⟨rfl, rfl⟩
  · kernel_rfl
  · kernel_rfl

theorem conv_bit (c : UInt8) (z : Int) (hz : z = (c.toNat : Int)) (v : World) : (convert 34 9 (.slice (some ⟨v.heap.size, 0, none⟩) 1 1)).run Tryz.prog (v.alloc (.cells #[.int .u8 z] 5)) = .ok (.string (bs [c])) (v.alloc (.cells #[.int .u8 z] 5)) := by
  subst hz
  exact conv_byte c v

set_option maxHeartbeats 1000000 in
theorem rDigits_any (n : Nat) (w : World) (hn : n < 4294967296) :
    Calls Tryz.prog 63 #[.int .i64 (n : Int)] w fun e w' => e = .returned (.string (bs (rdg n))) ∧ Up w w' := by
  have hlen := rdg_len n hn
  go_enter Tryz.func63, Tryz.ntmps63
  go_wp2
  go_loopw [0, 3] (DigRel w n) (fun t0 _ _ => (RowKit.intOf t0).toNat)
  case atStart => exact ⟨n, [], rfl, rfl, hn, by simp, Up.refl w⟩
  case round =>
    obtain ⟨u, l, rfl, rfl, hu, hd, hup⟩ := hrel
    have hl : l.length ≤ 32 := by
      have := congrArg List.length hd
      rw [List.length_append] at this
      omega
    have HD := Lib.hid hd
    have HUP := Lib.hid hup
    clear hd hup
    by_cases h1 : 1 ≤ u
    · have HB : Hid (rdg (u / 2) ++ (WoolBits.bit u :: l) = rdg n) := by
        have := HD.out
        rw [rdg_step u h1, List.append_assoc] at this
        exact this
      clear HD
      rcases Nat.mod_two_eq_zero_or_one u with e | e
      · have eb : WoolBits.bit u = 48 := by unfold WoolBits.bit; rw [if_pos e]
        rw [eb] at HB
        have em : (u : Int) % 2 = 0 := by omega
        have hidx := one_at 0 48 (.inl ⟨rfl, rfl⟩)
        have hcv := conv_bit 48 48 rfl
        have hadd := add_bs [48] l (by simp; omega)
        rw [List.singleton_append] at hadd
        clear eb e
        go_wp2
        go_roundw
        case rel => exact ⟨u / 2, 48 :: l, by go_num, rfl, by omega, HB.out, HUP.out.trans (Up.alloc _ _)⟩
        case measure => simp [intOf]; omega
      · have eb : WoolBits.bit u = 49 := by unfold WoolBits.bit; rw [if_neg (by omega)]
        rw [eb] at HB
        have em : (u : Int) % 2 = 1 := by omega
        have hidx := one_at 1 49 (.inr ⟨rfl, rfl⟩)
        have hcv := conv_bit 49 49 rfl
        have hadd := add_bs [49] l (by simp; omega)
        rw [List.singleton_append] at hadd
        clear eb e
        go_wp2
        go_roundw
        case rel => exact ⟨u / 2, 49 :: l, by go_num, rfl, by omega, HB.out, HUP.out.trans (Up.alloc _ _)⟩
        case measure => simp [intOf]; omega
    · obtain rfl : u = 0 := by omega
      have e : l = rdg n := HD.out
      have HE := Lib.hid e
      clear e
      go_wp2
      go_ret
      exact ⟨by rw [← HE.out]; rfl, HUP.out⟩

theorem rGamma_any (n : Nat) (w : World) (h1 : 1 ≤ n) (h2 : n < 4294967296) :
    Calls Tryz.prog 38 #[.int .i64 (n : Int)] w fun e w' => e = .returned (.string (bs (WoolBits.gam n))) ∧ Up w w' := by
  obtain ⟨m, hm⟩ : ∃ m, WoolBits.len n = m + 1 := ⟨WoolBits.len n - 1, by have := WoolBits.len_pos n; omega⟩
  have hm32 : m ≤ 31 := by have := WoolBits.len_lt 32 n (by simpa using h2) (by omega); omega
  have hsz : (bs (WoolBits.dg n)).size = m + 1 := by rw [bs_size]; exact hm
  have HM := Lib.hid hm
  clear hm
  go_enter Tryz.func38, Tryz.ntmps38
  go_wp2_with fail
  refine (rDigits_any n _ h2).mono ?_
  rintro e w1 ⟨rfl, u1⟩
  rw [rdg_pos n h1]
  go_wp2_with fail
  refine (Tryz.strings_Repeat ⟨#[48]⟩ m _ (by omega) (by show 1 * m ≤ _; omega)).mono ?_
  rintro e w2 ⟨rfl, u2⟩
  rw [zeros_text]
  have hadd := add_bs (List.replicate m 48) (WoolBits.dg n) (by rw [List.length_replicate]; have := HM.out; unfold WoolBits.len at this; omega)
  go_wp2
  go_ret
  refine ⟨?_, Up.trans u1 u2⟩
  unfold WoolBits.gam
  rw [HM.out]
  rfl

theorem isB_at_take (l : List UInt8) (k : Nat) (h : k < l.length) : WoolBits.isB (l.take (k + 1)) = (WoolBits.isB (l.take k) && (l[k] == 48 || l[k] == 49)) := by
  rw [List.take_succ_eq_append_getElem h, WoolBits.isB_append]
  simp [WoolBits.isB]

theorem index_of (l : List UInt8) (k : Nat) (h : k < l.length) : ∀ W : World, (Instr.index 9 (.string (bs l)) (.int .i64 (k : Int))).run Tryz.prog W = .ok (.int .u8 ((l[k].toNat : Nat) : Int)) W :=
  str_index (bs l) (k : Int) k l[k] rfl (by rw [bs_list]; exact List.getElem?_eq_getElem h)

def BitsRel (l : List UInt8) (t6 : Value) : Prop := ∃ k : Nat, k ≤ l.length ∧ t6 = .int .i64 (k : Int) ∧ WoolBits.isB (l.take k) = true

set_option maxHeartbeats 1000000 in
theorem rBits_any (l : List UInt8) (w : World) (hl : l.length ≤ 281474976710656) :
    Calls Tryz.prog 43 #[.string (bs l)] w fun e w' => e = .returned (.bool (WoolBits.isB l)) ∧ w = w' := by
  have hsz := bs_size l
  obtain ⟨n, hn⟩ : ∃ n, l.length = n := ⟨_, rfl⟩
  rw [hn] at hsz hl
  have HN := Lib.hid hn
  clear hn
  go_enter Tryz.func43, Tryz.ntmps43
  go_wp2
  go_loop [6] (BitsRel l) (fun t6 => n - (RowKit.intOf t6).toNat)
  case atStart => exact ⟨0, by omega, rfl, rfl⟩
  case round =>
    obtain ⟨k, hk, rfl, hb⟩ := hrel
    rw [HN.out] at hk
    have HB := Lib.hid hb
    clear hb
    by_cases hlt : k < n
    · have hkl : k < l.length := by rw [HN.out]; exact hlt
      have hi := index_of l k hkl
      have hst := isB_at_take l k hkl
      rw [HB.out, Bool.true_and] at hst
      obtain ⟨x, hx⟩ : ∃ x, l[k] = x := ⟨_, rfl⟩
      rw [hx] at hi hst
      by_cases h48 : x = 48
      · subst h48
        have HST := Lib.hid (hst.trans rfl)
        clear hst
        go_wp2
        go_round
        case rel => exact ⟨k + 1, by rw [HN.out]; omega, by go_num, HST.out⟩
        case measure => simp [intOf]; omega
      · by_cases h49 : x = 49
        · subst h49
          have HST := Lib.hid (hst.trans rfl)
          clear hst
          go_wp2
          go_round
          case rel => exact ⟨k + 1, by rw [HN.out]; omega, by go_num, HST.out⟩
          case measure => simp [intOf]; omega
        · have hno : WoolBits.isB l = false := by
            have hm : x ∈ l := by rw [← hx]; exact List.getElem_mem hkl
            cases e : WoolBits.isB l with
            | false => rfl
            | true =>
              rcases (WoolBits.isB_iff _).1 e x hm with h | h
              · exact absurd h h48
              · exact absurd h h49
          have n48 : ¬ x.toNat = 48 := fun h => h48 (UInt8.toNat_inj.1 h)
          have n49 : ¬ x.toNat = 49 := fun h => h49 (UInt8.toNat_inj.1 h)
          have HNO := Lib.hid hno
          clear hst hx hno h48 h49
          obtain ⟨c, hc⟩ : ∃ c, x.toNat = c := ⟨_, rfl⟩
          rw [hc] at hi n48 n49
          have e1 : ((c : Int) == 48) = false := by simp; omega
          have e2 : ((c : Int) == 49) = false := by simp; omega
          have e3 : ((c : Int) != 48) = true := by simp; omega
          have e4 : ((c : Int) != 49) = true := by simp; omega
          clear hc n48 n49
          go_wp2
          go_ret
          exact ⟨by rw [HNO.out]; rfl, rfl⟩
    · have ht : l.take k = l := List.take_of_length_le (by rw [HN.out]; omega)
      rw [ht] at HB
      clear ht
      go_wp2
      go_ret
      exact ⟨by rw [HB.out]; rfl, rfl⟩

end Go.Proofs.YtloiciinmdmdkaaGreatDoor
