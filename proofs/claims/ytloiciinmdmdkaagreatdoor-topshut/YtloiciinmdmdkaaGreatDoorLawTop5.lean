/-
  The law TopShut, walked: for every text, place and pattern the Go text returns true; nothing that was there turns. Conditions: a text that came in has at most 2^47 - 4096 bytes; one cell of the table deBruijn64tab (Tab).
-/
import Derived.Test.YtloiciinmdmdkaaGreatDoorLawFrame2
import Derived.Test.YtloiciinmdmdkaaGreatDoorFrameB
import Derived.Test.YtloiciinmdmdkaaGreatDoorLawBurst
import Derived.Test.YtloiciinmdmdkaaGreatDoorBox2
namespace Go.Proofs.YtloiciinmdmdkaaGreatDoor
open Go.RowKit
open Go.Proofs
open WoolLz WoolPack WoolBox

set_option maxRecDepth 100000 in
theorem begun_any (w : World) : Calls Tryz.prog 9 #[] w fun e w' => e = .returned (.bool true) ∧ Up w w' := by
  have hm : WoolMath.mul 3 3 = 5 := by decide +kernel
  have HM := Lib.hid hm
  clear hm
  go_enter Tryz.func9, Tryz.ntmps9
  go_wp2_with fail
  refine (mulN 3 3 _ (by omega) (by omega) (by rw [HM.out]; omega)).mono ?_
  rintro e w1 ⟨rfl, u1⟩
  rw [HM.out]
  go_wp2_with fail
  go_ret
  exact ⟨rfl, u1⟩

theorem u16_nat5 (a : Int) (h : (Lit.int .u16 a).wf = true) : ∃ T : Nat, a = (T : Int) ∧ T < 65536 := by
  have h1 : 0 ≤ a ∧ a < 65536 := by
    simp [Lit.wf] at h
    have e1 : IntKind.u16.min = 0 := by decide
    have e2 : IntKind.u16.max = 65535 := by decide
    omega
  obtain ⟨n, rfl⟩ := Int.eq_ofNat_of_zero_le h1.1
  exact ⟨n, rfl, by omega⟩

def TopRel (F : List UInt8) (T E B : Nat) (w : World) (i : Value) (wr : World) : Prop :=
  ∃ (k : Nat) (l : List UInt8), k ≤ 16 ∧ i = .int .i64 k ∧ l.length = F.length ∧ l.take 3 = F.take 3 ∧ Text wr B l ∧ sp l = sp F ^^^ acc T E k ∧ Up w wr

set_option maxRecDepth 100000 in
set_option maxHeartbeats 2000000 in
theorem topShut_walk (a0 : ByteArray) (a1 a2 : Int) (w : World) (w0 : a0.size ≤ 140737488351232) (_w1 : (Lit.int .i64 a1).wf = true) (w2 : (Lit.int .u16 a2).wf = true) (hT : Tab w) :
    Calls Tryz.prog 4 #[.string a0, .int .i64 a1, .int .u16 a2] w fun e w' => e = .returned (.bool true) ∧ Up w w' := by
  obtain ⟨s, rfl⟩ : ∃ s, a0 = bs s := ⟨a0.data.toList, (bs_of a0).symm⟩
  obtain ⟨T, rfl, hTT⟩ := u16_nat5 a2 w2
  have hsz := bs_size s
  rw [hsz] at w0
  clear w2
  by_cases hl : s.length ≤ 600
  · have HL := Lib.hid hl
    have hol := shut_len s
    have HO : Hid (openR (shut s) = .tuple #[.string (bs s), .int .i64 0]) := by show _ = _; unfold openR; rw [open_shut s hl]; rfl
    have hfl := frm_length 7 (shut s)
    have HP := Lib.hid (putR_ok (K := 7) (b := shut s) (by omega) (by omega) (by omega))
    rw [show ((7 : Nat) : Int) = 7 from rfl] at HP
    have HG := Lib.hid (getR_of (get_put 7 (shut s) [] (by omega) (by omega) (by omega)))
    rw [List.append_nil, show ((7 : Nat) : Int) = 7 from rfl, show ((0 : Nat) : Int) = 0 from rfl] at HG
    have HBL : Hid ((shut s).length ≤ 140737488351232) := by show (shut s).length ≤ 140737488351232; omega
    have HFL : Hid ((frm 7 (shut s)).length ≤ 281474976710656) := by show (frm 7 (shut s)).length ≤ 281474976710656; omega
    have HBST : Hid (T ≠ 0 → ∀ (y : List UInt8) (E : Nat), y.length = (frm 7 (shut s)).length → y.take 3 = (frm 7 (shut s)).take 3 → sp y = sp (frm 7 (shut s)) ^^^ T * 2 ^ E → getR y = .tuple #[.agg #[.int .i64 0, .string (bs [])], .int .i64 0, .int .i64 6]) :=
      fun h0 y E h1 h2 h3 => getR_of (get_burst_all 7 (shut s) y T E (by omega) (by omega) (by omega) (by rw [h1, hfl]) h2 h0 hTT h3)
    have hsF := bs_size (frm 7 (shut s))
    obtain ⟨Y, hY⟩ : ∃ Y, shut s = Y := ⟨_, rfl⟩
    rw [hY] at hol HO hfl HP HG HBL HFL HBST hsF
    have HY := Lib.hid hY
    obtain ⟨F, hF⟩ : ∃ F, frm 7 Y = F := ⟨_, rfl⟩
    rw [hF] at hfl HP HG HFL HBST hsF
    obtain ⟨N, hN⟩ : ∃ N, Y.length + 7 = N := ⟨_, rfl⟩
    rw [hN] at hfl HG
    rw [hfl] at hsF
    have hN1 : 7 ≤ N := by omega
    have hN2 : N ≤ 708 := by omega
    have HFN := Lib.hid hfl
    have HLF := Lib.hid (show (bs F).data.toList = F from bs_list F)
    clear hY hF hN hol hfl hsz w0 hl
    by_cases hT0 : T = 0
    · subst hT0
      go_enter Tryz.func4, Tryz.ntmps4
      go_wp2_with fail
      refine (shut_ok s _ HL.out hT).mono ?_
      rintro e v1 ⟨rfl, u1⟩
      rw [HY.out]
      go_wp2_with fail
      refine (begun_any _).mono ?_
      rintro e v2 ⟨rfl, u2⟩
      go_wp2_with fail
      refine (put_any 7 Y _ (by decide) HBL.out).mono ?_
      rintro e v3 ⟨rfl, u3⟩
      rw [HP.out]
      go_wp2_with fail
      refine (get_any F _ HFL.out).mono ?_
      rintro e v4 ⟨rfl, u4⟩
      rw [HG.out]
      go_wp2_with fail
      refine (open_any Y _ ((((hT.up u1).up u2).up u3).up (u4.trans (Up.alloc _ _)))).mono ?_
      rintro e v5 ⟨rfl, u5⟩
      rw [HO.out]
      obtain ⟨c5, c6⟩ := ((Box2.new v4 31 (.int .i64 7) (.string (bs Y))).up u5).cells
      go_wp2_with fail
      go_ret
      exact ⟨rfl, u1.trans (u2.trans (u3.trans (u4.trans ((Up.alloc _ _).trans u5))))⟩
    · have d0 : ((T : Int) == 0) = false := by simp; omega
      have HB := Lib.hid (HBST.out hT0)
      have hwl := within_lt a1 (8 * (N - 3) - 15) (by omega)
      obtain ⟨A, hA⟩ : ∃ A, within a1 (8 * (N - 3) - 15) = A := ⟨_, rfl⟩
      rw [hA] at hwl
      have HA := Lib.hid hA
      clear hA HBST hT0
      go_enter Tryz.func4, Tryz.ntmps4
      go_wp2_with fail
      refine (shut_ok s _ HL.out hT).mono ?_
      rintro e v1 ⟨rfl, u1⟩
      rw [HY.out]
      go_wp2_with fail
      refine (begun_any _).mono ?_
      rintro e v2 ⟨rfl, u2⟩
      go_wp2_with fail
      refine (put_any 7 Y _ (by decide) HBL.out).mono ?_
      rintro e v3 ⟨rfl, u3⟩
      rw [HP.out]
      go_wp2_with fail
      refine (get_any F _ HFL.out).mono ?_
      rintro e v4 ⟨rfl, u4⟩
      rw [HG.out]
      go_wp2_with fail
      refine (open_any Y _ ((((hT.up u1).up u2).up u3).up (u4.trans (Up.alloc _ _)))).mono ?_
      rintro e v5 ⟨rfl, u5⟩
      rw [HO.out]
      obtain ⟨c5, c6⟩ := ((Box2.new v4 31 (.int .i64 7) (.string (bs Y))).up u5).cells
      have hconv := run_bytes_of_string (P := Tryz.prog) v5 9 34 5 (bs F) Tryz.underlying9 Tryz.underlying34 Tryz.underlying5
      generalize grownCap v5 (bs F).size 0 5 = cap at *
      rw [hsF] at hconv
      go_wp2_with fail
      refine (within_any a1 (8 * ((N : Int) - 3) - 15) _ (by omega) (by omega)).mono ?_
      rintro e v6 ⟨rfl, rfl⟩
      rw [show (8 * ((N : Int) - 3) - 15).toNat = 8 * (N - 3) - 15 by omega, HA.out]
      clear hconv c5 c6
      go_wp2_with fail
      go_loopw [86] (fun i wr => TopRel F T (8 * (N - 3) - 16 - A) v5.heap.size v5 i wr) (fun i _ => 16 - (intOf i).toNat)
      case atStart =>
        refine ⟨0, F, by omega, rfl, rfl, rfl, ?_, by rw [acc, Nat.xor_zero], (Up.alloc _ _).trans (Up.drew _)⟩
        intro j hj
        have hj' : j < (bs F).data.size := by have h1 := bs_size F; have h2 : (bs F).size = (bs F).data.size := rfl; omega
        constructor
        · refine (World.cell?_alloc_mark v5 _ _ _ j).trans ((bytesRow_at (bs F) cap j hj').trans ?_)
          congr 3
        · refine (World.frozen?_alloc_mark v5 _ _ _ _ j).trans ?_
          have hj2 : j < (bs F).size := hj'
          have : j < (bytesRow (bs F) cap).size := by unfold bytesRow; simp; omega
          have h2 : ¬ (bytesRow (bs F) cap).size ≤ j := by omega
          simp [h2]
      case round =>
        obtain ⟨k, l, hk, rfl, hl, h3, ht, hsp, hu⟩ := hrel
        have HLL := Lib.hid hl
        have H3 := Lib.hid h3
        have HT := Lib.hid ht
        have HSP := Lib.hid hsp
        have HU := Lib.hid hu
        clear hl h3 ht hsp hu
        by_cases hlt : k < 16
        · have hbit := u16_bit T (15 - k) hTT
          by_cases hb : T.testBit (15 - k) = true
          · rw [hb] at hbit
            have hq : 3 + (A + k) / 8 < l.length := by have := HLL.out; have := HFN.out; omega
            obtain ⟨hc, hf⟩ := HT.out _ hq
            have hw1 : IntKind.i64.wrap ((A : Int) + (k : Int)) = ((A + k : Nat) : Int) := wrap_i64_nat (A + k) (by omega)
            have hw2 : IntKind.i64.wrap (((A + k : Nat) : Int).tdiv 8) = (((A + k) / 8 : Nat) : Int) := by
              rw [show ((A + k : Nat) : Int).tdiv 8 = (((A + k) / 8 : Nat) : Int) from by rw [Int.tdiv_eq_ediv_of_nonneg (by omega)]; omega]
              exact wrap_i64_nat _ (by omega)
            have hw3 : ((A + k : Nat) : Int).tmod 8 = (((A + k) % 8 : Nat) : Int) := by
              rw [Int.tmod_eq_emod_of_nonneg (by omega)]; omega
            have hw4 : IntKind.i64.wrap (3 + (((A + k) / 8 : Nat) : Int)) = ((3 + (A + k) / 8 : Nat) : Int) := wrap_i64_nat (3 + (A + k) / 8) (by omega)
            have hqs : 3 + (A + k) / 8 < N := by omega
            have hsp := sp_set (bitOf ((A + k) % 8)) l (3 + (A + k) / 8) hq
            rw [bitOf_val _ (Nat.mod_lt _ (by omega)), ← Nat.pow_add] at hsp
            have hexp : 7 - (A + k) % 8 + 8 * (l.length - 1 - (3 + (A + k) / 8)) = 8 * (N - 3) - 16 - A + 15 - k := by rw [HLL.out, HFN.out]; omega
            rw [hexp, HSP.out, Nat.xor_assoc] at hsp
            have hac : acc T (8 * (N - 3) - 16 - A) (k + 1) = acc T (8 * (N - 3) - 16 - A) k ^^^ 2 ^ (8 * (N - 3) - 16 - A + 15 - k) := by
              rw [acc, if_pos hb]
            rw [← hac] at hsp
            have hxor := u8_xor l[3 + (A + k) / 8] (bitOf ((A + k) % 8))
            rw [← bitOf_div _ (Nat.mod_lt _ (by omega))] at hxor
            have htext := HT.out.set (3 + (A + k) / 8) (l[3 + (A + k) / 8] ^^^ bitOf ((A + k) % 8))
            rw [← hxor] at htext
            have hup : Up v5 (wr.setCell ⟨v5.heap.size, 3 + (A + k) / 8, none⟩ (.int .u8 (bits .xor .u8 (l[3 + (A + k) / 8].toNat : Int) (128 / 2 ^ ((A + k) % 8))))).drew := Below.drew (Below.setCell HU.out (Nat.le_refl _) _)
            have hlen : (l.set (3 + (A + k) / 8) (l[3 + (A + k) / 8] ^^^ bitOf ((A + k) % 8))).length = F.length := by rw [List.length_set, HLL.out]
            have htk : (l.set (3 + (A + k) / 8) (l[3 + (A + k) / 8] ^^^ bitOf ((A + k) % 8))).take 3 = F.take 3 := by
              rw [List.take_set, List.set_eq_of_length_le (by rw [List.length_take]; omega), H3.out]
            have HNEXT := Lib.hid (show TopRel F T (8 * (N - 3) - 16 - A) v5.heap.size v5 (.int .i64 ((k + 1 : Nat) : Int)) _ from ⟨k + 1, _, by omega, rfl, hlen, htk, htext, hsp, hup⟩)
            clear hsp hexp hac hxor htext hup hlen hb htk
            go_wp2_with fail
            go_region
            all_goals
              go_wp2_with fail
              go_roundw
              case rel => exact HNEXT.out
              case measure => simp only [intOf]; omega
          · have hb' : T.testBit (15 - k) = false := by simpa using hb
            rw [hb'] at hbit
            have hac : acc T (8 * (N - 3) - 16 - A) (k + 1) = acc T (8 * (N - 3) - 16 - A) k := by
              rw [acc, if_neg hb, Nat.xor_zero]
            have hsp := HSP.out
            rw [← hac] at hsp
            have HNEXT := Lib.hid (show TopRel F T (8 * (N - 3) - 16 - A) v5.heap.size v5 (.int .i64 ((k + 1 : Nat) : Int)) wr from ⟨k + 1, l, by omega, rfl, HLL.out, H3.out, HT.out, hsp, HU.out⟩)
            clear hac hsp hb hb'
            go_wp2_with fail
            go_roundw
            case rel => exact HNEXT.out
            case measure => simp only [intOf]; omega
        · obtain rfl : k = 16 := by omega
          have hsp := HSP.out
          rw [acc_all T _ hTT] at hsp
          have hconv : (convert 34 9 (.slice (some ⟨v5.heap.size, 0, none⟩) N cap)).run Tryz.prog wr = .ok (.string (bs l)) wr := by
            rw [show N = l.length by rw [HLL.out, HFN.out]]
            refine run_convert_bytes_back (P := Tryz.prog) _ 34 9 5 _ cap l Tryz.underlying34 Tryz.underlying5 Tryz.underlying9 ?_
            intro j hj
            rw [← (HT.out j hj).1]
            congr 1
            unfold Addr.add
            split
            · rename_i e; subst e; rfl
            · simp
          have HGE := Lib.hid (HB.out l _ HLL.out H3.out hsp)
          have HLX : Hid (l.length ≤ 281474976710656) := by show l.length ≤ 281474976710656; rw [HLL.out, HFN.out]; omega
          clear hsp
          go_wp2_with fail
          refine (get_any l _ HLX.out).mono ?_
          rintro e v7 ⟨rfl, u7⟩
          rw [HGE.out]
          go_wp2_with fail
          go_ret
          exact ⟨rfl, u1.trans (u2.trans (u3.trans (u4.trans ((Up.alloc _ _).trans (u5.trans (HU.out.trans u7))))))⟩
  · have HL : Hid (600 < s.length) := by show 600 < s.length; omega
    obtain ⟨n, hn⟩ : ∃ n, s.length = n := ⟨_, rfl⟩
    rw [hn] at hsz w0 hl
    have d1 : decide ((600 : Int) < (n : Int)) = true := by rw [decide_eq_true_iff]; omega
    clear hn
    go_enter Tryz.func4, Tryz.ntmps4
    go_wp2_with fail
    refine (shut_long s _ HL.out).mono ?_
    rintro e v1 ⟨rfl, rfl⟩
    go_wp2_with fail
    refine (begun_any _).mono ?_
    rintro e v2 ⟨rfl, u2⟩
    go_wp2_with fail
    refine (begun_any _).mono ?_
    rintro e v3 ⟨rfl, u3⟩
    go_wp2_with fail
    go_ret
    exact ⟨rfl, u2.trans u3⟩

end Go.Proofs.YtloiciinmdmdkaaGreatDoor
