/-
  The law LzRuns, walked: for every byte and every two numbers the Go text returns true. No condition.
-/
import Derived.Test.YtbcebfjnpeacnaaLawLz1
import Derived.Test.YtbcebfjnpeacnaaTokEq
import Derived.Test.YtbcebfjnpeacnaaWithin
import Derived.Test.YtbcebfjnpeacnaaShelf
namespace Go.Proofs.Ytbcebfjnpeacnaa
open Go.RowKit
open Go.Proofs
open WoolLz
open WoolMatch

theorem aaa1 : par (⟨#[97, 97, 97]⟩ : ByteArray).data.toList 1 0 = [⟨0, 0, 97⟩, ⟨1, 2, 0⟩] := by kernel_rfl

theorem repeat_one (c : UInt8) : ∀ n, Lib.repeatL [c] n = List.replicate n c
  | 0 => rfl
  | n + 1 => by unfold Lib.repeatL; rw [repeat_one c n]; rfl

/-- m bytes from c on -/
def fromB (c : UInt8) (m : Nat) : List UInt8 := (List.range m).map fun k => UInt8.ofNat (c.toNat + k)

theorem fromB_length (c : UInt8) (m : Nat) : (fromB c m).length = m := by unfold fromB; rw [List.length_map, List.length_range]
theorem fromB_succ (c : UInt8) (m : Nat) : fromB c (m + 1) = fromB c m ++ [UInt8.ofNat (c.toNat + m)] := by
  unfold fromB; rw [List.range_succ, List.map_append]; rfl
theorem fromB_get (c : UInt8) (m k : Nat) (h : k < m) : (fromB c m)[k]? = some (UInt8.ofNat (c.toNat + k)) := by
  unfold fromB; rw [List.getElem?_map, List.getElem?_range h]; rfl

theorem fromB_unlike (c : UInt8) (m : Nat) (hm : m ≤ 256) : ∀ i j, i < (fromB c m).length → j < i → (fromB c m)[i]? ≠ (fromB c m)[j]? := by
  intro i j hi hj h
  rw [fromB_length] at hi
  rw [fromB_get c m i hi, fromB_get c m j (by omega)] at h
  have h1 := congrArg UInt8.toNat (Option.some.inj h)
  rw [UInt8.toNat_ofNat', UInt8.toNat_ofNat'] at h1
  omega

theorem u8_wrap (c : UInt8) (k : Nat) (_hk : k ≤ 256) : wrap64 ((c.toNat : Int) + (k : Int)) % 256 = ((UInt8.ofNat (c.toNat + k)).toNat : Int) := by
  have := UInt8.toNat_lt c
  rw [UInt8.toNat_ofNat']
  unfold wrap64
  omega

def RunRel (c : UInt8) (M : Nat) (w : World) (all i : Value) (wr : World) : Prop :=
  ∃ k : Nat, k ≤ M ∧ i = .int .i64 k ∧ Bytes wr w.heap.size all (fromB c k) ∧ Up w wr

set_option maxRecDepth 100000 in
set_option maxHeartbeats 1000000 in
theorem lzRuns_walk (a0 a1 a2 : Int) (w : World) (w0 : (Lit.int .u8 a0).wf = true) (_w1 : (Lit.int .i64 a1).wf = true) (_w2 : (Lit.int .i64 a2).wf = true) :
    Calls Try.prog 11 #[.int .u8 a0, .int .i64 a1, .int .i64 a2] w fun e w' => e = .returned (.bool true) ∧ Up w w' := by
  obtain ⟨c, rfl⟩ := byte_of a0 w0
  clear w0
  obtain ⟨i0, hi, hz0, hz1, hz2⟩ := info_parts byteInfo
  have HI := Lib.hid hi
  have HZ0 := Lib.hid hz0
  have HZ1 := Lib.hid hz1
  have HZ2 := Lib.hid hz2
  have hwc := wrap_byte c
  clear hi hz0 hz1 hz2
  go_enter Try.func11, Try.ntmps11
  go_wp2_with fail
  refine (parse_ok ⟨#[97, 97, 97]⟩ 1 _ (by decide) (by omega) (by omega)).mono ?_
  rintro e v1 ⟨x1, rfl, ht1, u1⟩
  rw [aaa1] at ht1
  obtain ⟨o1, c1, rfl⟩ := ht1.shape
  go_wp2_with fail
  refine (equalT_yes _ _ [⟨0, 0, 97⟩, ⟨1, 2, 0⟩] _ (ht1.toks.up (Up.alloc _ _)) (Toks.laid v1 [⟨0, 0, 97⟩, ⟨1, 2, 0⟩] (by decide))).mono ?_
  rintro e v2 ⟨rfl, u2⟩
  have U2 := Lib.hid (u1.trans (Up.after _ _ _ u2))
  clear u1 u2 ht1
  go_wp2_with fail
  refine (within_some a1 300 300 _ rfl (by omega) (by omega)).mono ?_
  rintro e v3 ⟨N, hN, rfl, rfl⟩
  go_wp2_with fail
  refine (within_some a2 256 256 _ rfl (by omega) (by omega)).mono ?_
  rintro e v4 ⟨M, hM, rfl, rfl⟩
  have hcv := conv_byte c v2
  go_wp2_with fail
  clear hcv
  refine (Try.strings_Repeat ⟨#[c]⟩ N _ (by omega) (by rw [show (⟨#[c]⟩ : ByteArray).size = 1 from rfl]; omega)).mono ?_
  rintro e v5 ⟨rfl, u5⟩
  have U5 := Lib.hid (U2.out.trans (Up.after _ _ _ u5))
  clear u5
  rw [one_byte, repeat_one]
  go_wp2_with fail
  refine (parse_ok ⟨(List.replicate N c).toArray⟩ 5 _ (by rw [arr_size, List.length_replicate]; omega) (by omega) (by omega)).mono ?_
  rintro e v6 ⟨x6, rfl, ht6, u6⟩
  rw [arr_list] at ht6
  obtain ⟨o6, c6, rfl⟩ := ht6.shape
  have U6 := Lib.hid (U5.out.trans u6)
  have hl6 : (par (List.replicate N c) 5 0).length = if N = 0 then 0 else 1 + (N - 1 + 63) / 64 := by
    by_cases h0 : N = 0
    · rw [if_pos h0, h0]; rfl
    · rw [if_neg h0]; exact run_all c N 5 (by omega) (by omega)
  obtain ⟨P, hP⟩ : ∃ P, (par (List.replicate N c) 5 0).length = P := ⟨_, rfl⟩
  rw [hP] at hl6 ⊢
  have HP := Lib.hid hl6
  clear ht6 u6 hP hl6
  go_wp2_with fail
  go_loopw [11, 45] (fun all i wr => RunRel c M w all i wr) (fun _ i _ => M - (intOf i).toNat)
  case atStart => exact ⟨0, Nat.zero_le _, rfl, Bytes.nil _ _, U6.out⟩
  case round =>
    obtain ⟨k, hk, rfl, hby, hu⟩ := hrel
    have HBY := Lib.hid hby
    have HU := Lib.hid hu
    have hsz := hu.size
    by_cases hlt : k < M
    · have d1 : decide (k < M) = true := decide_eq_true hlt
      obtain ⟨ob, cb, rfl⟩ := hby.slice
      have hlen := fromB_length c k
      have hnx := fromB_succ c k
      have hwk := u8_wrap c k (by omega)
      obtain ⟨x, hx⟩ : ∃ x, UInt8.ofNat (c.toNat + k) = x := ⟨_, rfl⟩
      rw [hx] at hnx hwk
      have HNX := Lib.hid hnx
      have HLEN := Lib.hid hlen
      clear hby hu hnx hx hlen
      go_wp2_with (at_builtin; refine wpList_append_own _ rfl _ _ 46 rfl w.heap.size 5 i0 (.int .u8 0) 1 1 Try.underlying46 HI.out HZ0.out HZ1.out HZ2.out rfl (by decide) _ _ _ rfl (World.ownsRow.alloc HBY.out _) ⟨wr.heap.size, 0, none⟩ 1 1 [.int .u8 (x.toNat : Int)] rfl rfl (cell_one_new _ _ _) (one_memB _ rfl) (by have := HLEN.out; unfold maxLen; omega) (by have := HLEN.out; omega) (by simp; omega) ?_; intro v' w3 hown hgrow _)
      have hB3 : Bytes w3 w.heap.size v' (fromB c (k + 1)) := by
        unfold Bytes
        rw [HNX.out, byteL_snoc, List.length_append]
        exact hown
      have hu3 : Up w w3 := grown_upB (HU.out.trans (Up.alloc _ _)) (World.ownsRow.alloc HBY.out _) hgrow
      have H1 := Lib.hid hB3
      have H2 := Lib.hid hu3
      clear hB3 hu3 hown hgrow hwk
      go_roundw
      case rel => exact ⟨k + 1, by omega, by go_num, H1.out, H2.out⟩
      case measure => simp only [intOf]; omega
    · have d1 : decide (k < M) = false := decide_eq_false hlt
      obtain rfl : k = M := by omega
      have hconv := hby.conv
      have hul := unlike (fromB c k) 256 (fromB_unlike c k (by omega)) (fromB c k).length 0 (by omega)
      have hln := fromB_length c k
      rw [hln] at hul
      have HUL := Lib.hid hul
      have HLN := Lib.hid hln
      clear hby hul hln
      go_wp2_with fail
      clear hconv
      refine (parse_ok ⟨(fromB c k).toArray⟩ 256 _ (by rw [arr_size, HLN.out]; omega) (by omega) (by omega)).mono ?_
      rintro e v7 ⟨x7, rfl, ht7, u7⟩
      rw [arr_list] at ht7
      have hul := HUL.out
      obtain ⟨l, hl⟩ : ∃ l, par (fromB c k) 256 0 = l := ⟨_, rfl⟩
      rw [hl] at ht7 hul
      clear hl HUL HLN HBY
      obtain ⟨o7, c7, rfl, g2, g3, g4⟩ := ht7.toks
      unfold maxLen at g3
      have H4 := Lib.hid g4
      have U7 := Lib.hid (HU.out.trans u7)
      obtain ⟨hl1, hl2⟩ := hul
      have hlk : l.length = k := by omega
      have HL2 := Lib.hid hl2
      clear ht7 u7 g4 hl2 hl1
      go_wp2_with fail
      have HLK := Lib.hid hlk
      clear hlk
      go_loopw [77] (fun i wr => TEqRel k v7 i wr) (fun i _ => k - (intOf i).toNat)
      case atStart => exact ⟨0, Nat.zero_le _, rfl, Up.refl v7⟩
      case round =>
        obtain ⟨j, hj, rfl, hu8⟩ := hrel
        by_cases hjk : j < k
        · have hjl : j < l.length := by have := HLK.out; omega
          rcases H4.out with h5 | ⟨b, off, rfl, h5⟩
          · rw [h5] at hjl; simp at hjl
          · obtain ⟨e1, e2, e3⟩ := h5 j hjl
            rw [← hu8.cell (World.block_lt_of_cell? v7 _ e1)] at e1
            rw [← hu8.cell (World.block_lt_of_cell? v7 _ e2)] at e2
            rw [← hu8.cell (World.block_lt_of_cell? v7 _ e3)] at e3
            have hz := HL2.out l[j] (List.getElem_mem hjl)
            obtain ⟨⟨td, tl, tb⟩, ht⟩ : ∃ t, l[j] = t := ⟨_, rfl⟩
            rw [ht] at e1 e2 e3 hz
            obtain rfl : tl = 0 := hz
            have HU8 := Lib.hid hu8
            have d2 : decide (j < k) = true := decide_eq_true hjk
            have hck : k ≤ c7 := by have := HLK.out; omega
            clear h5 ht hu8
            go_wp2_with fail
            go_roundw
            case rel => exact ⟨j + 1, by omega, by go_num, HU8.out.trans (Up.alloc _ _)⟩
            case measure => simp only [intOf]; omega
        · have d2 : decide (j < k) = false := decide_eq_false hjk
          have U8 := Lib.hid (U7.out.trans hu8)
          have hP := HP.out
          clear HP hu8
          by_cases h0 : N = 0
          · rw [if_pos h0] at hP
            subst hP h0
            go_wp2_with fail
            go_ret
            exact ⟨rfl, U8.out⟩
          · rw [if_neg h0] at hP
            have g1 : ((N : Int) == 0) = false := by rw [beq_eq_false_iff_ne]; omega
            have g2 : decide (0 < N) = true := by rw [decide_eq_true_iff]; omega
            have g3 : ((P : Int) == 1 + ((N : Int) - 1 + 63) / 64) = true := by rw [beq_iff_eq]; omega
            clear hP
            go_wp2_with fail
            go_ret
            exact ⟨rfl, U8.out⟩

end Go.Proofs.Ytbcebfjnpeacnaa
