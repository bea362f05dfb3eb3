/-
  What box's Shut, unpack, read and Open return. Conditions: one cell of the table deBruijn64tab (Tab); a text of at most 2^48 bytes.
-/
import Derived.Test.YtloiciinmdmdkaaGreatDoorBoxM
import Derived.Test.YtloiciinmdmdkaaGreatDoorLzP
import Derived.Test.YtloiciinmdmdkaaGreatDoorPack5
import Derived.Test.YtloiciinmdmdkaaGreatDoorPack3
import Derived.Test.YtloiciinmdmdkaaGreatDoorClone
namespace Go.Proofs.YtloiciinmdmdkaaGreatDoor
open Go.RowKit
open Go.Proofs
open WoolLz WoolPack WoolBox

set_option maxRecDepth 100000 in
theorem parse_long (s : ByteArray) (V : Int) (w : World) (hs : 600 < s.size) :
    Calls Tryz.prog 13 #[.string s, .int .i64 V] w fun e w' => e = .returned (.tuple #[.slice none 0 0, .int .i64 2]) ∧ w = w' := by
  go_enter Tryz.func13, Tryz.ntmps13
  go_wp2_with fail
  refine (longest_large s 0 V _ hs).mono ?_
  rintro e v1 ⟨rfl, rfl⟩
  go_wp2_with fail
  go_ret2
  exact ⟨rfl, rfl⟩

theorem bitsV_par (s : List UInt8) (h : s.length ≤ 600) : bitsV (par s 256 0) = .tuple #[.string (bs (pack (par s 256 0))), .int .i64 0] := by
  unfold bitsV
  rw [par_good s h]
  rfl

theorem bytesV_pack (l : List Tok) : bytesV (pack l) = .tuple #[.string (bs (byts (pack l))), .int .i64 0] := by
  unfold bytesV
  rw [if_pos (isB_pack l), if_pos (isB_pack l)]

theorem pack_par_len (s : List UInt8) (h : s.length ≤ 600) : (pack (par s 256 0)).length ≤ 18600 := by
  have h0 : (exp [] (par s 256 0)).1 = 0 := by rw [par_good s h]
  have h1 := pack_bound (par s 256 0) (exp_good _ [] h0)
  have h2 := exp_few _ h0
  omega

set_option maxRecDepth 100000 in
set_option maxHeartbeats 400000 in
theorem shut_ok (s : List UInt8) (w : World) (hs : s.length ≤ 600) (hT : Tab w) :
    Calls Tryz.prog 5 #[.string (bs s)] w fun e w' => e = .returned (.tuple #[.string (bs (shut s)), .int .i64 0]) ∧ Up w w' := by
  have hsz := bs_size s
  have hsz2 := bs_size (shv s)
  have hbl := pack_par_len s hs
  have hshl := shv_len s
  have HP := Lib.hid (parse_ok (bs s) 256 w (by rw [hsz]; exact hs) (by omega) (by omega))
  have HL := Lib.hid (show (bs s).data.toList = s from bs_list s)
  have HB := Lib.hid (bitsV_par s hs)
  have HY := Lib.hid (bytesV_pack (par s 256 0))
  rw [show byts (pack (par s 256 0)) = shv s from rfl] at HY
  have hadd1 := add_bs [1] (shv s) (by rw [hshl]; simp; omega)
  have hadd0 := add_bs [0] s (by simp; omega)
  rw [List.singleton_append] at hadd1 hadd0
  have HS1 : Hid ((shv s).length < s.length → shut s = 1 :: shv s) := fun h => by unfold shut; rw [if_pos h]
  have HS0 : Hid (¬ (shv s).length < s.length → shut s = 0 :: s) := fun h => by unfold shut; rw [if_neg h]
  have HPL : Hid ((pack (par s 256 0)).length ≤ 140737488351232) := by show (pack (par s 256 0)).length ≤ 140737488351232; omega
  obtain ⟨n, hn⟩ : ∃ n, s.length = n := ⟨_, rfl⟩
  obtain ⟨m, hm⟩ : ∃ m, (shv s).length = m := ⟨_, rfl⟩
  rw [hn] at hsz hs HS1 HS0
  rw [hm] at hsz2 hshl HS1 HS0
  have hm2 : m ≤ 3000 := by omega
  clear hbl hshl hn hm
  go_enter Tryz.func5, Tryz.ntmps5
  go_wp2_with fail
  refine HP.out.mono ?_
  rintro e w1 ⟨v, rfl, hot, u1⟩
  rw [HL.out] at hot
  have HO := Lib.hid (OToks.toks hot)
  clear hot
  go_wp2_with fail
  refine (bits_any v (par s 256 0) _ HO.out (hT.up u1)).mono ?_
  rintro e w2 ⟨rfl, u2⟩
  rw [HB.out]
  go_wp2_with fail
  refine (bytesP_any (pack (par s 256 0)) _ HPL.out).mono ?_
  rintro e w3 ⟨rfl, u3⟩
  rw [HY.out]
  by_cases hlt : m < n
  · rw [show (bs [1] : ByteArray) = ⟨#[1]⟩ from rfl] at hadd1
    go_wp2_with fail
    go_ret2
    exact ⟨by rw [HS1.out hlt]; rfl, u1.trans (u2.trans u3)⟩
  · rw [show (bs [0] : ByteArray) = ⟨#[0]⟩ from rfl] at hadd0
    go_wp2_with fail
    go_ret2
    exact ⟨by rw [HS0.out hlt]; rfl, u1.trans (u2.trans u3)⟩

set_option maxRecDepth 100000 in
theorem shut_long (s : List UInt8) (w : World) (hs : 600 < s.length) :
    Calls Tryz.prog 5 #[.string (bs s)] w fun e w' => e = .returned (.tuple #[.string (bs []), .int .i64 2]) ∧ w = w' := by
  have HS : Hid (600 < (bs s).size) := by show 600 < (bs s).size; rw [bs_size]; exact hs
  clear hs
  go_enter Tryz.func5, Tryz.ntmps5
  go_wp2_with fail
  refine (parse_long (bs s) 256 _ HS.out).mono ?_
  rintro e w1 ⟨rfl, rfl⟩
  go_wp2_with fail
  go_ret2
  exact ⟨rfl, rfl⟩

end Go.Proofs.YtloiciinmdmdkaaGreatDoor
