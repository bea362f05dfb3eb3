/-
  The law BoxSays, walked: for every two texts the Go text returns true; nothing that was there turns. Conditions: a text that came in has at most 1048576 bytes; one cell of the table deBruijn64tab (Tab).
-/
import Derived.Test.YtloiciinmdmdkaaGreatDoorRefBox
namespace Go.Proofs.YtloiciinmdmdkaaGreatDoor
open Go.RowKit
open Go.Proofs
open WoolLz WoolPack WoolBox

set_option maxRecDepth 100000 in
set_option maxHeartbeats 1000000 in
theorem boxSays_walk (a0 a1 : ByteArray) (w : World) (w0 : a0.size ≤ 1048576) (w1 : a1.size ≤ 1048576) (hT : Tab w) :
    Calls Tryz.prog 3 #[.string a0, .string a1] w fun e w' => e = .returned (.bool true) ∧ Up w w' := by
  obtain ⟨s, rfl⟩ : ∃ s, a0 = bs s := ⟨a0.data.toList, (bs_of a0).symm⟩
  obtain ⟨b, rfl⟩ : ∃ s, a1 = bs s := ⟨a1.data.toList, (bs_of a1).symm⟩
  have hsz := bs_size s
  rw [hsz] at w0
  rw [bs_size] at w1
  have HB : Hid (b.length ≤ 1048577) := by show b.length ≤ 1048577; omega
  obtain ⟨V, T, hO⟩ : ∃ (V : ByteArray) (T : Int), openR b = .tuple #[.string V, .int .i64 T] := ⟨_, _, rfl⟩
  have HO := Lib.hid hO
  clear hO w1
  by_cases hl : s.length ≤ 600
  · have HL := Lib.hid hl
    obtain ⟨Z, hZ⟩ : ∃ Z, shut s = Z := ⟨_, rfl⟩
    have HZ := Lib.hid hZ
    obtain ⟨n, hn⟩ : ∃ n, s.length = n := ⟨_, rfl⟩
    rw [hn] at hsz w0 hl
    clear hn hZ
    go_enter Tryz.func3, Tryz.ntmps3
    go_wp2_with fail
    refine (shut_ok s _ HL.out hT).mono ?_
    rintro e v1 ⟨rfl, u1⟩
    rw [HZ.out]
    go_wp2_with fail
    refine (rShut_any s _ HL.out).mono ?_
    rintro e v2 ⟨rfl, u2⟩
    rw [HZ.out]
    go_wp2_with fail
    refine (open_any b _ ((hT.up u1).up u2)).mono ?_
    rintro e v3 ⟨rfl, u3⟩
    rw [HO.out]
    go_wp2_with fail
    refine (rOpen_any b _ HB.out).mono ?_
    rintro e v4 ⟨rfl, u4⟩
    rw [HO.out]
    go_wp2_with fail
    go_ret
    exact ⟨rfl, u1.trans (u2.trans (u3.trans u4))⟩
  · have HL : Hid (600 < s.length) := by show 600 < s.length; omega
    obtain ⟨n, hn⟩ : ∃ n, s.length = n := ⟨_, rfl⟩
    rw [hn] at hsz w0 hl
    clear hn
    go_enter Tryz.func3, Tryz.ntmps3
    go_wp2_with fail
    refine (shut_long s _ HL.out).mono ?_
    rintro e v1 ⟨rfl, rfl⟩
    rw [show (bs [] : ByteArray) = ⟨#[]⟩ from rfl]
    go_wp2_with fail
    refine (open_any b _ hT).mono ?_
    rintro e v3 ⟨rfl, u3⟩
    rw [HO.out]
    go_wp2_with fail
    refine (rOpen_any b _ HB.out).mono ?_
    rintro e v4 ⟨rfl, u4⟩
    rw [HO.out]
    go_wp2_with fail
    go_ret
    exact ⟨rfl, u3.trans u4⟩

end Go.Proofs.YtloiciinmdmdkaaGreatDoor
