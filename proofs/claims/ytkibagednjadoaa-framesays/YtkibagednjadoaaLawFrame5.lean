/-
  The law FrameSays, walked: for every frame and every text the Go text returns true; nothing that was there turns. Condition: a text that came in has at most 2^47 - 4096 bytes.
-/
import Derived.Test.YtkibagednjadoaaRefFrm2
namespace Go.Proofs.Ytkibagednjadoaa
open Go.RowKit
open Go.Proofs

set_option maxRecDepth 100000 in
set_option maxHeartbeats 1000000 in
theorem frameSays_walk (a0 : Int) (b0 a1 : ByteArray) (w : World) (w0 : (Lit.int .i64 a0).wf = true) (x0 : b0.size ≤ 140737488351232) (w1 : a1.size ≤ 140737488351232) :
    Calls Try.prog 3 #[.agg #[.int .i64 a0, .string b0], .string a1] w fun e w' => e = .returned (.bool true) ∧ Up w w' := by
  obtain ⟨b, rfl⟩ : ∃ s, b0 = bs s := ⟨b0.data.toList, (bs_of b0).symm⟩
  obtain ⟨s, rfl⟩ : ∃ s, a1 = bs s := ⟨a1.data.toList, (bs_of a1).symm⟩
  rw [bs_size] at x0 w1
  have HW0 := Lib.hid w0
  have HX0 := Lib.hid x0
  have HX1 := Lib.hid w1
  have HX2 : Hid (s.length ≤ 281474976710656) := by show s.length ≤ 281474976710656; omega
  have HB1 := Lib.hid (Box2.new w 23 (.int .i64 a0) (.string (bs b)))
  obtain ⟨V, T, hP⟩ : ∃ (V : ByteArray) (T : Int), putR a0 b = .tuple #[.string V, .int .i64 T] := ⟨_, _, rfl⟩
  obtain ⟨K, B, N, E, hG⟩ : ∃ (K : Int) (B : ByteArray) (N E : Int), getR s = .tuple #[.agg #[.int .i64 K, .string B], .int .i64 N, .int .i64 E] := ⟨_, _, _, _, rfl⟩
  have HP := Lib.hid hP
  have HG := Lib.hid hG
  clear hP hG w0 w1 x0
  go_enter Try.func3, Try.ntmps3
  go_wp2_with fail
  refine (put_any a0 b _ HW0.out HX0.out).mono ?_
  rintro e w1 ⟨rfl, u1⟩
  rw [HP.out]
  obtain ⟨c1, c2⟩ := (HB1.out.up u1).cells
  go_wp2_with fail
  refine (rframe_any a0 b _ HX0.out).mono ?_
  rintro e w2 ⟨rfl, u2⟩
  rw [HP.out]
  go_wp2_with fail
  refine (get_any s _ HX2.out).mono ?_
  rintro e w3 ⟨rfl, u3⟩
  rw [HG.out]
  go_wp2_with fail
  refine (unframe_any s _ HX1.out).mono ?_
  rintro e w4 ⟨rfl, u4⟩
  rw [HG.out]
  obtain ⟨c3, c4⟩ := ((Box2.new w3 23 (.int .i64 K) (.string B)).up (u4.trans (Up.alloc w4 (.cells #[.int .i64 K, .string B] 23)))).cells
  go_wp2_with fail
  go_ret
  exact ⟨rfl, (Up.alloc _ _).trans (u1.trans (u2.trans (u3.trans ((Up.alloc _ _).trans (u4.trans (Up.alloc _ _))))))⟩

end Go.Proofs.Ytkibagednjadoaa
