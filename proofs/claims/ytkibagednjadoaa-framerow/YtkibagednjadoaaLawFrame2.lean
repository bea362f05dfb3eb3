/-
  The law FrameRow, walked: for every two frames and every text the Go text returns true; nothing that was there turns. Condition: a text that came in has at most 2^47 - 4096 bytes.
-/
import Derived.Test.YtkibagednjadoaaLawFrame1
namespace Go.Proofs.Ytkibagednjadoaa
open Go.RowKit
open Go.Proofs

/-- Put answers an error and no bytes, or the frame -/
theorem put_cases (k : Int) (b : List UInt8) : (∃ e : Nat, e ≠ 0 ∧ putR k b = .tuple #[.string ⟨#[]⟩, .int .i64 (e : Int)]) ∨ (∃ K : Nat, k = (K : Int) ∧ 1 ≤ K ∧ K ≤ 255 ∧ b.length ≤ 700 ∧ putR k b = .tuple #[.string (bs (frm K b)), .int .i64 0]) := by
  unfold putR putV
  split
  · exact .inl ⟨1, by omega, rfl⟩
  · split
    · exact .inl ⟨2, by omega, rfl⟩
    · exact .inr ⟨k.toNat, by omega, by omega, by omega, by omega, rfl⟩

theorem Box2.lt {W : World} {B : Nat} {t : TypeId} {x y : Value} (h : Box2 W B t x y) : B < W.heap.size := (Array.getElem?_eq_some_iff.1 h).1
theorem Box2.up {W W' : World} {B : Nat} {t : TypeId} {x y : Value} (h : Box2 W B t x y) (u : Up W W') : Box2 W' B t x y := h.below u h.lt

theorem put_x : putR 1 [120] = .tuple #[.string (bs [1, 0, 1, 120, 1, 0, 0, 52]), .int .i64 0] := by
  have : putV 1 [120] = ([1, 0, 1, 120, 1, 0, 0, 52], 0) := by decide +kernel
  unfold putR
  rw [this]
  rfl

set_option maxRecDepth 100000 in
set_option maxHeartbeats 1000000 in
theorem frameRow_walk (a0 : Int) (b0 : ByteArray) (a1 : Int) (b1 a2 : ByteArray) (w : World) (w0 : (Lit.int .i64 a0).wf = true) (x0 : b0.size ≤ 140737488351232) (w1 : (Lit.int .i64 a1).wf = true) (x1 : b1.size ≤ 140737488351232) (w2 : a2.size ≤ 140737488351232) :
    Calls Try.prog 7 #[.agg #[.int .i64 a0, .string b0], .agg #[.int .i64 a1, .string b1], .string a2] w fun e w' => e = .returned (.bool true) ∧ Up w w' := by
  obtain ⟨b, rfl⟩ : ∃ s, b0 = bs s := ⟨b0.data.toList, (bs_of b0).symm⟩
  obtain ⟨c, rfl⟩ : ∃ s, b1 = bs s := ⟨b1.data.toList, (bs_of b1).symm⟩
  obtain ⟨m, rfl⟩ : ∃ s, a2 = bs s := ⟨a2.data.toList, (bs_of a2).symm⟩
  rw [bs_size] at x0 x1 w2
  have HC := Lib.hid put_x
  have HW0 := Lib.hid w0
  have HW1 := Lib.hid w1
  have HX0 := Lib.hid x0
  have HX1 := Lib.hid x1
  have hszx := bs_size [1, 0, 1, 120, 1, 0, 0, 52]
  rw [show [1, 0, 1, 120, 1, 0, 0, (52 : UInt8)].length = 8 from rfl] at hszx
  obtain ⟨X, hX⟩ : ∃ X : List UInt8, [1, 0, 1, 120, 1, 0, 0, 52] = X := ⟨_, rfl⟩
  rw [hX] at HC hszx
  have B1 : Box2 ((w.alloc (.cells #[.int .i64 a0, .string (bs b)] 23)).alloc (.cells #[.int .i64 a1, .string (bs c)] 23)) w.heap.size 23 (.int .i64 a0) (.string (bs b)) := (Box2.new w _ _ _).up (Up.alloc _ _)
  have B2 : Box2 ((w.alloc (.cells #[.int .i64 a0, .string (bs b)] 23)).alloc (.cells #[.int .i64 a1, .string (bs c)] 23)) (w.heap.size + 1) 23 (.int .i64 a1) (.string (bs c)) := by
    have := Box2.new (w.alloc (.cells #[.int .i64 a0, .string (bs b)] 23)) 23 (.int .i64 a1) (.string (bs c))
    rwa [World.size_alloc] at this
  have HB1 := Lib.hid B1
  have HB2 := Lib.hid B2
  have U0 : Hid (Up w ((w.alloc (.cells #[.int .i64 a0, .string (bs b)] 23)).alloc (.cells #[.int .i64 a1, .string (bs c)] 23))) := (Up.alloc _ _).trans (Up.alloc _ _)
  clear B1 B2 w0 w1 hX
  rcases put_cases a0 b with ⟨e, he, hp⟩ | ⟨K, rfl, k1, k2, k3, hp⟩
  · have HP := Lib.hid hp
    have d1 : ((e : Int) != 0) = true := by simp; omega
    have d2 : ((e : Int) == 0) = false := by simp; omega
    obtain ⟨V, T, hQ⟩ : ∃ (V : ByteArray) (T : Int), putR a1 c = .tuple #[.string V, .int .i64 T] := ⟨_, _, rfl⟩
    have HQ := Lib.hid hQ
    clear hp hQ he x0 x1 w2
    go_enter Try.func7, Try.ntmps7
    go_wp2_with fail
    refine (put_any 1 [120] _ (by decide) (by simp)).mono ?_
    rintro e1 w1 ⟨rfl, u1⟩
    rw [HC.out]
    obtain ⟨c1, c2⟩ := (HB1.out.up u1).cells
    go_wp2_with fail
    refine (put_any a0 b _ HW0.out HX0.out).mono ?_
    rintro e1 w2 ⟨rfl, u2⟩
    rw [HP.out]
    obtain ⟨c3, c4⟩ := (HB2.out.up (u1.trans u2)).cells
    go_wp2_with fail
    refine (put_any a1 c _ HW1.out HX1.out).mono ?_
    rintro e1 w3 ⟨rfl, u3⟩
    rw [HQ.out]
    go_wp2_with fail
    go_ret
    exact ⟨rfl, U0.out.trans (u1.trans (u2.trans u3))⟩
  · have HP := Lib.hid hp
    rcases put_cases a1 c with ⟨e, he, hq⟩ | ⟨J, rfl, j1, j2, j3, hq⟩
    · have HQ := Lib.hid hq
      have d1 : ((e : Int) != 0) = true := by simp; omega
      have d2 : ((e : Int) == 0) = false := by simp; omega
      clear hp hq he x0 x1 w2 k3
      go_enter Try.func7, Try.ntmps7
      go_wp2_with fail
      refine (put_any 1 [120] _ (by decide) (by simp)).mono ?_
      rintro e1 w1 ⟨rfl, u1⟩
      rw [HC.out]
      obtain ⟨c1, c2⟩ := (HB1.out.up u1).cells
      go_wp2_with fail
      refine (put_any (K : Int) b _ HW0.out HX0.out).mono ?_
      rintro e1 w2 ⟨rfl, u2⟩
      rw [HP.out]
      obtain ⟨c3, c4⟩ := (HB2.out.up (u1.trans u2)).cells
      go_wp2_with fail
      refine (put_any a1 c _ HW1.out HX1.out).mono ?_
      rintro e1 w3 ⟨rfl, u3⟩
      rw [HQ.out]
      go_wp2_with fail
      go_ret
      exact ⟨rfl, U0.out.trans (u1.trans (u2.trans u3))⟩
    · have HQ := Lib.hid hq
      have hl1 := frm_length K b
      have hl2 := frm_length J c
      have hadd1 := add_bs (frm K b) (frm J c) (by omega)
      have hadd2 := add_bs (frm K b ++ frm J c) m (by rw [List.length_append]; omega)
      have hg1 := get_put K b (frm J c ++ m) k1 k2 k3
      rw [← List.append_assoc] at hg1
      have hg2 := get_put J c m j1 j2 j3
      have hfr := from_bs (frm K b ++ frm J c ++ m) ((b.length + 7 : Nat) : Int) (b.length + 7) rfl (by rw [List.length_append, List.length_append]; omega)
      rw [show (frm K b ++ frm J c ++ m).drop (b.length + 7) = frm J c ++ m by rw [List.append_assoc]; exact List.drop_left' hl1] at hfr
      have HG1 := Lib.hid (getR_of hg1)
      have HG2 := Lib.hid (getR_of hg2)
      have HL1 : Hid ((frm K b ++ frm J c ++ m).length ≤ 281474976710656) := by show (frm K b ++ frm J c ++ m).length ≤ 281474976710656; rw [List.length_append, List.length_append]; omega
      have HL2 : Hid ((frm J c ++ m).length ≤ 281474976710656) := by show (frm J c ++ m).length ≤ 281474976710656; rw [List.length_append]; omega
      have hs1 := bs_size (frm K b)
      have hs2 := bs_size (frm J c)
      obtain ⟨F, hF⟩ : ∃ F, frm K b = F := ⟨_, rfl⟩
      obtain ⟨G, hG⟩ : ∃ G, frm J c = G := ⟨_, rfl⟩
      rw [hF] at HP hl1 hadd1 hadd2 hfr HG1 HL1 hs1
      rw [hG] at HQ hl2 hadd1 hadd2 hfr HG1 HG2 HL1 HL2 hs2
      obtain ⟨A, hA⟩ : ∃ A, F ++ G ++ m = A := ⟨_, rfl⟩
      obtain ⟨D, hD⟩ : ∃ D, F ++ G = D := ⟨_, rfl⟩
      obtain ⟨E, hE⟩ : ∃ E, G ++ m = E := ⟨_, rfl⟩
      rw [hA] at hadd2 hfr HG1 HL1
      rw [hD] at hadd1 hadd2
      rw [hE] at hfr HG2 HL2
      rw [hl1] at hs1
      rw [hl2] at hs2
      obtain ⟨n1, hn1⟩ : ∃ n, b.length + 7 = n := ⟨_, rfl⟩
      obtain ⟨n2, hn2⟩ : ∃ n, c.length + 7 = n := ⟨_, rfl⟩
      rw [hn1] at hs1 hfr HG1
      rw [hn2] at hs2 HG2
      have b1 : n1 ≤ 707 := by omega
      have b2 : n2 ≤ 707 := by omega
      clear hp hq x0 x1 w2 hg1 hg2 hl1 hl2 hF hG hA hD hE hn1 hn2 k3 j3
      go_enter Try.func7, Try.ntmps7
      go_wp2_with fail
      refine (put_any 1 [120] _ (by decide) (by simp)).mono ?_
      rintro e1 w1 ⟨rfl, u1⟩
      rw [HC.out]
      obtain ⟨c1, c2⟩ := (HB1.out.up u1).cells
      go_wp2_with fail
      refine (put_any (K : Int) b _ HW0.out HX0.out).mono ?_
      rintro e1 w2 ⟨rfl, u2⟩
      rw [HP.out]
      obtain ⟨c3, c4⟩ := (HB2.out.up (u1.trans u2)).cells
      go_wp2_with fail
      refine (put_any (J : Int) c _ HW1.out HX1.out).mono ?_
      rintro e1 w3 ⟨rfl, u3⟩
      rw [HQ.out]
      go_wp2_with fail
      refine (get_any A _ HL1.out).mono ?_
      rintro e1 w4 ⟨rfl, u4⟩
      rw [HG1.out]
      go_wp2_with fail
      refine (get_any E _ HL2.out).mono ?_
      rintro e1 w5 ⟨rfl, u5⟩
      rw [HG2.out]
      have U4 : Up w4 w5 := (Up.alloc _ _).trans u5
      obtain ⟨c5, c6⟩ := ((Box2.new w4 23 (.int .i64 (K : Int)) (.string (bs b))).up (u5.trans (Up.alloc w5 (.cells #[.int .i64 (J : Int), .string (bs c)] 23)))).cells
      obtain ⟨c7, c8⟩ := (HB1.out.up (u1.trans (u2.trans (u3.trans (u4.trans (U4.trans (Up.alloc w5 (.cells #[.int .i64 (J : Int), .string (bs c)] 23)))))))).cells
      obtain ⟨c9, c10⟩ := (HB2.out.up (u1.trans (u2.trans (u3.trans (u4.trans (U4.trans (Up.alloc w5 (.cells #[.int .i64 (J : Int), .string (bs c)] 23)))))))).cells
      go_wp2_with fail
      go_ret
      exact ⟨rfl, U0.out.trans (u1.trans (u2.trans (u3.trans (u4.trans (U4.trans (Up.alloc _ _))))))⟩

end Go.Proofs.Ytkibagednjadoaa
