/-
  The law FrameBack, walked: for every two frames, every text and every int the Go text returns true; nothing that was there turns. Condition: a text that came in has at most 2^47 - 4096 bytes.
-/
import Derived.Test.YtkibagednjadoaaLawFrame2
namespace Go.Proofs.Ytkibagednjadoaa
open Go.RowKit
open Go.Proofs

theorem put_ab2 : putR 2 [97, 98] = .tuple #[.string (bs [2, 0, 2, 97, 98, 0, 3, 47, 250]), .int .i64 0] := by
  have : putV 2 [97, 98] = ([2, 0, 2, 97, 98, 0, 3, 47, 250], 0) := by decide +kernel
  unfold putR
  rw [this]
  rfl

theorem pre_ab2 : Lib.hasPrefix (bs [2, 0, 2, 97, 98, 0, 3, 47, 250]).data.toList (⟨#[2, 0, 2, 97, 98]⟩ : ByteArray).data.toList = true := by decide +kernel

set_option maxRecDepth 100000 in
set_option maxHeartbeats 1000000 in
theorem frameBack_walk (a0 : Int) (b0 : ByteArray) (a1 : Int) (b1 a2 : ByteArray) (a3 : Int) (w : World) (w0 : (Lit.int .i64 a0).wf = true) (x0 : b0.size ≤ 140737488351232) (w1 : (Lit.int .i64 a1).wf = true) (x1 : b1.size ≤ 140737488351232) (w2 : a2.size ≤ 140737488351232) (_w3 : (Lit.int .i64 a3).wf = true) :
    Calls Try.prog 4 #[.agg #[.int .i64 a0, .string b0], .agg #[.int .i64 a1, .string b1], .string a2, .int .i64 a3] w fun e w' => e = .returned (.bool true) ∧ Up w w' := by
  obtain ⟨b, rfl⟩ : ∃ s, b0 = bs s := ⟨b0.data.toList, (bs_of b0).symm⟩
  obtain ⟨c, rfl⟩ : ∃ s, b1 = bs s := ⟨b1.data.toList, (bs_of b1).symm⟩
  obtain ⟨m, rfl⟩ : ∃ s, a2 = bs s := ⟨a2.data.toList, (bs_of a2).symm⟩
  rw [bs_size] at x0 x1 w2
  have HC := Lib.hid put_ab2
  have HPX := Lib.hid pre_ab2
  have HW0 := Lib.hid w0
  have HW1 := Lib.hid w1
  have HX0 := Lib.hid x0
  have HX1 := Lib.hid x1
  have hszx := bs_size [2, 0, 2, 97, 98, 0, 3, 47, 250]
  rw [show [2, 0, 2, 97, 98, 0, 3, 47, (250 : UInt8)].length = 9 from rfl] at hszx
  obtain ⟨X, hX⟩ : ∃ X : List UInt8, [2, 0, 2, 97, 98, 0, 3, 47, 250] = X := ⟨_, rfl⟩
  rw [hX] at HC hszx HPX
  have B1 : Box2 ((w.alloc (.cells #[.int .i64 a0, .string (bs b)] 23)).alloc (.cells #[.int .i64 a1, .string (bs c)] 23)) w.heap.size 23 (.int .i64 a0) (.string (bs b)) := (Box2.new w _ _ _).up (Up.alloc _ _)
  have B2 : Box2 ((w.alloc (.cells #[.int .i64 a0, .string (bs b)] 23)).alloc (.cells #[.int .i64 a1, .string (bs c)] 23)) (w.heap.size + 1) 23 (.int .i64 a1) (.string (bs c)) := by
    have := Box2.new (w.alloc (.cells #[.int .i64 a0, .string (bs b)] 23)) 23 (.int .i64 a1) (.string (bs c))
    rwa [World.size_alloc] at this
  have HB1 := Lib.hid B1
  have HB2 := Lib.hid B2
  have U0 : Hid (Up w ((w.alloc (.cells #[.int .i64 a0, .string (bs b)] 23)).alloc (.cells #[.int .i64 a1, .string (bs c)] 23))) := (Up.alloc _ _).trans (Up.alloc _ _)
  clear B1 B2 w0 w1 hX
  rcases put_cases a0 b with ⟨e, he, hp⟩ | ⟨K, rfl, k1, k2, k3, hp⟩
  · have HP := Lib.hid hp
    have d1 : ((e : Int) != 0) = true := by simp; omega
    have d2 : ((e : Int) == 0) = false := by simp; omega
    clear hp he x0 x1 w2
    go_enter Try.func4, Try.ntmps4
    go_wp2_with fail
    refine (put_any 2 [97, 98] _ (by decide) (by simp)).mono ?_
    rintro e1 w1 ⟨rfl, u1⟩
    rw [HC.out]
    obtain ⟨c1, c2⟩ := (HB1.out.up u1).cells
    go_wp2_with fail
    refine (Try.strings_HasPrefix (bs X) ⟨#[2, 0, 2, 97, 98]⟩ _).mono ?_
    rintro e1 w2 ⟨rfl, rfl⟩
    rw [HPX.out]
    go_wp2_with fail
    refine (put_any a0 b _ HW0.out HX0.out).mono ?_
    rintro e1 w2 ⟨rfl, u2⟩
    rw [HP.out]
    go_wp2_with fail
    go_ret
    exact ⟨rfl, U0.out.trans (u1.trans u2)⟩
  · have HP := Lib.hid hp
    have hl1 := frm_length K b
    have hg1 := get_put K b m k1 k2 k3
    have HG1 := Lib.hid (getR_of hg1)
    have hadd1 := add_bs (frm K b) m (by omega)
    have HL1 : Hid ((frm K b ++ m).length ≤ 281474976710656) := by show (frm K b ++ m).length ≤ 281474976710656; rw [List.length_append]; omega
    have hs1 := bs_size (frm K b)
    have hwl := within_lt a3 (b.length + 7) (by omega)
    have hto := to_bs (frm K b) ((within a3 (b.length + 7) : Nat) : Int) (within a3 (b.length + 7)) rfl (by omega)
    have hg3 := get_cut K b (within a3 (b.length + 7)) k1 k2 k3 hwl
    have HG3 := Lib.hid (getR_of hg3)
    have HL3 : Hid (((frm K b).take (within a3 (b.length + 7))).length ≤ 281474976710656) := by show ((frm K b).take (within a3 (b.length + 7))).length ≤ 281474976710656; rw [List.length_take]; omega
    have hmax : ∀ (ts : Array TypeId) (t : TypeId) (W : World), (Builtin.max_ ts t #[.int .i64 1, .int .i64 ((b.length + 7 : Nat) : Int)]).run Try.prog W = .ok (.int .i64 ((b.length + 7 : Nat) : Int)) W := by
      intro ts t W
      simp [Builtin.max_, Builtin.max2]
      omega
    have hcase : (∃ e : Nat, e ≠ 0 ∧ putR a1 c = .tuple #[.string ⟨#[]⟩, .int .i64 (e : Int)]) ∨ (∃ J : Nat, a1 = (J : Int) ∧ putR a1 c = .tuple #[.string (bs (frm J c)), .int .i64 0] ∧ ((K = J ∧ b = c) ∨ (frm K b ≠ frm J c ∧ ¬ (K = J ∧ b = c)))) := by
      rcases put_cases a1 c with h | ⟨J, hJ, j1, j2, j3, hq⟩
      · exact .inl h
      · refine .inr ⟨J, hJ, hq, ?_⟩
        by_cases hc : K = J ∧ b = c
        · exact .inl hc
        · exact .inr ⟨fun h => hc (frm_inj k1 k2 k3 j1 j2 j3 h), hc⟩
    obtain ⟨F, hF⟩ : ∃ F, frm K b = F := ⟨_, rfl⟩
    rw [hF] at HP hl1 hadd1 HG1 HL1 hs1 hto HG3 HL3 hcase
    rw [hl1] at hs1
    obtain ⟨n1, hn1⟩ : ∃ n, b.length + 7 = n := ⟨_, rfl⟩
    rw [hn1] at hs1 HG1 hwl hto HG3 HL3 hmax
    obtain ⟨A, hA⟩ : ∃ A, F ++ m = A := ⟨_, rfl⟩
    rw [hA] at hadd1 HG1 HL1
    obtain ⟨k, hk⟩ : ∃ k, within a3 n1 = k := ⟨_, rfl⟩
    rw [hk] at hwl hto HG3 HL3
    have HK := Lib.hid hk
    obtain ⟨T, hT⟩ : ∃ T, F.take k = T := ⟨_, rfl⟩
    rw [hT] at hto HG3 HL3
    have b1 : n1 ≤ 707 := by omega
    have b2 : 7 ≤ n1 := by omega
    have HFF := Lib.hid hF
    clear hp x0 x1 w2 hg1 hg3 hl1 hF hA hn1 k3 hk hT
    rcases hcase with ⟨e, he, hq⟩ | ⟨J, rfl, hq, hc⟩
    · have HQ := Lib.hid hq
      have d1 : ((e : Int) != 0) = true := by simp; omega
      have d2 : ((e : Int) == 0) = false := by simp; omega
      clear hq he
      go_enter Try.func4, Try.ntmps4
      go_wp2_with fail
      refine (put_any 2 [97, 98] _ (by decide) (by simp)).mono ?_
      rintro e1 w1 ⟨rfl, u1⟩
      rw [HC.out]
      obtain ⟨c1, c2⟩ := (HB1.out.up u1).cells
      go_wp2_with fail
      refine (Try.strings_HasPrefix (bs X) ⟨#[2, 0, 2, 97, 98]⟩ _).mono ?_
      rintro e1 w2 ⟨rfl, rfl⟩
      rw [HPX.out]
      go_wp2_with fail
      refine (put_any (K : Int) b _ HW0.out HX0.out).mono ?_
      rintro e1 w2 ⟨rfl, u2⟩
      rw [HP.out]
      go_wp2_with fail
      refine (get_any A _ HL1.out).mono ?_
      rintro e1 w4 ⟨rfl, u4⟩
      rw [HG1.out]
      go_wp2_with fail
      refine (within_any a3 n1 _ (by omega) (by omega)).mono ?_
      rintro e1 w5 ⟨rfl, rfl⟩
      rw [show (n1 : Int).toNat = n1 from rfl, HK.out]
      go_wp2_with fail
      refine (get_any T _ HL3.out).mono ?_
      rintro e1 w6 ⟨rfl, u6⟩
      rw [HG3.out]
      have U6 : Up w4 w6 := (Up.alloc _ _).trans u6
      obtain ⟨c3, c4⟩ := (HB2.out.up (u1.trans (u2.trans (u4.trans (U6.trans (Up.alloc w6 (.cells #[.int .i64 0, .string (bs [])] 23))))))).cells
      go_wp2_with fail
      refine (put_any a1 c _ HW1.out HX1.out).mono ?_
      rintro e1 w7 ⟨rfl, u7⟩
      rw [HQ.out]
      have U7 : Up w6 w7 := (Up.alloc _ _).trans u7
      obtain ⟨c5, c6⟩ := (HB1.out.up (u1.trans (u2.trans (u4.trans (U6.trans U7))))).cells
      obtain ⟨c7, c8⟩ := ((Box2.new w4 23 (.int .i64 (K : Int)) (.string (bs b))).up (u6.trans U7)).cells
      go_wp2_with fail
      go_ret
      exact ⟨rfl, U0.out.trans (u1.trans (u2.trans (u4.trans (U6.trans U7))))⟩
    · have HQ := Lib.hid hq
      clear hq
      obtain ⟨G, hG⟩ : ∃ G, frm J c = G := ⟨_, rfl⟩
      rw [hG] at HQ hc
      go_enter Try.func4, Try.ntmps4
      go_wp2_with fail
      refine (put_any 2 [97, 98] _ (by decide) (by simp)).mono ?_
      rintro e1 w1 ⟨rfl, u1⟩
      rw [HC.out]
      obtain ⟨c1, c2⟩ := (HB1.out.up u1).cells
      go_wp2_with fail
      refine (Try.strings_HasPrefix (bs X) ⟨#[2, 0, 2, 97, 98]⟩ _).mono ?_
      rintro e1 w2 ⟨rfl, rfl⟩
      rw [HPX.out]
      go_wp2_with fail
      refine (put_any (K : Int) b _ HW0.out HX0.out).mono ?_
      rintro e1 w2 ⟨rfl, u2⟩
      rw [HP.out]
      go_wp2_with fail
      refine (get_any A _ HL1.out).mono ?_
      rintro e1 w4 ⟨rfl, u4⟩
      rw [HG1.out]
      go_wp2_with fail
      refine (within_any a3 n1 _ (by omega) (by omega)).mono ?_
      rintro e1 w5 ⟨rfl, rfl⟩
      rw [show (n1 : Int).toNat = n1 from rfl, HK.out]
      go_wp2_with fail
      refine (get_any T _ HL3.out).mono ?_
      rintro e1 w6 ⟨rfl, u6⟩
      rw [HG3.out]
      have U6 : Up w4 w6 := (Up.alloc _ _).trans u6
      obtain ⟨c3, c4⟩ := (HB2.out.up (u1.trans (u2.trans (u4.trans (U6.trans (Up.alloc w6 (.cells #[.int .i64 0, .string (bs [])] 23))))))).cells
      go_wp2_with fail
      refine (put_any (J : Int) c _ HW1.out HX1.out).mono ?_
      rintro e1 w7 ⟨rfl, u7⟩
      rw [HQ.out]
      have U7 : Up w6 w7 := (Up.alloc _ _).trans u7
      obtain ⟨c5, c6⟩ := (HB1.out.up (u1.trans (u2.trans (u4.trans (U6.trans U7))))).cells
      obtain ⟨c7, c8⟩ := ((Box2.new w4 23 (.int .i64 (K : Int)) (.string (bs b))).up (u6.trans U7)).cells
      obtain ⟨c9, c10⟩ := (HB2.out.up (u1.trans (u2.trans (u4.trans (U6.trans U7))))).cells
      rcases hc with ⟨rfl, rfl⟩ | ⟨hne, hc⟩
      · obtain rfl : F = G := by rw [← HFF.out, ← hG]
        clear hG
        go_wp2_with fail
        go_ret
        exact ⟨rfl, U0.out.trans (u1.trans (u2.trans (u4.trans (U6.trans U7))))⟩
      · have f1 : ((bs F).toList == (bs G).toList) = false := by
          rw [ByteArray.toList_eq, ByteArray.toList_eq, bs_list, bs_list]
          simpa using hne
        clear hG
        by_cases hKJ : K = J
        · subst hKJ
          have f2 : ((bs b).toList == (bs c).toList) = false := by
            rw [ByteArray.toList_eq, ByteArray.toList_eq, bs_list, bs_list]
            simpa using hc
          clear hc hne
          go_wp2_with fail
          go_ret
          exact ⟨rfl, U0.out.trans (u1.trans (u2.trans (u4.trans (U6.trans U7))))⟩
        · have f2 : ¬ (K : Int) = (J : Int) := by omega
          clear hc hne hKJ
          go_wp2_with fail
          go_ret
          exact ⟨rfl, U0.out.trans (u1.trans (u2.trans (u4.trans (U6.trans U7))))⟩

end Go.Proofs.Ytkibagednjadoaa
