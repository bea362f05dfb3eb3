/-
  The law FrameBursts, walked: for every frame, place and pattern the Go text returns true; nothing that was there turns. Condition: a text that came in has at most 2^47 - 4096 bytes.
-/
import Derived.Test.YtkibagednjadoaaLawFrame2
import Derived.Test.YtkibagednjadoaaFrameB
import Derived.Test.YtkibagednjadoaaLawBurst
namespace Go.Proofs.Ytkibagednjadoaa
open Go.RowKit
open Go.Proofs

theorem u16_nat (a : Int) (h : (Lit.int .u16 a).wf = true) : ∃ T : Nat, a = (T : Int) ∧ T < 65536 := by
  have h1 : 0 ≤ a ∧ a < 65536 := by
    simp [Lit.wf] at h
    have e1 : IntKind.u16.min = 0 := by decide
    have e2 : IntKind.u16.max = 65535 := by decide
    omega
  obtain ⟨n, rfl⟩ := Int.eq_ofNat_of_zero_le h1.1
  exact ⟨n, rfl, by omega⟩

theorem put_ab1 : putR 1 [97, 98] = .tuple #[.string (bs [1, 0, 2, 97, 98, 0, 3, 44, 46]), .int .i64 0] := by
  have : putV 1 [97, 98] = ([1, 0, 2, 97, 98, 0, 3, 44, 46], 0) := by decide +kernel
  unfold putR
  rw [this]
  rfl

set_option maxRecDepth 100000 in
set_option maxHeartbeats 1000000 in
theorem frameBursts_walk (a0 : Int) (b0 : ByteArray) (a1 a2 : Int) (w : World) (w0 : (Lit.int .i64 a0).wf = true) (x0 : b0.size ≤ 140737488351232) (_w1 : (Lit.int .i64 a1).wf = true) (w2 : (Lit.int .u16 a2).wf = true) :
    Calls Try.prog 5 #[.agg #[.int .i64 a0, .string b0], .int .i64 a1, .int .u16 a2] w fun e w' => e = .returned (.bool true) ∧ Up w w' := by
  obtain ⟨b, rfl⟩ : ∃ s, b0 = bs s := ⟨b0.data.toList, (bs_of b0).symm⟩
  obtain ⟨T, rfl, hT⟩ := u16_nat a2 w2
  rw [bs_size] at x0
  have HC := Lib.hid put_ab1
  have HW0 := Lib.hid w0
  have HX0 := Lib.hid x0
  have hszx := bs_size [1, 0, 2, 97, 98, 0, 3, 44, 46]
  rw [show [1, 0, 2, 97, 98, 0, 3, 44, (46 : UInt8)].length = 9 from rfl] at hszx
  obtain ⟨X, hX⟩ : ∃ X : List UInt8, [1, 0, 2, 97, 98, 0, 3, 44, 46] = X := ⟨_, rfl⟩
  rw [hX] at HC hszx
  have HB1 := Lib.hid (Box2.new w 23 (.int .i64 a0) (.string (bs b)))
  clear w0 w2 hX
  rcases put_cases a0 b with ⟨e, he, hp⟩ | ⟨K, rfl, k1, k2, k3, hp⟩
  · have HP := Lib.hid hp
    have d1 : ((e : Int) != 0) = true := by simp; omega
    have d2 : ((e : Int) == 0) = false := by simp; omega
    clear hp he x0
    go_enter Try.func5, Try.ntmps5
    go_wp2_with fail
    refine (put_any 1 [97, 98] _ (by decide) (by simp)).mono ?_
    rintro e1 w1 ⟨rfl, u1⟩
    rw [HC.out]
    obtain ⟨c1, c2⟩ := (HB1.out.up u1).cells
    go_wp2_with fail
    refine (put_any a0 b _ HW0.out HX0.out).mono ?_
    rintro e1 w2 ⟨rfl, u2⟩
    rw [HP.out]
    go_wp2_with fail
    go_ret
    exact ⟨rfl, (Up.alloc _ _).trans (u1.trans u2)⟩
  · have HP := Lib.hid hp
    have hl1 := frm_length K b
    have hs1 := bs_size (frm K b)
    rw [hl1] at hs1
    by_cases hT0 : T = 0
    · subst hT0
      obtain ⟨n, hn⟩ : ∃ n, b.length + 7 = n := ⟨_, rfl⟩
      rw [hn] at hs1
      obtain ⟨F, hF⟩ : ∃ F, frm K b = F := ⟨_, rfl⟩
      rw [hF] at HP hs1
      have b7 : 7 ≤ n := by omega
      have d7 : decide ((7 : Int) ≤ (n : Int)) = true := by rw [decide_eq_true_iff]; omega
      clear hp x0 hl1 hF hn
      go_enter Try.func5, Try.ntmps5
      go_wp2_with fail
      refine (put_any 1 [97, 98] _ (by decide) (by simp)).mono ?_
      rintro e1 w1 ⟨rfl, u1⟩
      rw [HC.out]
      obtain ⟨c1, c2⟩ := (HB1.out.up u1).cells
      go_wp2_with fail
      refine (put_any (K : Int) b _ HW0.out HX0.out).mono ?_
      rintro e1 w2 ⟨rfl, u2⟩
      rw [HP.out]
      go_wp2_with fail
      go_ret
      exact ⟨rfl, (Up.alloc _ _).trans (u1.trans u2)⟩
    · have hto := to_bs (frm K b) 3 3 rfl (by omega)
      have hfr := from_bs (frm K b) 3 3 rfl (by omega)
      have hdl : ((frm K b).drop 3).length = b.length + 4 := by rw [List.length_drop]; omega
      have htl : ((frm K b).take 3).length = 3 := by rw [List.length_take]; omega
      have hwl := within_lt a1 (8 * (b.length + 7 - 3) - 15) (by omega)
      have HGB : Hid (∀ (l : List UInt8) (E : Nat), l.length = b.length + 4 → sp l = sp ((frm K b).drop 3) ^^^ T * 2 ^ E → getR ((frm K b).take 3 ++ l) = .tuple #[.agg #[.int .i64 0, .string (bs [])], .int .i64 0, .int .i64 6]) :=
        fun l E h1 h2 => getR_of (get_burst K b l T E k1 k2 k3 h1 hT0 hT h2)
      have d0 : ((T : Int) == 0) = false := by simp; omega
      have hds : (bs ((frm K b).drop 3)).size = b.length + 4 := by rw [bs_size, hdl]
      have hdd : (bs ((frm K b).drop 3)).data.toList = (frm K b).drop 3 := bs_list _
      obtain ⟨F, hF⟩ : ∃ F, frm K b = F := ⟨_, rfl⟩
      rw [hF] at HP hs1 hto hfr htl hds hdd HGB
      obtain ⟨P3, hP3⟩ : ∃ P, F.take 3 = P := ⟨_, rfl⟩
      obtain ⟨D3, hD3⟩ : ∃ P, F.drop 3 = P := ⟨_, rfl⟩
      rw [hP3] at hto htl HGB
      rw [hD3] at hfr hds hdd HGB
      obtain ⟨n, hn⟩ : ∃ n, b.length + 4 = n := ⟨_, rfl⟩
      rw [show b.length + 7 = n + 3 by omega] at hs1 hwl
      rw [hn] at hds HGB
      have b4 : 4 ≤ n := by omega
      have b7 : n ≤ 704 := by omega
      rw [show 8 * (n + 3 - 3) - 15 = 8 * n - 15 by omega] at hwl
      obtain ⟨A, hA⟩ : ∃ A, within a1 (8 * n - 15) = A := ⟨_, rfl⟩
      rw [hA] at hwl
      have HA := Lib.hid hA
      have HTL := Lib.hid htl
      have HDD := Lib.hid hdd
      have HDS := Lib.hid hds
      have HT : Hid (T < 65536) := hT
      clear hp x0 hl1 hF hn hP3 hD3 hA hdl k3 htl hdd hT0
      go_enter Try.func5, Try.ntmps5
      go_wp2_with fail
      refine (put_any 1 [97, 98] _ (by decide) (by simp)).mono ?_
      rintro e1 w1 ⟨rfl, u1⟩
      rw [HC.out]
      obtain ⟨c1, c2⟩ := (HB1.out.up u1).cells
      go_wp2_with fail
      refine (put_any (K : Int) b _ HW0.out HX0.out).mono ?_
      rintro e1 w2 ⟨rfl, u2⟩
      rw [HP.out]
      go_wp2_with fail
      refine (within_any a1 (8 * (n : Int) - 15) _ (by omega) (by omega)).mono ?_
      rintro e1 w3 ⟨rfl, rfl⟩
      rw [show (8 * (n : Int) - 15).toNat = 8 * n - 15 by omega, HA.out]
      go_wp2_with fail
      go_region_held3 (fun _ => True) (trivial) (first
        | (go_at_call 14; (refine (burst_any (bs D3) A T _ (by rw [HDS.out]; omega) (by rw [HDS.out]; omega) HT.out).mono ?_); rintro e w4 ⟨l, hll, hsp, rfl, u4⟩; rw [HDS.out] at hll; rw [HDD.out] at hsp; have HSP := Lib.hid hsp; clear hsp; have hadd := add_bs P3 l (by have := HTL.out; omega); rw [show (⟨l.toArray⟩ : ByteArray) = bs l from rfl])
        | (go_at_call 10; (with_reducible refine (get_any (P3 ++ l) _ (by rw [List.length_append]; have := HTL.out; omega)).mono ?_); rintro e w5 ⟨rfl, u5⟩; rw [HGB.out l _ hll HSP.out]; (first
          | (have uu := u5; change Up (w4.alloc (.cells #[.int .i64 0, .string ⟨#[]⟩] 23)) w5 at uu; obtain ⟨⟨wz, hwz, e0, e1, hz⟩, hfz, c3, c4⟩ := set_box2 w4 w5 23 (.int .i64 0) (.string ⟨#[]⟩) (.int .i64 0) (.string (bs [])) uu; have HZ := Lib.hid hwz; have HZU := Lib.hid ((Up.drew _).trans (u4.trans hz)); clear hwz)
          | (have uu := (Up.drew _).trans (u4.trans u5); change Up (w2.alloc (.cells #[.int .i64 0, .string ⟨#[]⟩] 23)) w5 at uu; obtain ⟨⟨wz, hwz, e0, e1, hz⟩, hfz, c3, c4⟩ := set_box2 w2 w5 23 (.int .i64 0) (.string ⟨#[]⟩) (.int .i64 0) (.string (bs [])) uu; have HZ := Lib.hid hwz; have HZU := Lib.hid hz; clear hwz)
          | skip)))
      all_goals
        go_wp2_with fail
        go_ret
        exact ⟨rfl, (Up.alloc _ _).trans (u1.trans (u2.trans (by first | (rw [HZ.out]; exact HZU.out) | exact (Up.drew _).trans (u4.trans (u5.trans (Up.alloc _ _))))))⟩

end Go.Proofs.Ytkibagednjadoaa
