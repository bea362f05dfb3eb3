/-
  The law FrameOne, walked: for every text the Go text returns true; nothing that was there turns. Condition: a text that came in has at most 2^47 - 4096 bytes.
-/
import Derived.Test.YtkibagednjadoaaFrame2
import Derived.Test.YtkibagednjadoaaFrame3
namespace Go.Proofs.Ytkibagednjadoaa
open Go.RowKit
open Go.Proofs

theorem get_const : getR [1, 0, 0, 0, 0, 0, 0] = .tuple #[.agg #[.int .i64 0, .string (bs [])], .int .i64 0, .int .i64 6] := by
  have : getV [1, 0, 0, 0, 0, 0, 0] = ((0, []), 0, 6) := by decide +kernel
  unfold getR
  rw [this]
  rfl

theorem getR_of {s : List UInt8} {K : Nat} {b : List UInt8} {n e : Nat} (h : getV s = ((K, b), n, e)) : getR s = .tuple #[.agg #[.int .i64 (K : Int), .string (bs b)], .int .i64 (n : Int), .int .i64 (e : Int)] := by
  unfold getR
  rw [h]
  rfl

theorem putR_ok {K : Nat} {b : List UInt8} (h0 : 1 ≤ K) (h1 : K ≤ 255) (h2 : b.length ≤ 700) : putR (K : Int) b = .tuple #[.string (bs (frm K b)), .int .i64 0] := by
  unfold putR putV
  rw [if_neg (by omega), if_neg (by omega)]
  rfl

theorem wf_small (K : Nat) (h : K ≤ 9223372036854775807) : (Lit.int .i64 (K : Int)).wf = true := by
  simp only [Lit.wf, Bool.and_eq_true, decide_eq_true_eq]
  exact ⟨by show (-9223372036854775808 : Int) ≤ _; omega, by show _ ≤ (9223372036854775807 : Int); omega⟩

set_option maxRecDepth 100000 in
set_option maxHeartbeats 1000000 in
theorem frameOne_walk (a0 : ByteArray) (w : World) (w0 : a0.size ≤ 140737488351232) :
    Calls Try.prog 6 #[.string a0] w fun e w' => e = .returned (.bool true) ∧ Up w w' := by
  obtain ⟨s, rfl⟩ : ∃ s, a0 = bs s := ⟨a0.data.toList, (bs_of a0).symm⟩
  have hsz := bs_size s
  rw [hsz] at w0
  have HC := Lib.hid get_const
  by_cases he : (getV s).2.2 = 0
  · obtain ⟨K, b, h0, h1, h2, h3, h4, h5⟩ := get_ok s he
    have HG := Lib.hid (getR_of h4)
    have HP := Lib.hid (putR_ok h0 h1 h2)
    have hto := to_bs s ((b.length + 7 : Nat) : Int) (b.length + 7) rfl h3
    rw [h5] at hto
    have HW := Lib.hid (wf_small K (by omega))
    have HB : Hid (b.length ≤ 140737488351232) := by show b.length ≤ 140737488351232; omega
    have HS : Hid (s.length ≤ 281474976710656) := by show s.length ≤ 281474976710656; omega
    obtain ⟨n, hn⟩ : ∃ n, s.length = n := ⟨_, rfl⟩
    rw [hn] at hsz w0 h3
    obtain ⟨m, hm⟩ : ∃ m, b.length + 7 = m := ⟨_, rfl⟩
    rw [hm] at hto h3 HG
    obtain ⟨F, hF⟩ : ∃ F, frm K b = F := ⟨_, rfl⟩
    rw [hF] at hto HP
    clear he h4 h5 h2 hn hm hF
    go_enter Try.func6, Try.ntmps6
    go_wp2_with fail
    refine (get_any [1, 0, 0, 0, 0, 0, 0] _ (by simp)).mono ?_
    rintro e w1 ⟨rfl, u1⟩
    rw [HC.out]
    go_wp2_with fail
    refine (get_any s _ HS.out).mono ?_
    rintro e w2 ⟨rfl, u2⟩
    rw [HG.out]
    go_wp2_with fail
    refine (put_any (K : Int) b _ HW.out HB.out).mono ?_
    rintro e w3 ⟨rfl, u3⟩
    rw [HP.out]
    go_wp2_with fail
    go_ret
    exact ⟨rfl, u1.trans ((Up.alloc _ _).trans (u2.trans ((Up.alloc _ _).trans u3)))⟩
  · obtain ⟨h1, h2⟩ := get_err s he
    obtain ⟨E, hE⟩ : ∃ E, (getV s).2.2 = E := ⟨_, rfl⟩
    rw [hE] at he
    have HG := Lib.hid (getR_of (s := s) (K := 0) (b := []) (n := 0) (e := E) (Prod.ext h1 (Prod.ext h2 hE)))
    have d1 : ((E : Int) != 0) = true := by simp; omega
    have d2 : ((E : Int) == 0) = false := by simp; omega
    have HS : Hid (s.length ≤ 281474976710656) := by show s.length ≤ 281474976710656; omega
    clear he h1 h2 hE hsz w0
    go_enter Try.func6, Try.ntmps6
    go_wp2_with fail
    refine (get_any [1, 0, 0, 0, 0, 0, 0] _ (by simp)).mono ?_
    rintro e w1 ⟨rfl, u1⟩
    rw [HC.out]
    go_wp2_with fail
    refine (get_any s _ HS.out).mono ?_
    rintro e w2 ⟨rfl, u2⟩
    rw [HG.out]
    rw [show bs [] = ⟨#[]⟩ from rfl]
    go_wp2_with fail
    go_ret
    exact ⟨rfl, u1.trans ((Up.alloc _ _).trans (u2.trans (Up.alloc _ _)))⟩

end Go.Proofs.Ytkibagednjadoaa
