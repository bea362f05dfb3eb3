/-
  The law LzBack, walked: for every text, every window and every number the Go text returns true. Conditions: a text that came in has at most 2^47 - 4096 bytes.
-/
import Derived.Test.YtbcebfjnpeacnaaLawLz1
import Derived.Test.YtbcebfjnpeacnaaTokEq
import Derived.Test.YtbcebfjnpeacnaaWithin
import Derived.Test.YtbcebfjnpeacnaaShelf
namespace Go.Proofs.Ytbcebfjnpeacnaa
open Go.RowKit
open Go.Proofs
open WoolLz
open WoolMatch

theorem ababab9 : par (⟨#[97, 98, 97, 98, 97, 98]⟩ : ByteArray).data.toList 9 0 = [⟨0, 0, 97⟩, ⟨0, 0, 98⟩, ⟨2, 4, 0⟩] := by kernel_rfl

theorem ba_again (a : ByteArray) : (⟨a.data.toList.toArray⟩ : ByteArray) = a := by
  cases a; simp

theorem Toks.take {w : World} {o : Option Addr} {n c : Nat} {l : List Tok} (h : Toks w (.slice o n c) l) (k : Nat) (hk : k ≤ l.length) : Toks w (.slice o k c) (l.take k) := by
  obtain ⟨o', c', hv, h2, h3, h4⟩ := h
  simp only [Value.slice.injEq] at hv
  obtain ⟨rfl, _, rfl⟩ := hv
  have hlen : (l.take k).length = k := by rw [List.length_take]; omega
  refine ⟨o, c, by rw [hlen], by omega, h3, ?_⟩
  rcases h4 with h4 | ⟨b, off, h5, h6⟩
  · left; subst h4; simp
  · right
    refine ⟨b, off, h5, fun j hj => ?_⟩
    rw [hlen] at hj
    rw [List.getElem_take]
    exact h6 j (by omega)

set_option maxRecDepth 100000 in
set_option maxHeartbeats 1000000 in
theorem lzBack_walk (a0 : ByteArray) (a1 a2 : Int) (w : World) (_w0 : a0.size ≤ 140737488351232) (_w1 : (Lit.int .i64 a1).wf = true) (_w2 : (Lit.int .i64 a2).wf = true) :
    Calls Try.prog 7 #[.string a0, .int .i64 a1, .int .i64 a2] w fun e w' => e = .returned (.bool true) ∧ Up w w' := by
  go_enter Try.func7, Try.ntmps7
  go_wp2_with fail
  refine (parse_ok ⟨#[97, 98, 97, 98, 97, 98]⟩ 9 _ (by decide) (by omega) (by omega)).mono ?_
  rintro e v1 ⟨x1, rfl, ht1, u1⟩
  rw [ababab9] at ht1
  obtain ⟨o1, c1, rfl⟩ := ht1.shape
  go_wp2_with fail
  refine (equalT_yes _ _ [⟨0, 0, 97⟩, ⟨0, 0, 98⟩, ⟨2, 4, 0⟩] _ (ht1.toks.up (Up.alloc _ _)) (Toks.laid v1 [⟨0, 0, 97⟩, ⟨0, 0, 98⟩, ⟨2, 4, 0⟩] (by decide))).mono ?_
  rintro e v2 ⟨rfl, u2⟩
  have U2 := Lib.hid (u1.trans (Up.after _ _ _ u2))
  clear u1 u2 ht1
  by_cases hs : 600 < a0.size
  · go_wp2_with fail
    refine (parse_large a0 a1 _ hs).mono ?_
    rintro e v3 ⟨rfl, rfl⟩
    go_wp2_with fail
    go_ret
    exact ⟨rfl, U2.out⟩
  · by_cases hV : 1 ≤ a1 ∧ a1 ≤ 256
    · obtain ⟨V, rfl⟩ := Int.eq_ofNat_of_zero_le (show 0 ≤ a1 by omega)
      have hV1 : 1 ≤ V := by omega
      have hV2 : V ≤ 256 := by omega
      clear hV
      go_wp2_with fail
      refine (parse_ok a0 V _ (by omega) hV1 hV2).mono ?_
      rintro e v3 ⟨x3, rfl, ht3, u3⟩
      obtain ⟨o3, c3, rfl⟩ := ht3.shape
      have U3 := Lib.hid (U2.out.trans u3)
      have hx := exp_par a0.data.toList V (by rw [ba_length]; omega) hV2 a0.data.toList.length 0 (by omega) (Nat.zero_le _)
      rw [List.take_zero] at hx
      have hN6 := par_len a0.data.toList V a0.data.toList.length 0 (by omega)
      rw [ba_length] at hN6
      obtain ⟨l, hl⟩ : ∃ l, par a0.data.toList V 0 = l := ⟨_, rfl⟩
      rw [hl] at ht3 hx hN6 ⊢
      have hTK := ht3.toks
      have HT := Lib.hid hTK
      have hc3 : c3 ≤ 9223372036854775807 ∧ l.length ≤ c3 := by
        obtain ⟨o', c', hv, g2, g3, _⟩ := hTK
        simp only [Value.slice.injEq] at hv
        obtain ⟨_, _, rfl⟩ := hv
        unfold maxLen at g3
        omega
      obtain ⟨hc31, hc32⟩ := hc3
      have HX := Lib.hid hx
      clear ht3 hTK u3 hl hx
      go_wp2_with fail
      refine (expand_any _ l _ HT.out).mono ?_
      rintro e v4 ⟨rfl, u4⟩
      rw [HX.out]
      have U4 := Lib.hid (U3.out.trans u4)
      have HT4 := Lib.hid (HT.out.up u4)
      clear u4 HT
      rw [ba_again]
      go_wp2_with fail
      refine (within_some a2 _ (l.length + 1) _ (by omega) (by omega) (by omega)).mono ?_
      rintro e v5 ⟨D, hD, rfl, rfl⟩
      go_wp2_with fail
      have htk := exp_take l D [] (by rw [HX.out])
      rw [HX.out] at htk
      refine (expand_any _ (l.take D) _ (HT4.out.take D (by omega))).mono ?_
      rintro e v6 ⟨rfl, u6⟩
      have U6 := Lib.hid (U4.out.trans u6)
      clear u6
      obtain ⟨R, hR⟩ : ∃ R, exp [] (l.take D) = R := ⟨_, rfl⟩
      rw [hR] at htk ⊢
      clear hR
      obtain ⟨E, M⟩ := R
      obtain ⟨hE, hM⟩ := htk
      obtain rfl : E = 0 := hE
      have hp : Lib.hasPrefix a0.data.toList M = true := List.isPrefixOf_iff_prefix.2 hM
      have HP := Lib.hid hp
      clear hp hM
      go_wp2_with fail
      refine (Try.strings_HasPrefix _ _ _).mono ?_
      rintro e v7 ⟨rfl, rfl⟩
      rw [arr_list, HP.out]
      go_wp2_with fail
      go_ret
      exact ⟨rfl, U6.out⟩
    · have HV := Lib.hid hV
      clear hV
      go_wp2_with fail
      refine (parse_arg a0 a1 _ (by omega) HV.out).mono ?_
      rintro e v3 ⟨rfl, rfl⟩
      go_wp2_with fail
      go_ret
      exact ⟨rfl, U2.out⟩

end Go.Proofs.Ytbcebfjnpeacnaa
