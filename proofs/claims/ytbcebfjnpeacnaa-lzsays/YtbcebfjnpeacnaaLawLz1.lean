/-
  What Parse of package lz returns where it returns an error; and the law LzFewest, walked: for every row of tokens and every window the Go text returns true. Conditions: the row can be read.
-/
import Derived.Test.YtbcebfjnpeacnaaLzP
namespace Go.Proofs.Ytbcebfjnpeacnaa
open Go.RowKit
open Go.Proofs
open WoolLz
open WoolMatch

set_option maxRecDepth 100000 in
theorem parse_large (s : ByteArray) (V : Int) (w : World) (hs : 600 < s.size) :
    Calls Try.prog 14 #[.string s, .int .i64 V] w fun e w' => e = .returned (.tuple #[.slice none 0 0, .int .i64 2]) ∧ w = w' := by
  go_enter Try.func14, Try.ntmps14
  go_wp2_with fail
  refine (longest_large s 0 V _ hs).mono ?_
  rintro e v1 ⟨rfl, rfl⟩
  go_wp2_with fail
  go_ret2
  exact ⟨rfl, rfl⟩

set_option maxRecDepth 100000 in
theorem parse_arg (s : ByteArray) (V : Int) (w : World) (hs : s.size ≤ 600) (h : ¬ (1 ≤ V ∧ V ≤ 256)) :
    Calls Try.prog 14 #[.string s, .int .i64 V] w fun e w' => e = .returned (.tuple #[.slice none 0 0, .int .i64 1]) ∧ w = w' := by
  have HF : Hid (¬ fits s 0 V) := Lib.hid (fun hf => h hf.2.2)
  clear h
  go_enter Try.func14, Try.ntmps14
  go_wp2_with fail
  refine (longest_arg s 0 V _ hs HF.out).mono ?_
  rintro e v1 ⟨rfl, rfl⟩
  go_wp2_with fail
  go_ret2
  exact ⟨rfl, rfl⟩

theorem OToks.shape {w : World} {base : Nat} {v : Value} {l : List Tok} (h : OToks w base v l) : ∃ o c, v = .slice o l.length c := by
  obtain ⟨o, c, h1, _⟩ := h.toks
  exact ⟨o, c, h1⟩

theorem arr_list (L : List UInt8) : (⟨L.toArray⟩ : ByteArray).data.toList = L := rfl
theorem arr_size (L : List UInt8) : (⟨L.toArray⟩ : ByteArray).size = L.length := rfl

theorem aaaa1 : (par (⟨#[97, 97, 97, 97]⟩ : ByteArray).data.toList 1 0).length = 2 := by decide +kernel

def FewRel (l : List Tok) (V : Int) (w : World) (i : Value) (wr : World) : Prop :=
  ∃ k : Nat, k ≤ l.length ∧ i = .int .i64 k ∧ (∀ j (h : j < l.length), j < k → l[j].d ≤ V) ∧ Up w wr

set_option maxRecDepth 100000 in
set_option maxHeartbeats 1000000 in
theorem lzFewest_walk (a0 : Option Addr) (len0 cap0 : Nat) (z0 : List Tok) (a1 : Int) (w : World) (w0 : Toks w (.slice a0 len0 cap0) z0) (_w1 : (Lit.int .i64 a1).wf = true) :
    Calls Try.prog 8 #[.slice a0 len0 cap0, .int .i64 a1] w fun e w' => e = .returned (.bool true) ∧ Up w w' := by
  have HT := Lib.hid w0
  obtain ⟨o, c, hv, h2, h3, h4⟩ := w0
  simp only [Value.slice.injEq] at hv
  obtain ⟨rfl, rfl, rfl⟩ := hv
  unfold maxLen at h3
  have H4 := Lib.hid h4
  clear h4
  go_enter Try.func8, Try.ntmps8
  go_wp2_with fail
  refine (parse_ok ⟨#[97, 97, 97, 97]⟩ 1 _ (by decide) (by omega) (by omega)).mono ?_
  rintro e v1 ⟨x1, rfl, ht1, u1⟩
  obtain ⟨o1, c1, rfl⟩ := ht1.shape
  rw [aaaa1]
  clear ht1
  go_wp2_with fail
  refine (expand_any _ z0 _ (HT.out.up u1)).mono ?_
  rintro e v2 ⟨rfl, u2⟩
  have U2 := Lib.hid (u1.trans u2)
  clear u1 u2
  have hbad := exp_bad z0 []
  have h600 := exp_600 z0 [] (Nat.zero_le _)
  obtain ⟨R, hR⟩ : ∃ R, exp [] z0 = R := ⟨_, rfl⟩
  rw [hR] at hbad h600 ⊢
  obtain ⟨E, L⟩ := R
  by_cases hE : E = 0
  · subst hE
    have hL : L.length ≤ 600 := h600 rfl
    have HR := Lib.hid hR
    clear hbad h600 hR
    by_cases hV : 1 ≤ a1 ∧ a1 ≤ 256
    · obtain ⟨V, rfl⟩ := Int.eq_ofNat_of_zero_le (show 0 ≤ a1 by omega)
      have hV1 : 1 ≤ V := by omega
      have hV2 : V ≤ 256 := by omega
      clear hV
      go_wp2_with fail
      refine (parse_ok ⟨L.toArray⟩ V _ (by rw [arr_size]; exact hL) hV1 hV2).mono ?_
      rintro e v3 ⟨x3, rfl, ht3, u3⟩
      rw [arr_list] at ht3
      obtain ⟨o3, c3, rfl⟩ := ht3.shape
      have U3 := Lib.hid (U2.out.trans u3)
      clear ht3 u3
      obtain ⟨N, hN⟩ : ∃ N, (par L V 0).length = N := ⟨_, rfl⟩
      have HN := Lib.hid hN
      have hN6 := par_len L V L.length 0 (by omega)
      rw [hN] at hN6 ⊢
      clear hN
      go_wp2_with fail
      go_loopw [45] (fun i wr => FewRel z0 (V : Int) w i wr) (fun i _ => z0.length - (intOf i).toNat)
      case atStart => exact ⟨0, Nat.zero_le _, rfl, fun j _ hj => by omega, U3.out⟩
      case round =>
        obtain ⟨k, hk, rfl, hj, hu⟩ := hrel
        have HJ := Lib.hid hj
        clear hj
        by_cases hlt : k < z0.length
        · rcases H4.out with h5 | ⟨b, off, rfl, h5⟩
          · rw [h5] at hlt; simp at hlt
          · obtain ⟨e1, e2, e3⟩ := h5 k hlt
            rw [← hu.cell (World.block_lt_of_cell? w _ e1)] at e1
            rw [← hu.cell (World.block_lt_of_cell? w _ e2)] at e2
            rw [← hu.cell (World.block_lt_of_cell? w _ e3)] at e3
            obtain ⟨⟨td, tl, tb⟩, ht⟩ : ∃ t, z0[k] = t := ⟨_, rfl⟩
            rw [ht] at e1 e2 e3
            have HU := Lib.hid hu
            have HTK := Lib.hid ht
            have d1 : decide (k < z0.length) = true := decide_eq_true hlt
            clear h5 ht hu
            by_cases hd : (V : Int) < td
            · have g1 : decide ((V : Int) < td) = true := decide_eq_true hd
              go_wp2_with fail
              go_ret
              exact ⟨rfl, HU.out.trans (Up.alloc _ _)⟩
            · have g1 : decide ((V : Int) < td) = false := decide_eq_false hd
              go_wp2_with fail
              go_roundw
              case rel => exact ⟨k + 1, by omega, by go_num, fun j h1 h2 => (by
                by_cases e : j = k
                · subst e; rw [HTK.out]; exact Int.not_lt.1 hd
                · exact HJ.out j h1 (by omega)), HU.out.trans (Up.alloc _ _)⟩
              case measure => simp only [intOf]; omega
        · have d1 : decide (k < z0.length) = false := decide_eq_false hlt
          have hfew : N ≤ z0.length := by
            rw [← HN.out]
            refine fewest L V z0 0 0 (Nat.le_refl _) (Nat.zero_le _) (fun t ht => ?_) HR.out
            obtain ⟨j, hj1, rfl⟩ := List.mem_iff_getElem.1 ht
            exact HJ.out j hj1 (by omega)
          have g2 : decide (N ≤ z0.length) = true := decide_eq_true hfew
          go_wp2_with fail
          go_ret
          exact ⟨rfl, hu⟩
    · have HV := Lib.hid hV
      clear hV
      go_wp2_with fail
      refine (parse_arg ⟨L.toArray⟩ a1 _ (by rw [arr_size]; exact hL) HV.out).mono ?_
      rintro e v3 ⟨rfl, rfl⟩
      go_wp2_with fail
      go_ret
      exact ⟨rfl, U2.out⟩
  · obtain rfl : L = [] := hbad hE
    have g0 : (E != 0) = true := by rw [bne_iff_ne]; exact hE
    clear hbad h600 hR
    go_wp2_with fail
    go_ret
    exact ⟨rfl, U2.out⟩

end Go.Proofs.Ytbcebfjnpeacnaa
