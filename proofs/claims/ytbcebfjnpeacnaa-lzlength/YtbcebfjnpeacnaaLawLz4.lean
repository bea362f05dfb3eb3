/-
  The law LzLength, walked: for every two rows of tokens the Go text returns true. Conditions: the rows can be read, and each takes at most 2^47 - 4096 bytes.
-/
import Derived.Test.YtbcebfjnpeacnaaTokCat2
import Derived.Test.YtbcebfjnpeacnaaTokEq
import Derived.Test.YtbcebfjnpeacnaaLawLz1
import Derived.Test.YtbcebfjnpeacnaaShelf
namespace Go.Proofs.Ytbcebfjnpeacnaa
open Go.RowKit
open Go.Proofs
open WoolLz

theorem aaaa3 : exp [] [⟨0, 0, 97⟩, ⟨1, 3, 0⟩] = (0, [97, 97, 97, 97]) := by decide +kernel

def LenRel (l : List Tok) (w : World) (n i : Value) (wr : World) : Prop :=
  ∃ k : Nat, k ≤ l.length ∧ i = .int .i64 k ∧ n = .int .i64 (sum (l.take k) : Nat) ∧ Up w wr

theorem sum_take (l : List Tok) (k : Nat) (h : k < l.length) : sum (l.take (k + 1)) = sum (l.take k) + siz l[k] := by
  rw [List.take_succ_eq_append_getElem h, sum_append, sum_cons]
  show _ + (_ + 0) = _
  omega

theorem sum_take_le (l : List Tok) (k : Nat) : sum (l.take k) ≤ sum l := by
  have := sum_append (l.take k) (l.drop k)
  rw [List.take_append_drop] at this
  omega

set_option maxRecDepth 100000 in
set_option maxHeartbeats 1000000 in
theorem lzLength_walk (a0 : Option Addr) (len0 cap0 : Nat) (z0 : List Tok) (a1 : Option Addr) (len1 cap1 : Nat) (z1 : List Tok) (w : World) (w0 : Toks w (.slice a0 len0 cap0) z0) (w1 : Toks w (.slice a1 len1 cap1) z1) (s0 : cap0 * 24 ≤ 140737488351232) (s1 : cap1 * 24 ≤ 140737488351232) :
    Calls Try.prog 9 #[.slice a0 len0 cap0, .slice a1 len1 cap1] w fun e w' => e = .returned (.bool true) ∧ Up w w' := by
  have HT0 := Lib.hid w0
  have HT1 := Lib.hid w1
  obtain ⟨o, c, hv, h2, h3, h4⟩ := w0
  simp only [Value.slice.injEq] at hv
  obtain ⟨rfl, rfl, rfl⟩ := hv
  obtain ⟨o', c', hv, g2, g3, g4⟩ := w1
  simp only [Value.slice.injEq] at hv
  obtain ⟨rfl, rfl, rfl⟩ := hv
  unfold maxLen at h3
  have hsum : (z0.length + z1.length) * 24 ≤ 281474976710656 := by omega
  have H4 := Lib.hid h4
  clear h4 g2 g3 g4 s0 s1
  go_enter Try.func9, Try.ntmps9
  go_wp2_with fail
  refine (expand_any _ [⟨0, 0, 97⟩, ⟨1, 3, 0⟩] _ (Toks.laid w [⟨0, 0, 97⟩, ⟨1, 3, 0⟩] (by decide))).mono ?_
  rintro e v1 ⟨rfl, u1⟩
  have U1 := Lib.hid (Up.after _ _ _ u1)
  clear u1
  rw [aaaa3]
  go_wp2_with fail
  refine (expand_any _ z0 _ (HT0.out.up U1.out)).mono ?_
  rintro e v2 ⟨rfl, u2⟩
  have U2 := Lib.hid (U1.out.trans u2)
  clear u2 U1
  have hbad := exp_bad z0 []
  have h600 := exp_600 z0 [] (Nat.zero_le _)
  have hlen := exp_len z0 []
  have happ := exp_append z0 z1 []
  have hbad2 := exp_bad (z0 ++ z1) []
  have hpre := fun b => exp_pre z1 b
  obtain ⟨R, hR⟩ : ∃ R, exp [] z0 = R := ⟨_, rfl⟩
  rw [hR] at hbad h600 hlen happ ⊢
  obtain ⟨E, L⟩ := R
  have HAPP := Lib.hid happ
  have HPRE := Lib.hid hpre
  have HBAD2 := Lib.hid hbad2
  have HBAD := Lib.hid hbad
  have H600 := Lib.hid h600
  have HLEN := Lib.hid hlen
  clear happ hpre hbad2 hR hbad h600 hlen
  go_wp2_with fail
  refine (concat_any v2.heap.size _ _ _ _ _ _ z0 z1 _ (HT0.out.up (U2.out.trans (Up.alloc _ _))) (HT1.out.up (U2.out.trans (Up.alloc _ _))) ?c0 ?c1 hsum).mono ?_
  case c0 => exact cell_of_row _ _ 0 _ _ _ (heap_alloc_new v2 _)
  case c1 => exact cell_of_row _ _ 1 _ _ _ (heap_alloc_new v2 _)
  rintro e v3 ⟨x3, rfl, ht3, u3⟩
  have U3 := Lib.hid (U2.out.trans (Up.after _ _ _ u3))
  obtain ⟨z, hz⟩ : ∃ z, z0 ++ z1 = z := ⟨_, rfl⟩
  rw [hz] at ht3 HAPP
  have HT3 := Lib.hid ht3
  obtain ⟨o3, c3, hx3, _⟩ := ht3
  subst hx3
  clear u3 hz
  go_wp2_with fail
  refine (expand_any _ z _ HT3.out).mono ?_
  rintro e v4 ⟨rfl, u4⟩
  have U4 := Lib.hid (U3.out.trans u4)
  have happ := HAPP.out
  clear u4 HT3
  by_cases hE : E = 0
  · subst hE
    rw [if_pos rfl] at happ
    have hL6 : L.length ≤ 600 := H600.out rfl
    have hLs : L.length = 0 + sum z0 := HLEN.out rfl
    have hpre : (exp L z1).1 = 0 → L <+: (exp L z1).2 := HPRE.out L
    obtain ⟨R, hR⟩ : ∃ R, exp L z1 = R := ⟨_, rfl⟩
    have happ2 : exp [] z = R := happ.trans hR
    rw [hR] at hpre
    rw [happ2]
    obtain ⟨F, T⟩ := R
    have HPR := Lib.hid hpre
    clear happ happ2 hR hpre HAPP HPRE HBAD2 HBAD H600 HLEN
    go_wp2_with fail
    go_loopw [11, 55] (fun n i wr => LenRel z0 w n i wr) (fun _ i _ => z0.length - (intOf i).toNat)
    case atStart => exact ⟨0, Nat.zero_le _, rfl, rfl, U4.out⟩
    case round =>
      obtain ⟨k, hk, rfl, rfl, hu⟩ := hrel
      by_cases hlt : k < z0.length
      · rcases H4.out with h5 | ⟨b, off, rfl, h5⟩
        · rw [h5] at hlt; simp at hlt
        · obtain ⟨e1, e2, e3⟩ := h5 k hlt
          rw [← hu.cell (World.block_lt_of_cell? w _ e1)] at e1
          rw [← hu.cell (World.block_lt_of_cell? w _ e2)] at e2
          rw [← hu.cell (World.block_lt_of_cell? w _ e3)] at e3
          have hst := sum_take z0 k hlt
          have hsl := sum_take_le z0 (k + 1)
          obtain ⟨⟨td, tl, tb⟩, ht⟩ : ∃ t, z0[k] = t := ⟨_, rfl⟩
          rw [ht] at e1 e2 e3 hst
          have hsz : (siz ⟨td, tl, tb⟩ : Int) = max 1 tl := by unfold siz; show ((max tl 1).toNat : Int) = _; omega
          obtain ⟨S, hS⟩ : ∃ S, sum (z0.take k) = S := ⟨_, rfl⟩
          rw [hS] at hst ⊢
          obtain ⟨q, hq⟩ : ∃ q, siz ⟨td, tl, tb⟩ = q := ⟨_, rfl⟩
          rw [hq] at hst hsz
          have hmx : max 1 tl = (q : Int) := hsz.symm
          have hb1 : S + q ≤ 600 := by omega
          have HST := Lib.hid hst
          have HU := Lib.hid hu
          have d1 : decide (k < z0.length) = true := decide_eq_true hlt
          clear h5 ht hu hst hS hq hsz hsl
          go_wp2_with fail
          clear hmx
          go_roundw
          case rel => exact ⟨k + 1, by omega, by go_num, by rw [HST.out]; go_num, HU.out.trans (Up.alloc _ _)⟩
          case measure => simp only [intOf]; omega
      · have d1 : decide (k < z0.length) = false := decide_eq_false hlt
        have hs : sum (z0.take k) = L.length := by rw [List.take_of_length_le (by omega)]; omega
        rw [hs]
        have HU := Lib.hid hu
        clear hs hu hLs
        by_cases hF : F = 0
        · subst hF
          have hp : Lib.hasPrefix T L = true := List.isPrefixOf_iff_prefix.2 (HPR.out rfl)
          have HP := Lib.hid hp
          clear hp
          go_wp2_with fail
          refine (Try.strings_HasPrefix _ _ _).mono ?_
          rintro e v7 ⟨rfl, rfl⟩
          rw [arr_list, arr_list, HP.out]
          go_wp2_with fail
          go_ret
          exact ⟨rfl, HU.out⟩
        · have g0 : (F != 0) = true := by rw [bne_iff_ne]; exact hF
          go_wp2_with fail
          go_ret
          exact ⟨rfl, HU.out⟩
  · rw [if_neg hE] at happ
    obtain rfl : L = [] := HBAD.out hE
    rw [happ]
    have g0 : (E != 0) = true := by rw [bne_iff_ne]; exact hE
    clear happ HAPP HPRE HBAD2 HBAD H600 HLEN
    go_wp2_with fail
    go_ret
    exact ⟨rfl, U4.out⟩

end Go.Proofs.Ytbcebfjnpeacnaa
