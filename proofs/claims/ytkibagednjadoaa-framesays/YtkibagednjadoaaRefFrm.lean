/-
  What the reference's Four, Frame and Unframe return. Conditions: as each says.
-/
import Derived.Test.YtkibagednjadoaaLawFrame1
import Derived.Test.YtkibagednjadoaaRefPrint
import Derived.Deep.RegionWith
namespace Go.Proofs.Ytkibagednjadoaa
open Go.RowKit
open Go.Proofs

theorem nb4 (n : Nat) : nb n 4 = [UInt8.ofNat (n / 16777216), UInt8.ofNat (n / 65536), UInt8.ofNat (n / 256), UInt8.ofNat n] := by
  simp [nb, Nat.div_div_eq_div_mul]

/-- a text of bytes in a block, whatever came behind it -/
theorem conv_cells (l : List UInt8) (b c : Nat) (v : World) (h : ∀ j x, l[j]? = some x → v.cell? ⟨b, j, none⟩ = some (.int .u8 (x.toNat : Int))) :
    (convert 41 9 (.slice (some ⟨b, 0, none⟩) l.length c)).run Try.prog v = .ok (.string (bs l)) v := by
  refine run_convert_bytes_back (P := Try.prog) _ 41 9 5 _ c l Try.underlying41 Try.underlying5 Try.underlying9 ?_
  intro j hj
  rw [← h j l[j] (List.getElem?_eq_getElem hj)]
  congr 1
  unfold Addr.add
  split
  · rename_i e; subst e; rfl
  · simp

theorem four_any (n : Nat) (w : World) (hn : n < 4294967296) :
    Calls Try.prog 18 #[.int .i64 (n : Int)] w fun e w' => e = .returned (.string (bs (nb n 4))) ∧ Up w w' := by
  have hconv := conv_cells [UInt8.ofNat (n / 16777216), UInt8.ofNat (n / 65536), UInt8.ofNat (n / 256), UInt8.ofNat n] w.heap.size 4 (w.alloc (.cells #[.int .u8 ((n : Int) / 16777216), .int .u8 ((n : Int) / 65536 % 256), .int .u8 ((n : Int) / 256 % 256), .int .u8 ((n : Int) % 256)] 5)) (by
    intro j x hx
    match j with
    | 0 => refine (World.cell?_alloc_mark _ _ _ _ 0).trans ?_; simp at hx ⊢; subst hx; simp; omega
    | 1 => refine (World.cell?_alloc_mark _ _ _ _ 1).trans ?_; simp at hx ⊢; subst hx; simp
    | 2 => refine (World.cell?_alloc_mark _ _ _ _ 2).trans ?_; simp at hx ⊢; subst hx; simp
    | 3 => refine (World.cell?_alloc_mark _ _ _ _ 3).trans ?_; simp at hx ⊢; subst hx; simp
    | j + 4 => simp at hx)
  rw [← nb4, nb_length] at hconv
  go_enter Try.func18, Try.ntmps18
  go_wp2_with fail
  go_ret
  exact ⟨rfl, Up.alloc _ _⟩

theorem refPrint_bs (M : Nat) (l : List UInt8) (w : World) (h0 : 2 ≤ M) (h1 : M ≤ 2147483647) (hs : l.length ≤ 1000) :
    Calls Try.prog 19 #[.int .i64 (M : Int), .string (bs l)] w fun e w' => e = .returned (.int .i64 (fp M l : Nat)) ∧ Up w w' := by
  have := refPrint_any M (bs l) w h0 h1 (by rw [bs_size]; exact hs)
  rwa [bs_list] at this

/-- one byte in a block of the call's own, as a text, in whatever world came behind it -/
theorem conv_late (K : Nat) (hK : K < 256) (v v' : World) (u : Up (v.alloc (.cells #[.int .u8 (K : Int)] 5)) v') : (convert 41 9 (.slice (some ⟨v.heap.size, 0, none⟩) 1 1)).run Try.prog v' = .ok (.string (bs (nb K 1))) v' := by
  have e : nb K 1 = [UInt8.ofNat K] := rfl
  rw [e]
  refine conv_cells [UInt8.ofNat K] v.heap.size 1 v' ?_
  intro j x hx
  match j with
  | 0 =>
    simp at hx
    subst hx
    refine (Below.cell u (p := ⟨v.heap.size, 0, none⟩) (by simp)).trans ((World.cell?_alloc_mark _ _ _ _ 0).trans ?_)
    rw [UInt8.toNat_ofNat_of_lt' (by simpa using hK)]
    rfl
  | j + 1 => simp at hx

set_option maxRecDepth 100000 in
set_option maxHeartbeats 8000000 in
theorem rframe_any (k : Int) (b : List UInt8) (w : World) (hbl : b.length ≤ 140737488351232) :
    Calls Try.prog 9 #[.agg #[.int .i64 k, .string (bs b)]] w fun e w' => e = .returned (putR k b) ∧ Up w w' := by
  have hsz := bs_size b
  by_cases h1 : k < 1 ∨ 255 < k
  · have HV : Hid (putR k b = .tuple #[.string ⟨#[]⟩, .int .i64 1]) := by
      show _ = _
      unfold putR putV
      rw [if_pos h1]
      rfl
    have H1 := Lib.hid h1
    clear hbl hsz h1
    go_enter Try.func9, Try.ntmps9
    go_wp2_with fail
    refine (refWithin_no k 1 255 _ (by have := H1.out; omega)).mono ?_
    rintro e w1 ⟨rfl, rfl⟩
    go_wp2_with fail
    go_ret2
    exact ⟨by rw [HV.out]; rfl, Up.alloc _ _⟩
  obtain ⟨K, rfl⟩ : ∃ K : Nat, k = (K : Int) := ⟨k.toNat, by omega⟩
  have k1 : 1 ≤ K := by omega
  have k2 : K ≤ 255 := by omega
  clear h1
  by_cases h3 : 700 < b.length
  · have HV : Hid (putR (K : Int) b = .tuple #[.string ⟨#[]⟩, .int .i64 2]) := by
      show _ = _
      unfold putR putV
      rw [if_neg (by omega), if_pos h3]
      rfl
    obtain ⟨n, hn⟩ : ∃ n, b.length = n := ⟨_, rfl⟩
    rw [hn] at hsz h3 hbl
    clear hn
    go_enter Try.func9, Try.ntmps9
    go_wp2_with fail
    refine (refWithin_yes (K : Int) 1 255 _ (by omega) (by omega)).mono ?_
    rintro e w1 ⟨rfl, rfl⟩
    go_wp2_with fail
    go_ret2
    exact ⟨by rw [HV.out]; rfl, Up.alloc _ _⟩
  have HV := Lib.hid (putR_ok (K := K) (b := b) k1 k2 (by omega))
  have hadd1 := add_bs (nb K 1) (nb b.length 2) (by rw [nb_length, nb_length]; omega)
  have hadd2 := add_bs (nb K 1 ++ nb b.length 2) b (by rw [List.length_append, nb_length, nb_length]; omega)
  rw [show nb K 1 ++ nb b.length 2 ++ b = hb K b by unfold hb; rw [List.append_assoc]] at hadd2
  have hhl := hb_length K b
  have hf := fp30 (hb K b)
  have hadd3 := add_bs (hb K b) (nb (fp 1073741907 (hb K b)) 4) (by rw [hhl, nb_length]; omega)
  rw [show hb K b ++ nb (fp 1073741907 (hb K b)) 4 = frm K b from rfl] at hadd3
  have HHL : Hid ((hb K b).length ≤ 1000) := by show (hb K b).length ≤ 1000; omega
  have hfr := from_bs (nb b.length 4) 2 2 rfl (by rw [nb_length]; omega)
  have h42 : (nb b.length 4).drop 2 = nb b.length 2 := by rw [nb_cons, nb_cons]; rfl
  rw [h42] at hfr
  obtain ⟨n, hn⟩ : ∃ n, b.length = n := ⟨_, rfl⟩
  rw [hn] at hsz hbl h3 hadd1 hadd2 hfr
  obtain ⟨A1, hA1⟩ : ∃ A, nb K 1 = A := ⟨_, rfl⟩
  obtain ⟨A2, hA2⟩ : ∃ A, nb n 2 = A := ⟨_, rfl⟩
  obtain ⟨H, hH⟩ : ∃ H, hb K b = H := ⟨_, rfl⟩
  rw [hH] at hadd2 hadd3 HHL hf
  obtain ⟨F, hF⟩ : ∃ F, fp 1073741907 H = F := ⟨_, rfl⟩
  rw [hF] at hadd3 hf
  obtain ⟨A4, hA4⟩ : ∃ A, nb F 4 = A := ⟨_, rfl⟩
  obtain ⟨A5, hA5⟩ : ∃ A, nb n 4 = A := ⟨_, rfl⟩
  rw [hA4] at hadd3
  rw [hA1, hA2] at hadd1 hadd2
  rw [hA5, hA2] at hfr
  obtain ⟨A3, hA3⟩ : ∃ A, A1 ++ A2 = A := ⟨_, rfl⟩
  rw [hA3] at hadd1 hadd2
  have HA1 := Lib.hid hA1
  have HA4 := Lib.hid hA4
  have HA5 := Lib.hid hA5
  have HF := Lib.hid hF
  have hw8 : IntKind.u8.wrap (K : Int) = (K : Int) := by rw [IntKind.wrap_u8]; omega
  clear hA1 hA2 hA3 hA4 hF hhl hn hH hA5 h42
  go_enter Try.func9, Try.ntmps9
  go_wp2_with fail
  refine (refWithin_yes (K : Int) 1 255 _ (by omega) (by omega)).mono ?_
  rintro e w1 ⟨rfl, rfl⟩
  go_wp2_with fail
  have q0 := World.cell?_alloc_new w #[.int .i64 (K : Int), .string (bs b)] 23 0
  have q1 := World.cell?_alloc_new w #[.int .i64 (K : Int), .string (bs b)] 23 1
  have q2 : w.heap.size < (w.alloc (.cells #[.int .i64 (K : Int), .string (bs b)] 23)).heap.size := by simp
  have HK : Hid (K < 256) := by show K < 256; omega
  have cv0 := conv_late K HK.out (w.alloc (.cells #[.int .i64 (K : Int), .string (bs b)] 23)) _ (Up.drew ((w.alloc (.cells #[.int .i64 (K : Int), .string (bs b)] 23)).alloc (.cells #[.int .u8 (K : Int)] 5)))
  rw [World.size_alloc, HA1.out] at cv0
  go_region_with (first
    | (go_at_call 18; ((with_reducible refine (four_any n _ (by omega)).mono ?_); rintro e w4 ⟨rfl, u4⟩; rw [HA5.out]; (first
      | (have uu := (Up.drew _).trans u4; change Up ((w.alloc (.cells #[.int .i64 (K : Int), .string (bs b)] 23)).alloc (.cells #[.int .u8 (K : Int)] 5)) w4 at uu; have cv := conv_late K HK.out (w.alloc (.cells #[.int .i64 (K : Int), .string (bs b)] 23)) w4 uu; rw [World.size_alloc, HA1.out] at cv; have f0 := (Below.cell u4 (p := ⟨w.heap.size, 0, none⟩) (Nat.lt_of_lt_of_le q2 (Up.alloc _ _).size)).trans ((Below.cell (Up.alloc _ _) (p := ⟨w.heap.size, 0, none⟩) q2).trans q0); have f1 := (Below.cell u4 (p := ⟨w.heap.size, 1, none⟩) (Nat.lt_of_lt_of_le q2 (Up.alloc _ _).size)).trans ((Below.cell (Up.alloc _ _) (p := ⟨w.heap.size, 1, none⟩) q2).trans q1); have HU := Lib.hid ((Up.alloc _ _).trans uu))
      | (have cv := conv_late K HK.out w4 _ (Up.refl _); rw [HA1.out] at cv; have f0 := (Below.cell u4 (p := ⟨w.heap.size, 0, none⟩) q2).trans q0; have f1 := (Below.cell u4 (p := ⟨w.heap.size, 1, none⟩) q2).trans q1; have g0 := (Below.cell (Up.alloc w4 (.cells #[.int .u8 (K : Int)] 5)) (p := ⟨w.heap.size, 0, none⟩) (Nat.lt_of_lt_of_le q2 u4.size)).trans f0; have g1 := (Below.cell (Up.alloc w4 (.cells #[.int .u8 (K : Int)] 5)) (p := ⟨w.heap.size, 1, none⟩) (Nat.lt_of_lt_of_le q2 u4.size)).trans f1; have HU := Lib.hid ((Up.drew _).trans u4))))))
  all_goals
    go_wp2_with fail
    refine (refPrint_bs 1073741907 H _ (by omega) (by omega) HHL.out).mono ?_
    rintro e w6 ⟨rfl, u6⟩
    rw [HF.out]
    go_wp2_with fail
    refine (four_any F _ (by omega)).mono ?_
    rintro e w7 ⟨rfl, u7⟩
    rw [HA4.out]
    go_wp2_with fail
    go_ret2
    exact ⟨by rw [HV.out]; rfl, (Up.alloc _ _).trans (HU.out.trans (by first | exact u6.trans u7 | exact (Up.alloc _ _).trans (u6.trans u7)))⟩

end Go.Proofs.Ytkibagednjadoaa
