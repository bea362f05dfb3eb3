/-
  The walk of the law PackSizes. Conditions: the row of tokens can be read; one cell of the table deBruijn64tab.
-/
import Derived.Test.YtjbedphofjdfkaaDoorPack1
import Derived.Test.YtjbedphofjdfkaaDoorOTok
import Derived.Test.YtjbedphofjdfkaaDoorRefGam
namespace Go.Proofs.YtjbedphofjdfkaaDoor
open Go.RowKit
open Go.Proofs
open WoolLz WoolPack

theorem two_toks : bitsV [⟨0, 0, 97⟩, ⟨1, 3, 0⟩] = .tuple #[.string (bs (pack [⟨0, 0, 97⟩, ⟨1, 3, 0⟩])), .int .i64 0] := by
  unfold bitsV
  rw [show exp [] [⟨0, 0, 97⟩, ⟨1, 3, 0⟩] = (0, [97, 97, 97, 97]) by decide +kernel]
  rfl

theorem two_len : (bs (pack [⟨0, 0, 97⟩, ⟨1, 3, 0⟩])).size = 14 := by
  rw [bs_size]
  show (enc ⟨0, 0, 97⟩ ++ (enc ⟨1, 3, 0⟩ ++ [])).length = 14
  rw [List.length_append, List.length_append, enc_length _ (.inl (by decide)), enc_length _ (.inr (by decide))]
  show (9 : Nat) + (1 + (2 * WoolBits.len 1 - 1) + (2 * WoolBits.len 3 - 1) + 0) = 14
  rw [WoolBits.len_small 1 (by omega), WoolBits.len_step 3 (by omega), WoolBits.len_small (3 / 2) (by omega)]

def SizesRel (l : List Tok) (w : World) (t7 t35 : Value) (wr : World) : Prop :=
  ∃ k : Nat, k ≤ l.length ∧ t35 = .int .i64 (k : Int) ∧ t7 = .int .i64 (((pack (l.take k)).length : Nat) : Int) ∧ Up w wr

set_option maxRecDepth 100000 in
set_option maxHeartbeats 2000000 in
theorem packSizes_walk (a0 : Option Addr) (len0 cap0 : Nat) (z0 : List Tok) (w : World) (w0 : Toks w (.slice a0 len0 cap0) z0) (hT : Tab w) :
    Calls Tryd.prog 11 #[.slice a0 len0 cap0] w fun e w' => e = .returned (.bool true) ∧ Up w w' := by
  have HL := Lib.hid (Toks.laid w [⟨0, 0, 97⟩, ⟨1, 3, 0⟩] (by simp))
  have H2 := Lib.hid two_toks
  have h14 := two_len
  generalize pack [⟨0, 0, 97⟩, ⟨1, 3, 0⟩] = P2 at *
  have HX := Lib.hid w0
  obtain ⟨o, c, he, h2, h3, h4⟩ := w0
  cases he
  unfold maxLen at h3
  have H4 := Lib.hid h4
  clear h4
  go_enter Tryd.func11, Tryd.ntmps11
  go_wp2_with fail
  refine (bits_any _ _ _ HL.out (hT.up (Up.alloc _ _))).mono ?_
  rintro e w1 ⟨rfl, u1⟩
  rw [H2.out]
  have U1 := Up.after _ _ _ u1
  clear u1
  go_wp2_with fail
  refine (bits_any _ z0 _ (HX.out.up U1) (hT.up U1)).mono ?_
  rintro e w2 ⟨rfl, u2⟩
  have U2 := U1.trans u2
  clear u2 U1 h14
  by_cases hx : (exp [] z0).1 = 0
  · have hg := exp_good z0 [] hx
    have hfew := exp_few z0 hx
    have HV : Hid (bitsV z0 = .tuple #[.string (bs (pack z0)), .int .i64 0]) := by
      show _ = _
      unfold bitsV
      rw [if_pos hx, hx]
    have HG := Lib.hid hg
    have HPB : Hid (∀ k, (pack (z0.take k)).length ≤ 18600) := by
      intro k
      have h1 := pack_bound (z0.take k) fun t ht => hg t (List.mem_of_mem_take ht)
      have h2 : (z0.take k).length ≤ 600 := by rw [List.length_take]; omega
      omega
    have hps := bs_size (pack z0)
    obtain ⟨N0, hN0⟩ : ∃ N0, (pack z0).length = N0 := ⟨_, rfl⟩
    rw [hN0] at hps
    have HN0 := Lib.hid hN0
    rw [HV.out]
    clear hg hx hN0
    go_wp2_with fail
    go_loopw [7, 35] (SizesRel z0 w2) (fun _ i _ => z0.length - (intOf i).toNat)
    case atStart => exact ⟨0, Nat.zero_le _, rfl, rfl, Up.refl _⟩
    case round =>
      obtain ⟨k, hk, rfl, rfl, hu⟩ := hrel
      by_cases hlt : k < z0.length
      · rcases H4.out with h5 | ⟨b, off, rfl, h5⟩
        · rw [h5] at hlt; simp at hlt
        · obtain ⟨a1, a2, a3⟩ := h5 k hlt
          have U := U2.trans hu
          rw [← U.cell (World.block_lt_of_cell? w _ a1)] at a1
          rw [← U.cell (World.block_lt_of_cell? w _ a2)] at a2
          rw [← U.cell (World.block_lt_of_cell? w _ a3)] at a3
          have hgk := HG.out z0[k] (List.getElem_mem hlt)
          have hpt := congrArg List.length (pack_take z0 k hlt)
          have hel := enc_length z0[k] hgk
          rw [List.length_append] at hpt
          obtain ⟨⟨td, tl, tb⟩, ht⟩ : ∃ t, z0[k] = t := ⟨_, rfl⟩
          rw [ht] at a1 a2 a3 hgk hpt hel
          rw [hel] at hpt
          have hS := HPB.out k
          obtain ⟨S, hSe⟩ : ∃ S, (pack (z0.take k)).length = S := ⟨_, rfl⟩
          rw [hSe] at hS hpt
          rw [hSe]
          have HU := Lib.hid hu
          have d1 : decide (k < z0.length) = true := decide_eq_true hlt
          clear h5 ht hu U hel hSe
          by_cases h0 : tl = 0
          · subst h0
            have hpt' : (pack (z0.take (k + 1))).length = S + 9 := by rw [hpt, if_pos rfl]
            have HPT := Lib.hid hpt'
            clear hpt hpt' hgk
            go_wp2_with fail
            go_roundw
            case rel => exact ⟨k + 1, by omega, by go_num, by rw [HPT.out]; go_num, HU.out.trans (Up.alloc _ _)⟩
            case measure => simp only [intOf]; omega
          · have hc : 1 ≤ tl ∧ tl ≤ 64 ∧ 1 ≤ td ∧ td ≤ 256 := by
              rcases hgk with h | h
              · unfold litB at h; rw [decide_eq_true_iff] at h; exact absurd h.1 h0
              · unfold copB at h; rw [decide_eq_true_iff] at h; exact ⟨h.1, h.2.1, h.2.2.1, h.2.2.2.1⟩
            obtain ⟨c1, c2, c3, c4⟩ := hc
            obtain ⟨D, rfl⟩ := Int.eq_ofNat_of_zero_le (show 0 ≤ td by omega)
            obtain ⟨N, rfl⟩ := Int.eq_ofNat_of_zero_le (show 0 ≤ tl by omega)
            have hpt' : (pack (z0.take (k + 1))).length = S + (1 + (2 * WoolBits.len D - 1) + (2 * WoolBits.len N - 1)) := by
              rw [hpt, if_neg h0]
              show S + (1 + (2 * WoolBits.len (D : Int).toNat - 1) + (2 * WoolBits.len (N : Int).toNat - 1)) = _
              rw [Int.toNat_natCast, Int.toNat_natCast]
            have s1 : (bs (rdg D)).size = WoolBits.len D := by rw [bs_size, rdg_pos D (by omega)]; rfl
            have s2 : (bs (rdg N)).size = WoolBits.len N := by rw [bs_size, rdg_pos N (by omega)]; rfl
            have l1 := WoolBits.len_lt 9 D (by simp; omega) (by omega)
            have l2 := WoolBits.len_lt 7 N (by simp; omega) (by omega)
            have l3 := WoolBits.len_pos D
            have l4 := WoolBits.len_pos N
            generalize WoolBits.len D = P at *
            generalize WoolBits.len N = Q at *
            obtain ⟨A1, e1⟩ : ∃ A1, 2 * P = A1 := ⟨_, rfl⟩
            obtain ⟨A2, e2⟩ : ∃ A2, 1 + A1 = A2 := ⟨_, rfl⟩
            obtain ⟨B1, e3⟩ : ∃ B1, 2 * Q = B1 := ⟨_, rfl⟩
            obtain ⟨A4, e4⟩ : ∃ A4, A1 + B1 = A4 := ⟨_, rfl⟩
            obtain ⟨A5, e5⟩ : ∃ A5, A4 - 1 = A5 := ⟨_, rfl⟩
            obtain ⟨A6, e6⟩ : ∃ A6, S + A5 = A6 := ⟨_, rfl⟩
            have HPT := Lib.hid (show (pack (z0.take (k + 1))).length = A6 by rw [hpt']; omega)
            have p1 : IntKind.i64.wrap (2 * (P : Int)) = (A1 : Int) := by rw [show 2 * (P : Int) = (A1 : Int) by omega]; exact IntWalk.i64_in _ (by omega)
            have p2 : IntKind.i64.wrap (1 + (A1 : Int)) = (A2 : Int) := by rw [show 1 + (A1 : Int) = (A2 : Int) by omega]; exact IntWalk.i64_in _ (by omega)
            have p3 : IntKind.i64.wrap ((A2 : Int) - 1) = (A1 : Int) := by rw [show (A2 : Int) - 1 = (A1 : Int) by omega]; exact IntWalk.i64_in _ (by omega)
            have p4 : IntKind.i64.wrap (2 * (Q : Int)) = (B1 : Int) := by rw [show 2 * (Q : Int) = (B1 : Int) by omega]; exact IntWalk.i64_in _ (by omega)
            have p5 : IntKind.i64.wrap ((A1 : Int) + (B1 : Int)) = (A4 : Int) := by rw [show (A1 : Int) + (B1 : Int) = (A4 : Int) by omega]; exact IntWalk.i64_in _ (by omega)
            have p6 : IntKind.i64.wrap ((A4 : Int) - 1) = (A5 : Int) := by rw [show (A4 : Int) - 1 = (A5 : Int) by omega]; exact IntWalk.i64_in _ (by omega)
            have p7 : IntKind.i64.wrap ((S : Int) + (A5 : Int)) = (A6 : Int) := by rw [show (S : Int) + (A5 : Int) = (A6 : Int) by omega]; exact IntWalk.i64_in _ (by omega)
            have hn : ((N : Int) == 0) = false := by simp; omega
            have HD : Hid (D < 4294967296) := by show D < 4294967296; omega
            have HN : Hid (N < 4294967296) := by show N < 4294967296; omega
            clear hpt hpt' hgk h0 c1 c2 c3 c4 l1 l2 l3 l4 e1 e2 e3 e4 e5 e6 hS
            go_wp2_with fail
            have q0 := World.cell?_alloc_new wr #[.int .i64 (D : Int), .int .i64 (N : Int), .int .i64 tb] 36 0
            have q1 := World.cell?_alloc_new wr #[.int .i64 (D : Int), .int .i64 (N : Int), .int .i64 tb] 36 1
            have q2 : wr.heap.size < (wr.alloc (.cells #[.int .i64 (D : Int), .int .i64 (N : Int), .int .i64 tb] 36)).heap.size := by simp
            go_region_held3 (fun W => W.cell? ⟨wr.heap.size, 0, none⟩ = some (.int .i64 (D : Int)) ∧ W.cell? ⟨wr.heap.size, 1, none⟩ = some (.int .i64 (N : Int))) (go_keep) (first
              | (go_at_call 34; ((with_reducible refine (rDigits_any D _ HD.out).mono ?_); rintro e w4 ⟨rfl, u4⟩; have f0 := (Below.cell u4 (p := ⟨wr.heap.size, 0, none⟩) (by first | exact g2 | exact q2)).trans (by first | exact g0 | exact q0); have f1 := (Below.cell u4 (p := ⟨wr.heap.size, 1, none⟩) (by first | exact g2 | exact q2)).trans (by first | exact g1 | exact q1); have f2 := Nat.lt_of_lt_of_le (by first | exact g2 | exact q2) u4.size))
              | (go_at_call 34; ((with_reducible refine (rDigits_any N _ HN.out).mono ?_); rintro e w5 ⟨rfl, u5⟩; have g0 := (Below.cell u5 (p := ⟨wr.heap.size, 0, none⟩) (by first | exact f2 | exact q2)).trans (by first | exact f0 | exact q0); have g1 := (Below.cell u5 (p := ⟨wr.heap.size, 1, none⟩) (by first | exact f2 | exact q2)).trans (by first | exact f1 | exact q1); have g2 := Nat.lt_of_lt_of_le (by first | exact f2 | exact q2) u5.size)))
            all_goals
              go_wp2_with fail
              go_roundw
              case rel => exact ⟨k + 1, by omega, by go_num, by rw [HPT.out], by first | exact HU.out.trans ((Up.alloc _ _).trans (((Up.drew _).trans u4).trans u5)) | exact HU.out.trans ((Up.alloc _ _).trans (((Up.drew _).trans u5).trans u4))⟩
              case measure => simp only [intOf]; omega
      · have d1 : decide (k < z0.length) = false := decide_eq_false hlt
        have hte : z0.take k = z0 := List.take_of_length_le (by omega)
        rw [hte, HN0.out]
        clear hte
        go_wp2
        go_ret
        exact ⟨rfl, U2.trans hu⟩
  · have HV : Hid (bitsV z0 = .tuple #[.string ⟨#[]⟩, .int .i64 (exp [] z0).1]) := by
      show _ = _
      unfold bitsV
      rw [if_neg hx]
      rfl
    rw [HV.out]
    obtain ⟨E, hE⟩ : ∃ E, (exp [] z0).1 = E := ⟨_, rfl⟩
    rw [hE] at hx
    rw [hE]
    have hx1 : (E != 0) = true := by rw [bne_iff_ne]; exact hx
    clear hE hx HV
    go_wp2
    go_ret
    exact ⟨rfl, U2⟩

end Go.Proofs.YtjbedphofjdfkaaDoor
