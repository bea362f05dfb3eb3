/-
  What the reference's Pack and Tokens return. Conditions: right tokens in a row that can be read; a text of at most 4 * 10^12 bytes.
-/
import Derived.Test.YtloiciinmdmdkaaGreatDoorRefPack1
import Derived.Test.YtloiciinmdmdkaaGreatDoorRefExp
import Derived.Test.YtloiciinmdmdkaaGreatDoorPack5
namespace Go.Proofs.YtloiciinmdmdkaaGreatDoor
open Go.RowKit
open Go.Proofs
open WoolLz WoolPack

def RPackRel (l : List Tok) (w : World) (t3 t8 : Value) (wr : World) : Prop :=
  ∃ k : Nat, k ≤ l.length ∧ t8 = .int .i64 (k : Int) ∧ t3 = .string (bs (pack (l.take k))) ∧ Up w wr

set_option maxRecDepth 100000 in
set_option maxHeartbeats 2000000 in
theorem rPack_any (v : Value) (l : List Tok) (w : World) (h : Toks w v l) (hx : (exp [] l).1 = 0) :
    Calls Tryz.prog 17 #[v] w fun e w' => e = .returned (.string (bs (pack l))) ∧ Up w w' := by
  obtain ⟨o, c, rfl, h2, h3, h4⟩ := h
  unfold maxLen at h3
  have H4 := Lib.hid h4
  have hg := exp_good l [] hx
  have hfew := exp_few l hx
  have HG := Lib.hid hg
  have HPB : Hid (∀ k, (pack (l.take k)).length ≤ 18600) := by
    intro k
    have h1 := pack_bound (l.take k) fun t ht => hg t (List.mem_of_mem_take ht)
    have h2 : (l.take k).length ≤ 600 := by rw [List.length_take]; omega
    omega
  have HST : Hid (RPackRel l w (.string ⟨#[]⟩) (.int .i64 0) w) := ⟨0, Nat.zero_le _, rfl, rfl, Up.refl _⟩
  clear hg hx h4
  go_enter Tryz.func17, Tryz.ntmps17
  go_wp2_with fail
  go_loopw [3, 8] (RPackRel l w) (fun _ i _ => l.length - (intOf i).toNat)
  case atStart => exact HST.out
  case round =>
    obtain ⟨k, hk, rfl, rfl, hu⟩ := hrel
    by_cases hlt : k < l.length
    · rcases H4.out with h5 | ⟨b, off, rfl, h5⟩
      · rw [h5] at hlt; simp at hlt
      · obtain ⟨a1, a2, a3⟩ := h5 k hlt
        rw [← hu.cell (World.block_lt_of_cell? w _ a1)] at a1
        rw [← hu.cell (World.block_lt_of_cell? w _ a2)] at a2
        rw [← hu.cell (World.block_lt_of_cell? w _ a3)] at a3
        have hgk := HG.out l[k] (List.getElem_mem hlt)
        have hpt := pack_take l k hlt
        have hS := HPB.out k
        obtain ⟨⟨td, tl, tb⟩, ht⟩ : ∃ t, l[k] = t := ⟨_, rfl⟩
        rw [ht] at a1 a2 a3 hgk hpt
        have HU := Lib.hid hu
        have d1 : decide (k < l.length) = true := decide_eq_true hlt
        obtain ⟨O, hO⟩ : ∃ O, pack (l.take k) = O := ⟨_, rfl⟩
        obtain ⟨N', hN'⟩ : ∃ O, pack (l.take (k + 1)) = O := ⟨_, rfl⟩
        rw [hO] at hpt hS
        rw [hN'] at hpt
        rw [hO]
        have HN' := Lib.hid hN'
        clear h5 ht hu hO hN'
        by_cases h0 : tl = 0
        · have hb : 0 ≤ tb ∧ tb ≤ 255 := by
            rcases hgk with h | h
            · unfold litB at h; rw [decide_eq_true_iff] at h; exact ⟨h.2.2.1, h.2.2.2⟩
            · unfold copB at h; rw [decide_eq_true_iff] at h; exact absurd h.1 (by show ¬ 1 ≤ tl; omega)
          obtain ⟨b1, b2⟩ := hb
          obtain ⟨B, rfl⟩ := Int.eq_ofNat_of_zero_le b1
          subst h0
          have he : enc ⟨td, 0, (B : Int)⟩ = [48] ++ b8 B := by unfold enc; rw [if_pos rfl]; rfl
          rw [he] at hpt
          have hl8 := b8_length B (by omega)
          have ha1 := add_bs [48] (b8 B) (by rw [hl8]; simp)
          rw [show bs [48] = ⟨#[48]⟩ from rfl] at ha1
          have ha2 := add_bs O ([48] ++ b8 B) (by rw [List.length_append, hl8]; simp; omega)
          rw [← hpt] at ha2
          obtain ⟨X, hX⟩ : ∃ X, [48] ++ b8 B = X := ⟨_, rfl⟩
          rw [hX] at ha1 ha2
          clear hgk hpt he hX
          go_wp2_with fail
          refine (rByte_any B _ (by omega)).mono ?_
          rintro e w2 ⟨rfl, u2⟩
          have HU2 := Lib.hid (HU.out.trans (Up.after _ _ _ u2))
          clear u2 a1 a2 a3
          go_wp2_with fail
          go_roundw
          case rel => exact ⟨k + 1, by omega, by go_num, by rw [HN'.out], HU2.out⟩
          case measure => simp only [intOf]; omega
        · have hc : 1 ≤ tl ∧ tl ≤ 64 ∧ 1 ≤ td ∧ td ≤ 256 := by
            rcases hgk with h | h
            · unfold litB at h; rw [decide_eq_true_iff] at h; exact absurd h.1 h0
            · unfold copB at h; rw [decide_eq_true_iff] at h; exact ⟨h.1, h.2.1, h.2.2.1, h.2.2.2.1⟩
          obtain ⟨c1, c2, c3, c4⟩ := hc
          obtain ⟨D, rfl⟩ := Int.eq_ofNat_of_zero_le (show 0 ≤ td by omega)
          obtain ⟨N, rfl⟩ := Int.eq_ofNat_of_zero_le (show 0 ≤ tl by omega)
          have he : enc ⟨(D : Int), (N : Int), tb⟩ = ([49] ++ WoolBits.gam D) ++ WoolBits.gam N := by
            unfold enc
            rw [if_neg h0]
            show 49 :: (WoolBits.gam (D : Int).toNat ++ WoolBits.gam (N : Int).toNat) = _
            rw [Int.toNat_natCast, Int.toNat_natCast]
            rfl
          rw [he] at hpt
          have g1 := WoolBits.gam_length D
          have g2 := WoolBits.gam_length N
          have l1 := WoolBits.len_lt 9 D (by simp; omega) (by omega)
          have l2 := WoolBits.len_lt 7 N (by simp; omega) (by omega)
          have ha1 := add_bs [49] (WoolBits.gam D) (by simp; omega)
          have ha2 := add_bs ([49] ++ WoolBits.gam D) (WoolBits.gam N) (by simp; omega)
          have ha3 := add_bs O (([49] ++ WoolBits.gam D) ++ WoolBits.gam N) (by simp; omega)
          rw [← hpt] at ha3
          rw [show bs [49] = ⟨#[49]⟩ from rfl] at ha1
          generalize hX : [49] ++ WoolBits.gam D = X at *
          generalize hY : X ++ WoolBits.gam N = Y at *
          have hn : ((N : Int) == 0) = false := by simp; omega
          have HD1 : Hid (1 ≤ D) := by show 1 ≤ D; omega
          have HD2 : Hid (D < 4294967296) := by show D < 4294967296; omega
          have HN1 : Hid (1 ≤ N) := by show 1 ≤ N; omega
          have HN2 : Hid (N < 4294967296) := by show N < 4294967296; omega
          clear hgk h0 c1 c2 c3 c4 g1 g2 l1 l2 hX hY hpt he hS
          go_wp2_with fail
          have q0 := World.cell?_alloc_new wr #[.int .i64 (D : Int), .int .i64 (N : Int), .int .i64 tb] 55 0
          have q1 := World.cell?_alloc_new wr #[.int .i64 (D : Int), .int .i64 (N : Int), .int .i64 tb] 55 1
          have q2 : wr.heap.size < (wr.alloc (.cells #[.int .i64 (D : Int), .int .i64 (N : Int), .int .i64 tb] 55)).heap.size := by simp
          go_region_held3 (fun W => W.cell? ⟨wr.heap.size, 0, none⟩ = some (.int .i64 (D : Int)) ∧ W.cell? ⟨wr.heap.size, 1, none⟩ = some (.int .i64 (N : Int))) (go_keep) (first
            | (go_at_call 38; ((with_reducible refine (rGamma_any D _ HD1.out HD2.out).mono ?_); rintro e w4 ⟨rfl, u4⟩; have f0 := (Below.cell u4 (p := ⟨wr.heap.size, 0, none⟩) (by first | exact g2 | exact q2)).trans (by first | exact g0 | exact q0); have f1 := (Below.cell u4 (p := ⟨wr.heap.size, 1, none⟩) (by first | exact g2 | exact q2)).trans (by first | exact g1 | exact q1); have f2 := Nat.lt_of_lt_of_le (by first | exact g2 | exact q2) u4.size))
            | (go_at_call 38; ((with_reducible refine (rGamma_any N _ HN1.out HN2.out).mono ?_); rintro e w5 ⟨rfl, u5⟩; have g0 := (Below.cell u5 (p := ⟨wr.heap.size, 0, none⟩) (by first | exact f2 | exact q2)).trans (by first | exact f0 | exact q0); have g1 := (Below.cell u5 (p := ⟨wr.heap.size, 1, none⟩) (by first | exact f2 | exact q2)).trans (by first | exact f1 | exact q1); have g2 := Nat.lt_of_lt_of_le (by first | exact f2 | exact q2) u5.size)))
          all_goals
            go_wp2_with fail
            go_roundw
            case rel => exact ⟨k + 1, by omega, by go_num, by rw [HN'.out], by first | exact HU.out.trans ((Up.alloc _ _).trans (((Up.drew _).trans u4).trans u5)) | exact HU.out.trans ((Up.alloc _ _).trans (((Up.drew _).trans u5).trans u4))⟩
            case measure => simp only [intOf]; omega
    · have d1 : decide (k < l.length) = false := decide_eq_false hlt
      have hte : l.take k = l := List.take_of_length_le (by omega)
      rw [hte]
      clear hte
      go_wp2
      go_ret
      exact ⟨rfl, hu⟩

end Go.Proofs.YtloiciinmdmdkaaGreatDoor
