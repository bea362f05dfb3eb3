/-
  What pack's eight, encode and Bits return: a byte's bits, a token's bits, the tokens' bits. Conditions: one cell of the table deBruijn64tab (Tab); the row of tokens can be read.
-/
import Derived.Test.YtloiciinmdmdkaaGreatDoorGam
import Derived.Test.YtloiciinmdmdkaaGreatDoorPackM
import Derived.Test.YtloiciinmdmdkaaGreatDoorLz3
namespace Go.Proofs.YtloiciinmdmdkaaGreatDoor
open Go.RowKit
open Go.Proofs
open WoolLz WoolPack

theorem or_256 (b : Nat) (h : b < 256) : bits .or .i64 256 (b : Int) = ((256 + b : Nat) : Int) := by
  have e : ∀ n : Nat, n < 512 → (BitVec.ofInt 64 (n : Int)).toNat = n := by
    intro n hn
    rw [BitVec.ofInt_natCast, BitVec.toNat_ofNat]; exact Nat.mod_eq_of_lt (by omega)
  have ho : 256 ||| b = 256 + b := (Nat.two_pow_add_eq_or_of_lt (i := 8) (by simpa using h) 1).symm
  show IntKind.i64.wrap ((BitVec.ofInt 64 ((256 : Nat) : Int) ||| BitVec.ofInt 64 (b : Int)).toNat : Int) = _
  rw [BitVec.toNat_or, e 256 (by omega), e b (by omega), ho]
  exact IntWalk.i64_in _ (by omega)

theorem eight_any (b : Nat) (w : World) (h : b < 256) (hT : Tab w) :
    Calls Tryz.prog 60 #[.int .i64 (b : Int)] w fun e w' => e = .returned (.string (bs (b8 b))) ∧ Up w w' := by
  have ho := or_256 b h
  have hl := len_256 b h
  have hsl := from_bs (WoolBits.dg (256 + b)) 1 1 rfl (by unfold WoolBits.len at hl; omega)
  have HB := Lib.hid (show b8 b = (WoolBits.dg (256 + b)).drop 1 from rfl)
  rw [← HB.out] at hsl
  obtain ⟨n, hn⟩ : ∃ n, 256 + b = n := ⟨_, rfl⟩
  rw [hn] at ho hsl
  have hn1 : 1 ≤ n := by omega
  have hn2 : n < 512 := by omega
  clear hl HB hn
  go_enter Tryz.func60, Tryz.ntmps60
  go_wp2_with fail
  refine (format2 n _ hn1 (by omega) hT).mono ?_
  rintro e w1 ⟨rfl, u1⟩
  rw [show (⟨(WoolBits.dg n).toArray⟩ : ByteArray) = bs (WoolBits.dg n) from rfl]
  go_wp2
  go_ret
  exact ⟨rfl, u1⟩

set_option maxHeartbeats 1000000 in
theorem encode_any (d l b : Int) (w : World) (h : good ⟨d, l, b⟩) (hT : Tab w) :
    Calls Tryz.prog 32 #[.agg #[.int .i64 d, .int .i64 l, .int .i64 b]] w fun e w' => e = .returned (.string (bs (enc ⟨d, l, b⟩))) ∧ Up w w' := by
  by_cases h0 : l = 0
  · have hb : 0 ≤ b ∧ b ≤ 255 := by
      rcases h with h | h
      · unfold litB at h; rw [decide_eq_true_iff] at h; exact ⟨h.2.2.1, h.2.2.2⟩
      · unfold copB at h; rw [decide_eq_true_iff] at h; exact absurd h.1 (by show ¬ 1 ≤ l; omega)
    obtain ⟨b1, b2⟩ := hb
    obtain ⟨B, rfl⟩ := Int.eq_ofNat_of_zero_le b1
    subst h0
    have HE : Hid (bs (enc ⟨d, 0, (B : Int)⟩) = bs ([48] ++ b8 B)) := by
      show _ = _
      unfold enc
      rw [if_pos rfl]
      rfl
    have hadd := add_bs [48] (b8 B) (by rw [b8_length B (by omega)]; simp)
    rw [show bs [48] = ⟨#[48]⟩ from rfl] at hadd
    generalize [48] ++ b8 B = R at *
    clear h
    go_enter Tryz.func32, Tryz.ntmps32
    go_wp2_with fail
    refine (eight_any B _ (by omega) (hT.up (Up.alloc _ _))).mono ?_
    rintro e w1 ⟨rfl, u1⟩
    go_wp2
    go_ret
    exact ⟨by rw [HE.out]; rfl, Up.after _ _ _ u1⟩
  · have hc : 1 ≤ l ∧ l ≤ 64 ∧ 1 ≤ d ∧ d ≤ 256 := by
      rcases h with h | h
      · unfold litB at h; rw [decide_eq_true_iff] at h; exact absurd h.1 h0
      · unfold copB at h; rw [decide_eq_true_iff] at h; exact ⟨h.1, h.2.1, h.2.2.1, h.2.2.2.1⟩
    obtain ⟨c1, c2, c3, c4⟩ := hc
    obtain ⟨D, rfl⟩ := Int.eq_ofNat_of_zero_le (show 0 ≤ d by omega)
    obtain ⟨N, rfl⟩ := Int.eq_ofNat_of_zero_le (show 0 ≤ l by omega)
    have HE : Hid (bs (enc ⟨(D : Int), (N : Int), b⟩) = bs (([49] ++ WoolBits.gam D) ++ WoolBits.gam N)) := by
      show _ = _
      unfold enc
      rw [if_neg h0]
      show bs (49 :: (WoolBits.gam (D : Int).toNat ++ WoolBits.gam (N : Int).toNat)) = _
      rw [Int.toNat_natCast, Int.toNat_natCast]
      rfl
    have g1 := WoolBits.gam_length D
    have g2 := WoolBits.gam_length N
    have l1 := WoolBits.len_lt 9 D (by simp; omega) (by omega)
    have l2 := WoolBits.len_lt 7 N (by simp; omega) (by omega)
    have ha1 := add_bs [49] (WoolBits.gam D) (by simp; omega)
    have ha2 := add_bs ([49] ++ WoolBits.gam D) (WoolBits.gam N) (by simp; omega)
    rw [show bs [49] = ⟨#[49]⟩ from rfl] at ha1
    generalize hX : [49] ++ WoolBits.gam D = X at *
    generalize X ++ WoolBits.gam N = Y at *
    have hn : ((N : Int) == 0) = false := by simp; omega
    clear h h0 g1 g2 l1 l2 hX
    go_enter Tryz.func32, Tryz.ntmps32
    go_wp2_with fail
    refine (gamma_yes D _ (by omega) (by omega) (hT.up (Up.alloc _ _))).mono ?_
    rintro e w1 ⟨rfl, u1⟩
    obtain ⟨c0, c1, c2⟩ := new_cells _ _ _ _ _ _ u1
    have U1 := Up.after _ _ _ u1
    clear u1
    go_wp2_with fail
    refine (gamma_yes N _ (by omega) (by omega) (hT.up U1)).mono ?_
    rintro e w2 ⟨rfl, u2⟩
    have U2 := U1.trans u2
    clear u2 c0 c1 c2
    go_wp2
    go_ret
    exact ⟨by rw [HE.out]; rfl, U2⟩

/-- a Builder that holds a list of bytes -/
def Bld (w : World) (B b : Nat) (l : List UInt8) : Prop := Lib.IsBuilder 58 5 B b (Lib.byteCells l) w

theorem BuilderAt.up {T e : TypeId} {B b : Nat} {p : Value} {bs : List Value} {w w' : World} (h : Lib.BuilderAt T e B b p bs w) (hu : Up w w') : Lib.BuilderAt T e B b p bs w' := by
  have hlt := h.lt
  obtain ⟨h1, v, h2, h3, h4⟩ := h
  refine ⟨h1, v, (hu.block b hlt).trans h2, ⟨h3.1, ?_⟩, h4⟩
  rcases h3.2 with h | ⟨g, cap, cur, k1, k2, k3, k4⟩
  · exact .inl h
  · refine .inr ⟨g, cap, cur, k1, k2, ?_, k4⟩
    have hg : g < w.heap.size := by
      rcases Nat.lt_or_ge g w.heap.size with hlt | hge
      · exact hlt
      · rw [Array.getElem?_eq_none hge] at k3; cases k3
    rw [← k3]; exact hu.block g hg

theorem Bld.up {w w' : World} {B b : Nat} {l : List UInt8} (h : Bld w B b l) (hu : Up w w') : Bld w' B b l := by
  rcases h with h | h
  · exact .inl (BuilderAt.up h hu)
  · exact .inr (BuilderAt.up h hu)

theorem Bld.start (w : World) : Bld (w.alloc (.cells #[.pointer none, .slice none 0 0] 58)) w.heap.size w.heap.size [] := Lib.fresh_isBuilder _ _ w

theorem bwrite (l m : List UInt8) (B b : Nat) (w : World) (h : Bld w B b l) (hlen : l.length + m.length ≤ 140737488355328) (hBw : B ≤ w.heap.size) :
    Calls Tryz.prog 31 #[.pointer (some ⟨b, 0, none⟩), .string (bs m)] w fun e w' => e = .returned (.tuple #[.int .i64 ((m.length : Nat) : Int), .nilIface]) ∧ Bld w' B b (l ++ m) ∧ Below B w w' := by
  refine (Any.Builder_WriteString (ρ := Tryz.lays105_ren) { Tryz.lays105 with } Tryz.Builder_Extra_105 B b (Lib.byteCells l) (bs m) w h (by rw [bs_size]; simpa [Lib.byteCells] using hlen) hBw).mono ?_
  rintro e w' ⟨rfl, h1, h2⟩
  refine ⟨by rw [bs_size], .inr ?_, h2⟩
  have e1 : Lib.byteCells l ++ Lib.strCells (bs m) = Lib.byteCells (l ++ m) := by
    show Lib.byteCells l ++ Lib.byteCells m = _
    simp [Lib.byteCells]
  rw [← e1]
  exact h1

theorem bstring (l : List UInt8) (B b : Nat) (w : World) (h : Bld w B b l) (hBw : B ≤ w.heap.size) :
    Calls Tryz.prog 33 #[.pointer (some ⟨b, 0, none⟩)] w fun e w' => e = .returned (.string (bs l)) ∧ Below B w w' :=
  Tryz.Builder_String_any B b l w h hBw

theorem pack_take (l : List Tok) (k : Nat) (h : k < l.length) : pack (l.take (k + 1)) = pack (l.take k) ++ enc l[k] := by
  rw [List.take_succ_eq_append_getElem h, pack_append, pack, pack, List.append_nil]

def BitsLoop (l : List Tok) (w : World) (i : Value) (wr : World) : Prop :=
  ∃ k : Nat, k ≤ l.length ∧ i = .int .i64 (k : Int) ∧ Bld wr w.heap.size w.heap.size (pack (l.take k)) ∧ Up w wr

/-- what Bits answers -/
def bitsV (l : List Tok) : Value := .tuple #[.string (bs (if (exp [] l).1 = 0 then pack l else [])), .int .i64 (exp [] l).1]

set_option maxRecDepth 100000 in
set_option maxHeartbeats 1000000 in
theorem bits_any (v : Value) (l : List Tok) (w : World) (h : Toks w v l) (hT : Tab w) :
    Calls Tryz.prog 14 #[v] w fun e w' => e = .returned (bitsV l) ∧ Up w w' := by
  have HX := Lib.hid h
  obtain ⟨o, c, rfl, h2, h3, h4⟩ := h
  unfold maxLen at h3
  have H4 := Lib.hid h4
  clear h4
  by_cases hx : (exp [] l).1 = 0
  · have hg := exp_good l [] hx
    have hfew := exp_few l hx
    have HV : Hid (bitsV l = .tuple #[.string (bs (pack l)), .int .i64 0]) := by
      show _ = _
      unfold bitsV
      rw [if_pos hx, hx]
    have HG := Lib.hid hg
    have HX0 := Lib.hid hx
    have HPB : Hid (∀ k, (pack (l.take k)).length ≤ 18600) := by
      intro k
      have h1 := pack_bound (l.take k) fun t ht => hg t (List.mem_of_mem_take ht)
      have h2 : (l.take k).length ≤ 600 := by rw [List.length_take]; omega
      omega
    clear hg hx
    go_enter Tryz.func14, Tryz.ntmps14
    go_wp2_with fail
    refine (expand_any _ l _ HX.out).mono ?_
    rintro e w1 ⟨rfl, u1⟩
    rw [HX0.out]
    have hst := Bld.start w1
    have HST := Lib.hid hst
    clear hst
    go_wp2_with fail
    go_loopw [19] (BitsLoop l w1) (fun i _ => l.length - (intOf i).toNat)
    case atStart => exact ⟨0, Nat.zero_le _, rfl, HST.out, Up.alloc _ _⟩
    case round =>
      obtain ⟨k, hk, rfl, hb, hu⟩ := hrel
      by_cases hlt : k < l.length
      · rcases H4.out with h5 | ⟨b, off, rfl, h5⟩
        · rw [h5] at hlt; simp at hlt
        · obtain ⟨a1, a2, a3⟩ := h5 k hlt
          have U := u1.trans hu
          rw [← U.cell (World.block_lt_of_cell? w _ a1)] at a1
          rw [← U.cell (World.block_lt_of_cell? w _ a2)] at a2
          rw [← U.cell (World.block_lt_of_cell? w _ a3)] at a3
          have hgk := HG.out l[k] (List.getElem_mem hlt)
          have hpt := pack_take l k hlt
          obtain ⟨⟨td, tl, tb⟩, ht⟩ : ∃ t, l[k] = t := ⟨_, rfl⟩
          rw [ht] at a1 a2 a3 hgk hpt
          have HU := Lib.hid hu
          have HUU := Lib.hid U
          have HB := Lib.hid hb
          have HGK := Lib.hid hgk
          have HPT := Lib.hid hpt
          have HEB := Lib.hid (enc_bound _ hgk)
          clear h5 ht hu hb U hgk hpt
          have d1 : decide (k < l.length) = true := decide_eq_true hlt
          go_wp2_with fail
          refine (encode_any td tl tb _ HGK.out ((hT.up HUU.out).up (Up.alloc _ _))).mono ?_
          rintro e w2 ⟨rfl, u2⟩
          have U2 := Up.after _ _ _ u2
          have HB2 := Lib.hid (HB.out.up U2)
          have HU2 := Lib.hid (HU.out.trans U2)
          clear u2 a1 a2 a3 HB
          have hsz2 := HU2.out.size
          go_wp2_with fail
          refine (bwrite _ _ _ _ _ HB2.out (by have := HPB.out k; have := HEB.out; omega) hsz2).mono ?_
          rintro e w3 ⟨rfl, hb3, u3⟩
          rw [← HPT.out] at hb3
          have HB3 := Lib.hid hb3
          have HU3 := Lib.hid (show Up w1 w3 from Below.trans HU2.out u3)
          clear hb3 u3 U2
          go_wp2_with fail
          go_roundw
          case rel => exact ⟨k + 1, by omega, by go_num, HB3.out, HU3.out⟩
          case measure => simp only [intOf]; omega
      · have d1 : decide (k < l.length) = false := decide_eq_false hlt
        have hb' := hb
        rw [List.take_of_length_le (by omega)] at hb'
        have HB := Lib.hid hb'
        have HU := Lib.hid hu
        have hsz := hu.size
        clear hb hb' hu
        go_wp2_with fail
        refine (bstring _ _ _ _ HB.out hsz).mono ?_
        rintro e w2 ⟨rfl, u2⟩
        have HU2 := Lib.hid (show Up w1 w2 from Below.trans HU.out u2)
        clear u2
        go_wp2
        go_ret2
        exact ⟨by rw [HV.out]; rfl, u1.trans HU2.out⟩
  · have HV : Hid (bitsV l = .tuple #[.string ⟨#[]⟩, .int .i64 (exp [] l).1]) := by
      show _ = _
      unfold bitsV
      rw [if_neg hx]
      rfl
    obtain ⟨E, hE⟩ : ∃ E, (exp [] l).1 = E := ⟨_, rfl⟩
    rw [hE] at hx
    have HE := Lib.hid hE
    have hx1 : (E != 0) = true := by rw [bne_iff_ne]; exact hx
    clear hE hx
    go_enter Tryz.func14, Tryz.ntmps14
    go_wp2_with fail
    refine (expand_any _ l _ HX.out).mono ?_
    rintro e w1 ⟨rfl, u1⟩
    rw [HE.out]
    go_wp2
    go_ret2
    exact ⟨by rw [HV.out, HE.out]; rfl, u1⟩

end Go.Proofs.YtloiciinmdmdkaaGreatDoor
