/-
  What the reference's Byte, Bytes and Unbytes return. Conditions: texts that fit in memory (as each says).
-/
import Derived.Test.YtloiciinmdmdkaaGreatDoorPack3
import Derived.Test.YtloiciinmdmdkaaGreatDoorRefGam2
namespace Go.Proofs.YtloiciinmdmdkaaGreatDoor
open Go.RowKit
open Go.Proofs
open WoolLz WoolPack

theorem val_zeros (n : Nat) (m : List UInt8) : WoolBits.val 0 (List.replicate n 48 ++ m) = WoolBits.val 0 m := by
  have h : ∀ n : Nat, WoolBits.val 0 (List.replicate n 48) = 0 := by
    intro n
    induction n with
    | zero => rfl
    | succ n ih => rw [List.replicate_succ', WoolBits.val_snoc, ih]; rfl
  rw [WoolBits.val_append, h]

theorem rdg_val (b : Nat) : WoolBits.val 0 (rdg b) = b := by
  unfold rdg
  split
  · rename_i h; rw [h]; rfl
  · exact WoolBits.val_dg b

theorem rdg_isB (b : Nat) : WoolBits.isB (rdg b) = true := by
  unfold rdg
  split
  · rfl
  · exact WoolBits.isB_dg b

theorem rdg_len8 (b : Nat) (h : b < 256) : (rdg b).length ≤ 8 := by
  unfold rdg
  split
  · simp
  · exact WoolBits.len_lt 8 b (by simpa using h) (by omega)

theorem byte_bits (b : Nat) (h : b < 256) : List.replicate (8 - (rdg b).length) 48 ++ rdg b = b8 b := by
  have h8 := rdg_len8 b h
  have e := b8_val (List.replicate (8 - (rdg b).length) 48 ++ rdg b) (by rw [List.length_append, List.length_replicate]; omega) (by rw [WoolBits.isB_append, isB_zeros, rdg_isB]; rfl)
  rw [val_zeros, rdg_val] at e
  exact e.symm

theorem rByte_any (b : Nat) (w : World) (h : b < 256) :
    Calls Tryz.prog 37 #[.int .i64 (b : Int)] w fun e w' => e = .returned (.string (bs (b8 b))) ∧ Up w w' := by
  have h8 := rdg_len8 b h
  have hbb := byte_bits b h
  have hsz := bs_size (rdg b)
  have hadd := add_bs (List.replicate (8 - (rdg b).length) 48) (rdg b) (by rw [List.length_replicate]; omega)
  rw [hbb] at hadd
  obtain ⟨n, hn⟩ : ∃ n, (rdg b).length = n := ⟨_, rfl⟩
  rw [hn] at hsz h8 hadd
  obtain ⟨m, hm⟩ : ∃ m, 8 - n = m := ⟨_, rfl⟩
  rw [hm] at hadd
  have hd : 8 - (n : Int) = (m : Int) := by omega
  have hm8 : m ≤ 8 := by omega
  clear hbb hn hm
  go_enter Tryz.func37, Tryz.ntmps37
  go_wp2_with fail
  refine (rDigits_any b _ (by omega)).mono ?_
  rintro e w1 ⟨rfl, u1⟩
  go_wp2_with fail
  refine (Tryz.strings_Repeat ⟨#[48]⟩ m _ (by omega) (by show 1 * m ≤ _; omega)).mono ?_
  rintro e w2 ⟨rfl, u2⟩
  rw [zeros_text]
  go_wp2
  go_ret
  exact ⟨rfl, Up.trans u1 u2⟩

def PadRel (l : List UInt8) (t0 : Value) : Prop := ∃ j : Nat, j ≤ pad l.length ∧ t0 = .string (bs (l ++ 49 :: List.replicate j 48))

def RBytesRel (l : List UInt8) (w : World) (t0 t3 : Value) (wr : World) : Prop :=
  ∃ (k : Nat) (s d : List UInt8), t0 = .string (bs s) ∧ s.length = 8 * k ∧ WoolBits.isB s = true ∧ d ++ by8 k s = byts l ∧ t3 = .string (bs d) ∧ Up w wr

set_option maxRecDepth 100000 in
set_option maxHeartbeats 2000000 in
theorem rBytes_any (l : List UInt8) (w : World) (hl : l.length ≤ 140737488351232) (hb : WoolBits.isB l = true) :
    Calls Tryz.prog 16 #[.string (bs l)] w fun e w' => e = .returned (.string (bs (byts l))) ∧ Up w w' := by
  have ha1 := add_bs l [49] (by simp; omega)
  rw [show bs [49] = ⟨#[49]⟩ from rfl] at ha1
  have hp := pad_lt l.length
  have hpm := pad_mod l.length
  have HFB := Lib.hid (isB_fil l hb)
  have HFL := Lib.hid (fil_length l)
  have HBL := Lib.hid (byts_length l)
  have HP0 : Hid (∃ j : Nat, j ≤ pad l.length ∧ Value.string (bs (l ++ [49])) = .string (bs (l ++ 49 :: List.replicate j 48))) := ⟨0, by omega, rfl⟩
  have HF : Hid (∀ j, j = pad l.length → l ++ 49 :: List.replicate j 48 = fil l) := fun j hj => by rw [hj]; rfl
  obtain ⟨X, hX⟩ : ∃ X, l ++ [49] = X := ⟨_, rfl⟩
  rw [hX] at ha1 HP0
  obtain ⟨n, hn⟩ : ∃ n, l.length = n := ⟨_, rfl⟩
  have HN := Lib.hid hn
  rw [hn] at hp hpm hl
  obtain ⟨q, hq⟩ : ∃ q, pad n = q := ⟨_, rfl⟩
  rw [hq] at hp hpm
  have HQ := Lib.hid hq
  clear hb hX hn hq
  go_enter Tryz.func16, Tryz.ntmps16
  go_wp2
  go_loop [0] (PadRel l) (fun t0 => n + 9 - (match t0 with | .string s => s.size | _ => 0))
  case atStart => exact HP0.out
  case round =>
    obtain ⟨j, hj, rfl⟩ := hrel
    rw [HN.out, HQ.out] at hj
    have hsz := bs_size (l ++ 49 :: List.replicate j 48)
    rw [List.length_append, List.length_cons, List.length_replicate, HN.out] at hsz
    by_cases hlt : j < q
    · have ha2 := add_bs (l ++ 49 :: List.replicate j 48) [48] (by rw [List.length_append, List.length_cons, List.length_replicate, HN.out]; simp; omega)
      rw [show bs [48] = ⟨#[48]⟩ from rfl, List.append_assoc, List.cons_append, ← List.replicate_succ'] at ha2
      have hsz2 := bs_size (l ++ 49 :: List.replicate (j + 1) 48)
      rw [List.length_append, List.length_cons, List.length_replicate, HN.out] at hsz2
      have HS2 := Lib.hid hsz2
      have HS1 := Lib.hid hsz
      obtain ⟨Y, hY⟩ : ∃ Y, l ++ 49 :: List.replicate j 48 = Y := ⟨_, rfl⟩
      obtain ⟨Z, hZ⟩ : ∃ Z, l ++ 49 :: List.replicate (j + 1) 48 = Z := ⟨_, rfl⟩
      rw [hY, hZ] at ha2
      rw [hY] at hsz HS1
      rw [hZ] at HS2
      rw [hY]
      have HZ := Lib.hid hZ
      obtain ⟨m, hm⟩ : ∃ m, n + (j + 1) = m := ⟨_, rfl⟩
      rw [hm] at hsz
      have hmod : ((m : Int) % 8) ≠ 0 := by omega
      have hpos : decide (0 < (m : Int) % 8) = true := by rw [decide_eq_true_iff]; omega
      have hpos' : 0 < (m : Int) % 8 := by omega
      clear hsz2 hY hZ hmod
      go_wp2
      go_round
      case rel => exact ⟨j + 1, by rw [HN.out, HQ.out]; omega, by rw [HZ.out]⟩
      case measure => show n + 9 - (bs Z).size < n + 9 - (bs Y).size; rw [HS2.out, HS1.out]; omega
    · obtain rfl : j = q := by omega
      rw [HF.out j (by rw [HN.out, HQ.out])] at hsz ⊢
      have hmod : (((n + (j + 1) : Nat) : Int)) % 8 = 0 := by omega
      obtain ⟨m, hm⟩ : ∃ m, n + (j + 1) = m := ⟨_, rfl⟩
      rw [hm] at hsz hmod
      have hm8 : m = 8 * (m / 8) := by omega
      have HST : Hid (RBytesRel l w (.string (bs (fil l))) (.string ⟨#[]⟩) w) := ⟨m / 8, fil l, [], rfl, by rw [← bs_size, hsz]; exact hm8, HFB.out, by show by8 _ _ = byts l; unfold byts; rw [← bs_size, hsz], rfl, Up.refl _⟩
      have HBB : Hid ((byts l).length ≤ 140737488351232) := by
        show (byts l).length ≤ 140737488351232
        rw [HBL.out, HN.out, HQ.out]; omega
      clear hm8 hm
      go_wp2_with fail
      go_loopw [0, 3] (RBytesRel l w) (fun t0 _ _ => match t0 with | .string s => s.size | _ => 0)
      case atStart => exact HST.out
      case round =>
        obtain ⟨k, s, d, rfl, hs, hsb, hd, rfl, hu⟩ := hrel
        have hdl : d.length + k = (byts l).length := by rw [← hd, List.length_append, by8_length]
        have hdl2 := HBB.out
        cases k with
        | zero =>
          have : s = [] := List.eq_nil_of_length_eq_zero (by omega)
          subst this
          have hd2 : d = byts l := by rw [← hd]; show d = d ++ []; rw [List.append_nil]
          subst hd2
          rw [show bs [] = ⟨#[]⟩ from rfl]
          have HU := Lib.hid hu
          clear hu hd hdl hdl2 hs hsb
          go_wp2
          go_ret
          exact ⟨rfl, HU.out⟩
        | succ k =>
          have hne := not_empty s (by omega)
          have hto := to_bs s 8 8 rfl (by omega)
          have hfrom := from_bs s 8 8 rfl (by omega)
          have hvb := WoolBits.isB_take s 8 hsb
          have hvl : (s.take 8).length = 8 := by rw [List.length_take]; omega
          have hv8 := val8_lt (s.take 8) (by omega) hvb
          have hnext : (d ++ [UInt8.ofNat (WoolBits.val 0 (s.take 8))]) ++ by8 k (s.drop 8) = byts l := by rw [← hd, List.append_assoc]; rfl
          have hsd : (s.drop 8).length = 8 * k := by rw [List.length_drop]; omega
          have hsdb := WoolBits.isB_drop s 8 hsb
          obtain ⟨A, hA⟩ : ∃ A, s.take 8 = A := ⟨_, rfl⟩
          obtain ⟨R, hR⟩ : ∃ R, s.drop 8 = R := ⟨_, rfl⟩
          rw [hA] at hto hvb hvl hv8 hnext
          rw [hR] at hfrom hnext hsd hsdb
          have hx : ((UInt8.ofNat (WoolBits.val 0 A)).toNat : Int) = ((WoolBits.val 0 A : Nat) : Int) := by rw [UInt8.toNat_ofNat_of_lt' (by simpa using hv8)]
          have hadd := add_bs d [UInt8.ofNat (WoolBits.val 0 A)] (by simp; omega)
          have hcv : ∀ v : World, (convert 34 9 (.slice (some ⟨v.heap.size, 0, none⟩) 1 1)).run Tryz.prog (v.alloc (.cells #[.int .u8 ((WoolBits.val 0 A : Nat) : Int)] 5)) = .ok (.string (bs [UInt8.ofNat (WoolBits.val 0 A)])) (v.alloc (.cells #[.int .u8 ((WoolBits.val 0 A : Nat) : Int)] 5)) := conv_bit _ _ hx.symm
          have hbto := to_bytes A
          rw [hvl] at hbto
          have HA := Lib.hid hvb
          have HAL := Lib.hid hvl
          have HNX := Lib.hid hnext
          have HSD := Lib.hid hsd
          have HSDB := Lib.hid hsdb
          have HU := Lib.hid hu
          have HADD := Lib.hid hadd
          have HCV := Lib.hid hcv
          have HV8 := Lib.hid hv8
          have HSS : Hid ((bs R).size < (bs s).size) := by show (bs R).size < (bs s).size; rw [bs_size, bs_size]; omega
          clear hd hvb hvl hnext hsd hsdb hA hR hx hu hsb hadd hcv hv8
          go_wp2_with fail
          go_loop [4, 23] (ReadRel 0 A) (fun _ t23 => 8 - (RowKit.intOf t23).toNat)
          case atStart => exact ⟨0, by omega, rfl, rfl⟩
          case round =>
            obtain ⟨i, hi, rfl, rfl⟩ := hrel
            rw [HAL.out] at hi
            have hv := val_small 0 A i HA.out (by omega) (by rw [HAL.out]; omega)
            by_cases hlt2 : i < 8
            · have hil : i < A.length := by rw [HAL.out]; exact hlt2
              have hcell := bworld_cell A wr i hil
              have hst := val_take 0 A i hil
              have hbit := bit_at A i hil HA.out
              obtain ⟨y, hy⟩ : ∃ y, A[i].toNat = y := ⟨_, rfl⟩
              obtain ⟨V, hV⟩ : ∃ V, WoolBits.val 0 (A.take i) = V := ⟨_, rfl⟩
              rw [hy] at hcell hst hbit
              rw [hV] at hv hst
              rw [hV]
              have HSTT := Lib.hid hst
              have hand := and_one_u8 y hbit
              have hc2 : y - 48 ≤ 1 := by omega
              obtain ⟨x, hx⟩ : ∃ x, y - 48 = x := ⟨_, rfl⟩
              rw [hx] at hand HSTT hc2
              clear hst hy hV hbit hx
              go_wp2_with fail
              go_round
              case rel => exact ⟨i + 1, by rw [HAL.out]; omega, by go_num, by rw [HSTT.out]; go_num⟩
              case measure => simp [intOf]; omega
            · have ht : A.take i = A := List.take_of_length_le (by rw [HAL.out]; omega)
              rw [ht] at hv
              rw [ht]
              have hv8 := HV8.out
              have hcv := HCV.out (bworld A wr)
              have hadd := HADD.out
              obtain ⟨V, hV⟩ : ∃ V, WoolBits.val 0 A = V := ⟨_, rfl⟩
              rw [hV] at hv hv8 hcv hadd HNX
              rw [hV]
              have hwr : IntKind.u8.wrap (V : Int) = (V : Int) := by rw [IntKind.wrap_u8]; omega
              obtain ⟨C, hC⟩ : ∃ C, UInt8.ofNat V = C := ⟨_, rfl⟩
              rw [hC] at hcv hadd HNX
              clear ht hV hC HCV HADD HV8
              go_wp2_with fail
              go_roundw
              case rel => exact ⟨k, R, _, rfl, HSD.out, HSDB.out, HNX.out, rfl, HU.out.trans ((bworld_up _ _).trans (Up.alloc _ _))⟩
              case measure => exact HSS.out

end Go.Proofs.YtloiciinmdmdkaaGreatDoor
