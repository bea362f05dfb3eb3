/-
  What pack's isBits, value, fill, Bytes and Unbytes return. Conditions: texts that fit in memory (as each says); Unbytes: one cell of the table deBruijn64tab.
-/
import Derived.Test.YtloiciinmdmdkaaGreatDoorPack1
import Derived.Test.YtloiciinmdmdkaaGreatDoorGam2
import Derived.Test.YtloiciinmdmdkaaGreatDoorBytM
namespace Go.Proofs.YtloiciinmdmdkaaGreatDoor
open Go.RowKit
open Go.Proofs
open WoolLz WoolPack

theorem isBitsP_any (l : List UInt8) (w : World) (hl : l.length ≤ 281474976710656) :
    Calls Tryz.prog 34 #[.string (bs l)] w fun e w' => e = .returned (.bool (WoolBits.isB l)) ∧ w = w' := by
  have hb := (count_bits l).1
  have ht := count_test l
  have hsz := bs_size l
  obtain ⟨x, hx⟩ : ∃ x : Nat, Lib.countByte (bs l).data.toList 48 = x := ⟨_, rfl⟩
  obtain ⟨y, hy⟩ : ∃ y : Nat, Lib.countByte (bs l).data.toList 49 = y := ⟨_, rfl⟩
  have ex : l.count 48 = x := by rw [← hx, bs_list]; rfl
  have ey : l.count 49 = y := by rw [← hy, bs_list]; rfl
  rw [ex, ey] at hb ht
  obtain ⟨n, hn⟩ : ∃ n, l.length = n := ⟨_, rfl⟩
  rw [hn] at hb ht hsz hl
  have HX := Lib.hid hx
  have HY := Lib.hid hy
  clear hx hy ex ey hn
  go_enter Tryz.func34, Tryz.ntmps34
  go_wp2_with fail
  refine (Tryz.strings_Count_one (bs l) 48 _).mono ?_
  rintro e w1 ⟨rfl, rfl⟩
  rw [HX.out]
  go_wp2_with fail
  refine (Tryz.strings_Count_one (bs l) 49 _).mono ?_
  rintro e w2 ⟨rfl, rfl⟩
  rw [HY.out]
  go_wp2
  go_ret
  exact ⟨by rw [← ht]; rfl, rfl⟩

set_option maxHeartbeats 1000000 in
theorem valueP_any (l : List UInt8) (w : World) (hl : l.length ≤ 31) (hb : WoolBits.isB l = true) :
    Calls Tryz.prog 36 #[.string (bs l)] w fun e w' => e = .returned (.int .i64 ((WoolBits.val 0 l : Nat) : Int)) ∧ w = w' := by
  have hsz := bs_size l
  obtain ⟨n, hn⟩ : ∃ n, l.length = n := ⟨_, rfl⟩
  rw [hn] at hsz
  have HB := Lib.hid hb
  have HN := Lib.hid hn
  have hln : n ≤ 31 := by omega
  clear hb hn hl
  go_enter Tryz.func36, Tryz.ntmps36
  go_wp2
  go_loop [3, 7] (ValRel 0 l) (fun _ t7 => n - (RowKit.intOf t7).toNat)
  case atStart => exact ⟨0, by omega, rfl, rfl⟩
  case round =>
    obtain ⟨k, hk, rfl, rfl⟩ := hrel
    rw [HN.out] at hk
    have hv := val_small 0 l k HB.out (by omega) (by rw [HN.out]; exact hln)
    by_cases hlt : k < n
    · have hkl : k < l.length := by rw [HN.out]; exact hlt
      have hi := index_bs l k hkl
      have hst := val_take 0 l k hkl
      have hbit := bit_at l k hkl HB.out
      obtain ⟨c, hc⟩ : ∃ c, l[k].toNat = c := ⟨_, rfl⟩
      obtain ⟨V, hV⟩ : ∃ V, WoolBits.val 0 (l.take k) = V := ⟨_, rfl⟩
      rw [hc] at hi hst hbit
      rw [hV] at hv hst
      rw [hV]
      have HST := Lib.hid hst
      have hc2 : c - 48 ≤ 1 := by omega
      have hw : IntKind.u8.wrap ((c : Int) - 48) = ((c - 48 : Nat) : Int) := by rw [IntKind.wrap_u8]; omega
      obtain ⟨d, hd⟩ : ∃ d, c - 48 = d := ⟨_, rfl⟩
      rw [hd] at hw HST hc2
      clear hst hc hV hbit hd
      go_wp2
      go_round
      case rel => exact ⟨k + 1, by rw [HN.out]; omega, by go_num, by rw [HST.out]; go_num⟩
      case measure => simp [intOf]; omega
    · have ht : l.take k = l := List.take_of_length_le (by rw [HN.out]; omega)
      rw [ht] at hv
      rw [ht]
      clear ht
      go_wp2
      go_ret
      exact ⟨rfl, rfl⟩

theorem fill_any (l : List UInt8) (w : World) (hl : l.length ≤ 140737488355328) :
    Calls Tryz.prog 35 #[.string (bs l)] w fun e w' => e = .returned (.string (bs (fil l))) ∧ Up w w' := by
  have ha1 := add_bs l [49] (by simp; omega)
  rw [show bs [49] = ⟨#[49]⟩ from rfl] at ha1
  have hp := pad_lt l.length
  have ha2 := add_bs (l ++ [49]) (List.replicate (pad l.length) 48) (by simp; omega)
  have hsz := bs_size (l ++ [49])
  rw [List.length_append, List.length_singleton] at hsz
  have HF : Hid ((l ++ [49]) ++ List.replicate (pad l.length) 48 = fil l) := by show _ = _; unfold fil; simp
  have hpe : pad l.length = (8 - (l.length + 1) % 8) % 8 := rfl
  generalize l ++ [49] = X at *
  rw [HF.out] at ha2
  generalize pad l.length = q at *
  obtain ⟨n, hn⟩ : ∃ n, l.length + 1 = n := ⟨_, rfl⟩
  rw [hn] at hsz hpe
  have hn2 : n ≤ 140737488355329 := by omega
  obtain ⟨r, hr⟩ : ∃ r, n % 8 = r := ⟨_, rfl⟩
  rw [hr] at hpe
  have r1 : (n : Int) % 8 = (r : Int) := by omega
  have r2 : r < 8 := by omega
  have r3 : (8 - (r : Int)) % 8 = (q : Int) := by omega
  clear hn hr hpe hl HF
  go_enter Tryz.func35, Tryz.ntmps35
  go_wp2_with fail
  refine (Tryz.strings_Repeat ⟨#[48]⟩ q _ (by omega) (by show 1 * q ≤ _; omega)).mono ?_
  rintro e w1 ⟨rfl, u1⟩
  rw [zeros_text]
  go_wp2
  go_ret
  exact ⟨rfl, u1⟩

/-- what Bytes answers -/
def bytesV (l : List UInt8) : Value := .tuple #[.string (bs (if WoolBits.isB l = true then byts l else [])), .int .i64 (if WoolBits.isB l = true then 0 else 3)]

def BytesRel (l : List UInt8) (w : World) (t0 t4 : Value) (wr : World) : Prop :=
  ∃ (k : Nat) (s d : List UInt8), t0 = .string (bs s) ∧ s.length = 8 * k ∧ WoolBits.isB s = true ∧ d ++ by8 k s = byts l ∧ Bytes wr w.heap.size t4 d ∧ Up w wr

set_option maxRecDepth 100000 in
set_option maxHeartbeats 1000000 in
theorem bytesP_any (l : List UInt8) (w : World) (hl : l.length ≤ 140737488351232) :
    Calls Tryz.prog 15 #[.string (bs l)] w fun e w' => e = .returned (bytesV l) ∧ Up w w' := by
  cases hb : WoolBits.isB l with
  | false =>
    have HV : Hid (bytesV l = .tuple #[.string ⟨#[]⟩, .int .i64 3]) := by
      show _ = _
      unfold bytesV
      rw [hb]
      rfl
    have HB := Lib.hid hb
    clear hb
    go_enter Tryz.func15, Tryz.ntmps15
    go_wp2_with fail
    refine (isBitsP_any l _ (by omega)).mono ?_
    rintro e w1 ⟨rfl, rfl⟩
    rw [HB.out]
    go_wp2
    go_ret2
    exact ⟨by rw [HV.out]; rfl, Up.refl _⟩
  | true =>
    have HV : Hid (bytesV l = .tuple #[.string (bs (byts l)), .int .i64 0]) := by
      show _ = _
      unfold bytesV
      rw [if_pos hb, if_pos hb]
    have HB := Lib.hid hb
    have hfb := isB_fil l hb
    have hfl := fil_length l
    have hp := pad_lt l.length
    have hpm := pad_mod l.length
    have hbl := byts_length l
    obtain ⟨n, hn⟩ : ∃ n, (fil l).length / 8 = n := ⟨_, rfl⟩
    obtain ⟨m, hm⟩ : ∃ m, (fil l).length = m := ⟨_, rfl⟩
    have hsz : (bs (fil l)).size = m := by rw [bs_size]; exact hm
    have hq : (m : Int) / 8 = (n : Int) := by omega
    have hm2 : m ≤ 140737488355328 := by omega
    have HSTART : Hid (byts l = by8 n (fil l) ∧ (fil l).length = 8 * n ∧ WoolBits.isB (fil l) = true) := ⟨by unfold byts; rw [hn], by omega, hfb⟩
    have hn2 : n ≤ 17592186044416 := by omega
    have HBL : Hid ((byts l).length ≤ 17592186044416) := by show (byts l).length ≤ 17592186044416; rw [hbl]; omega
    obtain ⟨i0, hi, hz0, hz1, hz2⟩ := info_parts byteInfo
    have HI := Lib.hid hi
    have HZ0 := Lib.hid hz0
    have HZ1 := Lib.hid hz1
    have HZ2 := Lib.hid hz2
    obtain ⟨F, hF⟩ : ∃ F, fil l = F := ⟨_, rfl⟩
    rw [hF] at hsz HSTART
    have HF := Lib.hid hF
    clear hi hz0 hz1 hz2 hb hfb hfl hp hpm hbl hn hm hF
    go_enter Tryz.func15, Tryz.ntmps15
    go_wp2_with fail
    refine (isBitsP_any l _ (by omega)).mono ?_
    rintro e w1 ⟨rfl, rfl⟩
    rw [HB.out]
    go_wp2_with fail
    refine (fill_any l _ (by omega)).mono ?_
    rintro e w2 ⟨rfl, u2⟩
    rw [HF.out]
    go_wp2_with (at_make; refine wpList_make_own _ rfl _ _ 34 rfl w2.heap.size 5 i0 (.int .u8 0) 1 Tryz.underlying34 HI.out HZ0.out HZ1.out .i64 .i64 _ n rfl rfl rfl (by rw [HZ2.out]; omega) (by unfold maxLen; omega) (Nat.le_refl _) ?_)
    intro w3 hown hgrow
    have hu0 : Up w2 w3 := Below.grown (Up.refl w2) hgrow (Nat.le_refl _) (fun k hk => by cases hk)
    have HR0 : Hid (BytesRel l w2 (.string (bs F)) (.slice (some ⟨w2.heap.size, 0, none⟩) 0 n) w3) := ⟨n, F, [], rfl, HSTART.out.2.1, HSTART.out.2.2, HSTART.out.1.symm, hown, hu0⟩
    clear hown hgrow hu0
    go_wp2_with fail
    go_loopw [0, 4] (BytesRel l w2) (fun t0 _ _ => match t0 with | .string s => s.size | _ => 0)
    case atStart => exact HR0.out
    case round =>
      obtain ⟨k, s, d, rfl, hs, hsb, hd, hby, hu⟩ := hrel
      have hdl : d.length + k = (byts l).length := by
        rw [← hd, List.length_append, by8_length]
      have hdl2 := HBL.out
      cases k with
      | zero =>
        have : s = [] := List.eq_nil_of_length_eq_zero (by omega)
        subst this
        have hd2 : d = byts l := by rw [← hd]; show d = d ++ []; rw [List.append_nil]
        subst hd2
        have hconv := hby.conv
        obtain ⟨o, c, rfl⟩ := hby.slice
        rw [show (⟨(byts l).toArray⟩ : ByteArray) = bs (byts l) from rfl] at hconv
        rw [show bs [] = ⟨#[]⟩ from rfl]
        have HU := Lib.hid hu
        clear hby hu hd hdl hdl2 hs hsb
        go_wp2
        go_ret2
        exact ⟨by rw [HV.out]; rfl, u2.trans HU.out⟩
      | succ k =>
        have hne := not_empty s (by omega)
        have hto := to_bs s 8 8 rfl (by omega)
        have hfrom := from_bs s 8 8 rfl (by omega)
        have hvb := WoolBits.isB_take s 8 hsb
        have hvl : (s.take 8).length ≤ 31 := by rw [List.length_take]; omega
        have hv8 := val8_lt (s.take 8) (by rw [List.length_take]; omega) hvb
        have hnext : (d ++ [UInt8.ofNat (WoolBits.val 0 (s.take 8))]) ++ by8 k (s.drop 8) = byts l := by rw [← hd, List.append_assoc]; rfl
        have hsd : (s.drop 8).length = 8 * k := by rw [List.length_drop]; omega
        have hsdb := WoolBits.isB_drop s 8 hsb
        obtain ⟨A, hA⟩ : ∃ A, s.take 8 = A := ⟨_, rfl⟩
        obtain ⟨R, hR⟩ : ∃ R, s.drop 8 = R := ⟨_, rfl⟩
        rw [hA] at hto hvb hvl hv8 hnext
        rw [hR] at hfrom hnext hsd hsdb
        have hx : ((UInt8.ofNat (WoolBits.val 0 A)).toNat : Int) = ((WoolBits.val 0 A : Nat) : Int) := by rw [UInt8.toNat_ofNat_of_lt' (by simpa using hv8)]
        obtain ⟨V, hV⟩ : ∃ V, WoolBits.val 0 A = V := ⟨_, rfl⟩
        rw [hV] at hv8 hnext hx
        have hwr : IntKind.u8.wrap (V : Int) = (V : Int) := by rw [IntKind.wrap_u8]; omega
        obtain ⟨o, c, rfl⟩ := hby.slice
        have HA := Lib.hid hvb
        have HAL := Lib.hid hvl
        have HNX := Lib.hid hnext
        have HSD := Lib.hid hsd
        have HSDB := Lib.hid hsdb
        have HX := Lib.hid hx
        have HVV := Lib.hid hV
        have HU := Lib.hid hu
        have HBY := Lib.hid hby
        have hsz0 := hu.size
        have HCN := Lib.hid (cell_one_new wr (.int .u8 (V : Int)) 5)
        have HSS : Hid ((bs R).size < (bs s).size) := by show (bs R).size < (bs s).size; rw [bs_size, bs_size]; omega
        clear hd hvb hvl hnext hsd hsdb hA hR hx hV hu hby hsb
        go_wp2_with fail
        refine (valueP_any A _ HAL.out HA.out).mono ?_
        rintro e w4 ⟨rfl, rfl⟩
        rw [HVV.out]
        go_wp2_with (at_builtin; refine wpList_append_own _ rfl _ _ 34 rfl w2.heap.size 5 i0 (.int .u8 0) 1 1 Tryz.underlying34 HI.out HZ0.out HZ1.out HZ2.out rfl (by decide) _ _ _ rfl (World.ownsRow.alloc HBY.out _) ⟨wr.heap.size, 0, none⟩ 1 1 [.int .u8 (V : Int)] rfl rfl HCN.out (one_memB _ rfl) (by unfold maxLen; omega) (by omega) (by simp; omega) ?_; intro v' w5 hown hgrow _)
        have hown2 : Bytes w5 w2.heap.size v' (d ++ [UInt8.ofNat V]) := by
          unfold Bytes
          rw [byteL_snoc, HX.out, List.length_append]
          exact hown
        have hbl : Up w2 w5 := grown_below (HU.out.trans (Up.alloc _ _)) (by simp; omega) (World.ownsRow.alloc HBY.out _) hgrow
        have H1 := Lib.hid hown2
        have H2 := Lib.hid hbl
        clear hown hown2 hbl hgrow
        go_wp2_with fail
        go_roundw
        case rel => exact ⟨k, R, _, rfl, HSD.out, HSDB.out, HNX.out, H1.out, H2.out⟩
        case measure => exact HSS.out

end Go.Proofs.YtloiciinmdmdkaaGreatDoor
