/-
  What frame's value, number and fingerprint return. Conditions: at most four bytes (value, number); a text of at most 1000 bytes (fingerprint).
-/
import Derived.Test.YtloiciinmdmdkaaGreatDoorFrameM
import Derived.Test.YtloiciinmdmdkaaGreatDoorBs
import Derived.Test.YtloiciinmdmdkaaGreatDoorByteS
namespace Go.Proofs.YtloiciinmdmdkaaGreatDoor
open Go.RowKit
open Go.Proofs

theorem or_byte (a c : Nat) (ha : a < 4294967296) (hc : c < 256) : bits .or .i64 ((a * 256 : Nat) : Int) (c : Int) = ((a * 256 + c : Nat) : Int) := by
  have e := Nat.shiftLeft_add_eq_or_of_lt (show c < 2 ^ 8 by omega) a
  rw [Nat.shiftLeft_eq, show (2 : Nat) ^ 8 = 256 from rfl] at e
  show IntKind.i64.wrap ((BitVec.ofInt 64 ((a * 256 : Nat) : Int) ||| BitVec.ofInt 64 (c : Int)).toNat : Int) = _
  rw [BitVec.toNat_or, ofInt64 _ (by omega), ofInt64 _ (by omega), ← e]
  exact wrap_i64_nat _ (by omega)

def ValueRel (l : List UInt8) (t3 t7 : Value) : Prop :=
  ∃ k : Nat, k ≤ l.length ∧ t7 = .int .i64 (k : Int) ∧ t3 = .int .i64 ((nv (l.take k) : Nat) : Int)

theorem nv_small (l : List UInt8) (k : Nat) (h : l.length ≤ 4) : nv (l.take k) < 4294967296 := by
  have := nv_lt (l.take k)
  have h2 : (l.take k).length ≤ 4 := by rw [List.length_take]; omega
  exact Nat.lt_of_lt_of_le this (Nat.pow_le_pow_right (by omega) h2)

theorem nv_take (l : List UInt8) (k : Nat) (h : k < l.length) : nv (l.take (k + 1)) = nv (l.take k) * 256 + l[k].toNat := by
  rw [List.take_succ_eq_append_getElem h, nv_snoc]

set_option maxRecDepth 100000 in
set_option maxHeartbeats 400000 in
theorem valueF_any (l : List UInt8) (w : World) (hl : l.length ≤ 4) :
    Calls Tryz.prog 26 #[.string (bs l)] w fun e w' => e = .returned (.int .i64 ((nv l : Nat) : Int)) ∧ w = w' := by
  have hsz := bs_size l
  have HF := Lib.hid (show nv (l.take l.length) = nv l by rw [List.take_of_length_le (Nat.le_refl _)])
  obtain ⟨n, hn⟩ : ∃ n, l.length = n := ⟨_, rfl⟩
  have HN := Lib.hid hn
  rw [hn] at hsz
  have hn4 : n ≤ 4 := by omega
  clear hn hl
  go_enter Tryz.func26, Tryz.ntmps26
  go_wp2_with fail
  go_loop [3, 7] (fun t3 t7 => ValueRel l t3 t7) (fun _ t7 => n - (intOf t7).toNat)
  case atStart => exact ⟨0, by omega, rfl, rfl⟩
  case round =>
    obtain ⟨k, hk, rfl, rfl⟩ := hrel
    rw [HN.out] at hk
    by_cases hlt : k < n
    · have hk' : k < l.length := by rw [HN.out]; exact hlt
      have hi := index_bs l k hk'
      have hs := nv_small l k (by rw [HN.out]; exact hn4)
      have ho := or_byte (nv (l.take k)) l[k].toNat hs l[k].toNat_lt
      rw [← nv_take l k hk'] at ho
      have hc : l[k].toNat < 256 := l[k].toNat_lt
      obtain ⟨c, hcc⟩ : ∃ c, l[k].toNat = c := ⟨_, rfl⟩
      obtain ⟨A, hA⟩ : ∃ A, nv (l.take k) = A := ⟨_, rfl⟩
      obtain ⟨B, hB⟩ : ∃ B, nv (l.take (k + 1)) = B := ⟨_, rfl⟩
      rw [hcc] at hi ho hc
      rw [hA] at hs ho ⊢
      rw [hB] at ho
      have HB := Lib.hid hB
      have HO := Lib.hid ho
      clear hcc hA hB ho
      go_wp2_with fail
      refine ⟨⟨k + 1, by rw [HN.out]; omega, by go_num, ?_⟩, by simp only [intOf]; omega⟩
      rw [HB.out, ← HO.out]
      congr 2
    · obtain rfl : k = n := by omega
      have hfin := HF.out
      rw [HN.out] at hfin
      rw [hfin]
      clear hfin
      go_wp2_with fail
      go_ret
      exact ⟨rfl, rfl⟩

theorem nb_cons (n : Nat) (j : Nat) : nb n (j + 1) = UInt8.ofNat (n / 256 ^ j) :: nb n j := by
  induction j generalizing n with
  | zero => simp [nb]
  | succ j ih =>
    rw [nb, ih, Nat.div_div_eq_div_mul, show 256 * 256 ^ j = 256 ^ (j + 1) by rw [Nat.pow_succ, Nat.mul_comm]]
    rfl

theorem set_rep (m : Nat) (z c : UInt8) (l : List UInt8) : (List.replicate (m + 1) z ++ l).set m c = List.replicate m z ++ (c :: l) := by
  rw [show m + 1 = m + 1 from rfl, List.replicate_succ', List.append_assoc, List.set_append_right _ _ (by simp)]
  simp

theorem byteL_set (l : List UInt8) (i : Nat) (c : UInt8) : byteL (l.set i c) = (byteL l).set i (.int .u8 (c.toNat : Int)) := by
  unfold byteL
  rw [List.map_set]

theorem Bytes.put {w : World} {base g c : Nat} {l : List UInt8} (h : Bytes w base (.slice (some ⟨g, 0, none⟩) l.length c) l) (j : Nat) (x : UInt8) :
    Bytes (w.setCell ⟨g, j, none⟩ (.int .u8 (x.toNat : Int))) base (.slice (some ⟨g, 0, none⟩) l.length c) (l.set j x) := by
  have := (World.ownsRow.stored h j (.int .u8 (x.toNat : Int))).1
  unfold Bytes
  rw [byteL_set, List.length_set]
  exact this

theorem u8_mod (n : Nat) : (n : Int) % 256 = ((UInt8.ofNat n).toNat : Int) := by
  rw [UInt8.toNat_ofNat']
  omega

def NumRel (n k : Nat) (w : World) (t0 t6 : Value) (wr : World) : Prop :=
  ∃ j m : Nat, j + m = k ∧ t6 = .int .i64 ((m : Int) - 1) ∧ t0 = .int .i64 ((n / 256 ^ j : Nat) : Int) ∧ Bytes wr w.heap.size (.slice (some ⟨w.heap.size, 0, none⟩) k k) (List.replicate m 0 ++ nb n j) ∧ Up w wr

set_option maxRecDepth 100000 in
set_option maxHeartbeats 400000 in
theorem number_any (n k : Nat) (w : World) (_hn : n < 4294967296) (hk : k ≤ 4) :
    Calls Tryz.prog 24 #[.int .i64 (n : Int), .int .i64 (k : Int)] w fun e w' => e = .returned (.string (bs (nb n k))) ∧ Up w w' := by
  obtain ⟨i0, hi, hz0, hz1, hz2⟩ := info_parts byteInfo
  have HI := Lib.hid hi
  have HZ0 := Lib.hid hz0
  have HZ1 := Lib.hid hz1
  have HZ2 := Lib.hid hz2
  clear hi hz0 hz1 hz2
  go_enter Tryz.func24, Tryz.ntmps24
  go_wp2_with (at_make; refine wpList_make_full _ rfl _ _ 34 rfl w.heap.size 5 i0 (.int .u8 0) 1 Tryz.underlying34 HI.out HZ0.out HZ1.out .i64 .i64 _ _ k rfl rfl rfl rfl (by rw [HZ2.out]; omega) (by unfold maxLen; omega) (Nat.le_refl _) ?_)
  intro w1 hown hgrow
  have hb0 : Bytes w1 w.heap.size (.slice (some ⟨w.heap.size, 0, none⟩) k k) (List.replicate k 0 ++ nb n 0) := by
    unfold Bytes
    rw [show List.replicate k 0 ++ nb n 0 = List.replicate k (0 : UInt8) from List.append_nil _, List.length_replicate]
    have e : byteL (List.replicate k (0 : UInt8)) = (madeCells #[Value.int .u8 0] k).toList := by
      exact (by unfold byteL; rw [List.map_replicate]; rfl : byteL (List.replicate k (0 : UInt8)) = List.replicate k (.int .u8 0)).trans (toList_madeCells_one (.int .u8 0) k).symm
    rw [e]
    exact hown
  have hu0 : Up w w1 := Below.grown (Up.refl w) hgrow (Nat.le_refl _) (fun k hk => by cases hk)
  have HB0 := Lib.hid hb0
  have HU0 := Lib.hid hu0
  clear hown hgrow hb0 hu0
  go_wp2_with fail
  go_loopw [0, 6] (fun t0 t6 wr => NumRel n k w t0 t6 wr) (fun _ t6 _ => (intOf t6 + 1).toNat)
  case atStart => exact ⟨0, k, by omega, by go_num, by simp, HB0.out, HU0.out⟩
  case round =>
    obtain ⟨j, m, hjm, rfl, rfl, hb, hu⟩ := hrel
    have HU := Lib.hid hu
    clear hu
    cases m with
    | zero =>
      obtain rfl : j = k := by omega
      have hconv := hb.conv
      rw [show List.replicate 0 (0 : UInt8) ++ nb n j = nb n j from List.nil_append _] at hconv
      rw [show (⟨(nb n j).toArray⟩ : ByteArray) = bs (nb n j) from rfl] at hconv
      have d1 : decide ((0 : Int) ≤ ((0 : Nat) : Int) - 1) = false := by decide
      clear hb
      go_wp2_with fail
      go_ret
      exact ⟨rfl, HU.out⟩
    | succ m =>
      have hlen : (List.replicate (m + 1) (0 : UInt8) ++ nb n j).length = k := by rw [List.length_append, List.length_replicate, nb_length]; omega
      have hq : n / 256 ^ j ≤ n := Nat.div_le_self _ _
      have hnx : n / 256 ^ (j + 1) = n / 256 ^ j / 256 := by rw [Nat.div_div_eq_div_mul, Nat.pow_succ]
      have hb' : Bytes wr w.heap.size (.slice (some ⟨w.heap.size, 0, none⟩) (List.replicate (m + 1) (0 : UInt8) ++ nb n j).length k) (List.replicate (m + 1) (0 : UInt8) ++ nb n j) := by rw [hlen]; exact hb
      have hput := hb'.put m (UInt8.ofNat (n / 256 ^ j))
      rw [set_rep, ← nb_cons, hlen, ← u8_mod] at hput
      obtain ⟨x0, hc⟩ : ∃ x0, wr.cell? ⟨w.heap.size, m, none⟩ = some x0 := ⟨_, (World.ownsRow.cellAt hb' m (by omega)).trans (byteL_get _ m (by omega))⟩
      have hfz := World.ownsRow.frozenAt hb' m
      have hup : Up w (wr.setCell ⟨w.heap.size, m, none⟩ (.int .u8 (((n / 256 ^ j : Nat) : Int) % 256))) := Below.setCell HU.out (Nat.le_refl _) _
      obtain ⟨A, hA⟩ : ∃ A, n / 256 ^ j = A := ⟨_, rfl⟩
      obtain ⟨D, hD⟩ : ∃ D, n / 256 ^ (j + 1) = D := ⟨_, rfl⟩
      rw [hA] at hput hup hq hnx ⊢
      rw [hD] at hnx
      have HD := Lib.hid hD
      have HP := Lib.hid hput
      have HUP := Lib.hid hup
      have e1 : ((m + 1 : Nat) : Int) - 1 = (m : Int) := by omega
      rw [e1]
      clear hb hb' hput hup hA hD hlen e1
      go_wp2_with fail
      exact ⟨⟨j + 1, m, by omega, rfl, by rw [HD.out]; congr 1; omega, HP.out, HUP.out⟩, by simp only [intOf]; omega⟩

theorem number1 (n : Nat) (w : World) (hn : n < 4294967296) : Calls Tryz.prog 24 #[.int .i64 (n : Int), .int .i64 1] w fun e w' => e = .returned (.string (bs (nb n 1))) ∧ Up w w' := number_any n 1 w hn (by omega)

theorem number2 (n : Nat) (w : World) (hn : n < 4294967296) : Calls Tryz.prog 24 #[.int .i64 (n : Int), .int .i64 2] w fun e w' => e = .returned (.string (bs (nb n 2))) ∧ Up w w' := number_any n 2 w hn (by omega)

theorem number4 (n : Nat) (w : World) (hn : n < 4294967296) : Calls Tryz.prog 24 #[.int .i64 (n : Int), .int .i64 4] w fun e w' => e = .returned (.string (bs (nb n 4))) ∧ Up w w' := number_any n 4 w hn (by omega)

theorem of_bs (M : Nat) (l : List UInt8) (w : World) (h0 : 2 ≤ M) (h1 : M ≤ 2147483647) (hs : l.length ≤ 600) :
    Calls Tryz.prog 50 #[.int .i64 (M : Int), .string (bs l)] w fun e w' => e = .returned (.tuple #[.int .i64 (fp M l : Nat), .int .i64 0]) ∧ Up w w' := by
  have := of_ok M (bs l) w h0 h1 (by rw [bs_size]; exact hs)
  rwa [bs_list] at this

def FpRel (l : List UInt8) (w : World) (t0 t3 : Value) (wr : World) : Prop :=
  ∃ p s : List UInt8, p ++ s = l ∧ t0 = .string (bs s) ∧ t3 = .int .i64 ((fp 1073741907 p : Nat) : Int) ∧ Up w wr

set_option maxRecDepth 100000 in
set_option maxHeartbeats 400000 in
theorem fingerprint_any (l : List UInt8) (w : World) (hl : l.length ≤ 1000) :
    Calls Tryz.prog 25 #[.string (bs l)] w fun e w' => e = .returned (.int .i64 ((fp 1073741907 l : Nat) : Int)) ∧ Up w w' := by
  have H1 := Lib.hid (fp_nil 1073741907 (by omega))
  have HLT : Hid (∀ p : List UInt8, fp 1073741907 p < 2 ^ Nat.log2 1073741907) := fun p => fp_lt 1073741907 (by omega) p
  go_enter Tryz.func25, Tryz.ntmps25
  go_wp2_with fail
  refine (of_bs 1073741907 [] _ (by omega) (by omega) (by simp)).mono ?_
  rintro e w1 ⟨rfl, u1⟩
  rw [H1.out]
  go_wp2_with fail
  go_loopw [0, 3] (fun t0 t3 wr => FpRel l w t0 t3 wr) (fun t0 _ _ => match t0 with | .string s => s.size | _ => 0)
  case atStart => exact ⟨[], l, rfl, rfl, by rw [H1.out]; rfl, u1⟩
  case round =>
    obtain ⟨p, s, hps, rfl, rfl, hu⟩ := hrel
    have HU := Lib.hid hu
    clear hu
    have hlen : p.length + s.length = l.length := by rw [← hps, List.length_append]
    have hsz := bs_size s
    by_cases h0 : s.length = 0
    · have : s = [] := List.eq_nil_of_length_eq_zero h0
      subst this
      rw [List.append_nil] at hps
      subst hps
      rw [show bs [] = ⟨#[]⟩ from rfl]
      clear hsz hlen h0
      go_wp2_with fail
      go_ret
      exact ⟨rfl, HU.out⟩
    · have hne := not_empty s (by omega)
      obtain ⟨n, hn⟩ : ∃ n, min s.length 600 = n := ⟨_, rfl⟩
      have hmin : ∀ (ts : Array TypeId) (t : TypeId) (W : World), (Builtin.min_ ts t #[.int .i64 (s.length : Int), .int .i64 600]).run Tryz.prog W = .ok (.int .i64 (n : Int)) W := by
        intro ts t W
        simp [Builtin.min_, Builtin.min2]
        omega
      have hto := to_bs s (n : Int) n rfl (by omega)
      have hfr := from_bs s (n : Int) n rfl (by omega)
      have hj := fp_join 1073741907 (by omega) p (s.take n)
      have htl : (s.take n).length = n := by rw [List.length_take]; omega
      rw [htl] at hj
      have hnx : (p ++ s.take n) ++ s.drop n = l := by rw [List.append_assoc, List.take_append_drop]; exact hps
      have hdl : (bs (s.drop n)).size < (bs s).size := by rw [bs_size, bs_size, List.length_drop]; omega
      have HNX := Lib.hid hnx
      have HJ := Lib.hid hj
      have HDL := Lib.hid hdl
      have HTL := Lib.hid htl
      obtain ⟨m, hm⟩ : ∃ m, s.length = m := ⟨_, rfl⟩
      rw [hm] at hsz hmin hn hlen h0
      have hn6 : n ≤ 600 := by omega
      have HA := Lib.hid (HLT.out p)
      have HB := Lib.hid (HLT.out (s.take n))
      obtain ⟨A, hA⟩ : ∃ A, fp 1073741907 p = A := ⟨_, rfl⟩
      obtain ⟨B, hB⟩ : ∃ B, fp 1073741907 (s.take n) = B := ⟨_, rfl⟩
      rw [hA] at HA HJ ⊢
      rw [hB] at HB HJ
      have HBB := Lib.hid hB
      clear hps hm hj hnx hdl htl hA hB
      go_wp2_with fail
      refine (of_bs 1073741907 (s.take n) _ (by omega) (by omega) (by rw [HTL.out]; exact hn6)).mono ?_
      rintro e w2 ⟨rfl, u2⟩
      rw [HBB.out]
      go_wp2_with fail
      refine (join_ok 1073741907 A B n _ (by omega) (by omega) HA.out HB.out hn6).mono ?_
      rintro e w3 ⟨rfl, u3⟩
      rw [← HJ.out]
      go_wp2_with fail
      exact ⟨⟨p ++ s.take n, s.drop n, HNX.out, rfl, rfl, (HU.out.trans u2).trans u3⟩, HDL.out⟩

end Go.Proofs.YtloiciinmdmdkaaGreatDoor
