/-
  The texts Frame1, Frame2, BldM, BldW, one behind the other; each says below what it holds and on what conditions.
-/
import Derived.Test.YtkkecgamaahniaaGreatJB42
import Derived.Test.YtkkecgamaahniaaGreatJB01
import Derived.Test.YtkkecgamaahniaaGreatJB40
import Derived.Deep.RegionHeld3
import Derived.BigRegion
import Derived.Test.YtkkecgamaahniaaGreatJB16

/-
  What frame's value, number and fingerprint return. Conditions: at most four bytes (value, number); a text of at most 1000 bytes (fingerprint).
-/
namespace Go.Proofs.YtkkecgamaahniaaGreat
open Go.RowKit
open Go.Proofs

theorem or_byte (a c : Nat) (ha : a < 4294967296) (hc : c < 256) : bits .or .i64 ((a * 256 : Nat) : Int) (c : Int) = ((a * 256 + c : Nat) : Int) := by
  have e := Nat.shiftLeft_add_eq_or_of_lt (show c < 2 ^ 8 by omega) a
  rw [Nat.shiftLeft_eq, show (2 : Nat) ^ 8 = 256 from rfl] at e
  show IntKind.i64.wrap ((BitVec.ofInt 64 ((a * 256 : Nat) : Int) ||| BitVec.ofInt 64 (c : Int)).toNat : Int) = _
  rw [BitVec.toNat_or, ofInt64 _ (by omega), ofInt64 _ (by omega), ← e]
  exact wrap_i64_nat _ (by omega)

def ValueRel (l : List UInt8) (t3 t7 : Value) : Prop :=
  ∃ k : Nat, k ≤ l.length ∧ t7 = .int .i64 (k : Int) ∧ t3 = .int .i64 ((nv (l.take k) : Nat) : Int)

theorem nv_small (l : List UInt8) (k : Nat) (h : l.length ≤ 4) : nv (l.take k) < 4294967296 := by
  have := nv_lt (l.take k)
  have h2 : (l.take k).length ≤ 4 := by rw [List.length_take]; omega
  exact Nat.lt_of_lt_of_le this (Nat.pow_le_pow_right (by omega) h2)

theorem nv_take (l : List UInt8) (k : Nat) (h : k < l.length) : nv (l.take (k + 1)) = nv (l.take k) * 256 + l[k].toNat := by
  rw [List.take_succ_eq_append_getElem h, nv_snoc]

set_option maxRecDepth 100000 in
set_option maxHeartbeats 400000 in
theorem valueF_any (l : List UInt8) (w : World) (hl : l.length ≤ 4) :
    Calls Tryz.prog 42 #[.string (bs l)] w fun e w' => e = .returned (.int .i64 ((nv l : Nat) : Int)) ∧ w = w' := by
  have hsz := bs_size l
  have HF := Lib.hid (show nv (l.take l.length) = nv l by rw [List.take_of_length_le (Nat.le_refl _)])
  obtain ⟨n, hn⟩ : ∃ n, l.length = n := ⟨_, rfl⟩
  have HN := Lib.hid hn
  rw [hn] at hsz
  have hn4 : n ≤ 4 := by omega
  clear hn hl
  go_enter Tryz.func42, Tryz.ntmps42
  go_wp2_with fail
  go_loop [3, 7] (fun t3 t7 => ValueRel l t3 t7) (fun _ t7 => n - (intOf t7).toNat)
  case atStart => exact ⟨0, by omega, rfl, rfl⟩
  case round =>
    obtain ⟨k, hk, rfl, rfl⟩ := hrel
    rw [HN.out] at hk
    by_cases hlt : k < n
    · have hk' : k < l.length := by rw [HN.out]; exact hlt
      have hi := index_bs l k hk'
      have hs := nv_small l k (by rw [HN.out]; exact hn4)
      have ho := or_byte (nv (l.take k)) l[k].toNat hs l[k].toNat_lt
      rw [← nv_take l k hk'] at ho
      have hc : l[k].toNat < 256 := l[k].toNat_lt
      obtain ⟨c, hcc⟩ : ∃ c, l[k].toNat = c := ⟨_, rfl⟩
      obtain ⟨A, hA⟩ : ∃ A, nv (l.take k) = A := ⟨_, rfl⟩
      obtain ⟨B, hB⟩ : ∃ B, nv (l.take (k + 1)) = B := ⟨_, rfl⟩
      rw [hcc] at hi ho hc
      rw [hA] at hs ho ⊢
      rw [hB] at ho
      have HB := Lib.hid hB
      have HO := Lib.hid ho
      clear hcc hA hB ho
      go_wp2_with fail
      refine ⟨⟨k + 1, by rw [HN.out]; omega, by go_num, ?_⟩, by simp only [intOf]; omega⟩
      rw [HB.out, ← HO.out]
      congr 2
    · obtain rfl : k = n := by omega
      have hfin := HF.out
      rw [HN.out] at hfin
      rw [hfin]
      clear hfin
      go_wp2_with fail
      go_ret
      exact ⟨rfl, rfl⟩

theorem nb_cons (n : Nat) (j : Nat) : nb n (j + 1) = UInt8.ofNat (n / 256 ^ j) :: nb n j := by
  induction j generalizing n with
  | zero => simp [nb]
  | succ j ih =>
    rw [nb, ih, Nat.div_div_eq_div_mul, show 256 * 256 ^ j = 256 ^ (j + 1) by rw [Nat.pow_succ, Nat.mul_comm]]
    rfl

theorem set_rep (m : Nat) (z c : UInt8) (l : List UInt8) : (List.replicate (m + 1) z ++ l).set m c = List.replicate m z ++ (c :: l) := by
  rw [show m + 1 = m + 1 from rfl, List.replicate_succ', List.append_assoc, List.set_append_right _ _ (by simp)]
  simp

theorem byteL_set (l : List UInt8) (i : Nat) (c : UInt8) : byteL (l.set i c) = (byteL l).set i (.int .u8 (c.toNat : Int)) := by
  unfold byteL
  rw [List.map_set]

theorem Bytes.put {w : World} {base g c : Nat} {l : List UInt8} (h : Bytes w base (.slice (some ⟨g, 0, none⟩) l.length c) l) (j : Nat) (x : UInt8) :
    Bytes (w.setCell ⟨g, j, none⟩ (.int .u8 (x.toNat : Int))) base (.slice (some ⟨g, 0, none⟩) l.length c) (l.set j x) := by
  have := (World.ownsRow.stored h j (.int .u8 (x.toNat : Int))).1
  unfold Bytes
  rw [byteL_set, List.length_set]
  exact this

theorem u8_mod (n : Nat) : (n : Int) % 256 = ((UInt8.ofNat n).toNat : Int) := by
  rw [UInt8.toNat_ofNat']
  omega

def NumRel (n k : Nat) (w : World) (t0 t6 : Value) (wr : World) : Prop :=
  ∃ j m : Nat, j + m = k ∧ t6 = .int .i64 ((m : Int) - 1) ∧ t0 = .int .i64 ((n / 256 ^ j : Nat) : Int) ∧ Bytes wr w.heap.size (.slice (some ⟨w.heap.size, 0, none⟩) k k) (List.replicate m 0 ++ nb n j) ∧ Up w wr

set_option maxRecDepth 100000 in
set_option maxHeartbeats 400000 in
theorem number_any (n k : Nat) (w : World) (_hn : n < 4294967296) (hk : k ≤ 4) :
    Calls Tryz.prog 39 #[.int .i64 (n : Int), .int .i64 (k : Int)] w fun e w' => e = .returned (.string (bs (nb n k))) ∧ Up w w' := by
  obtain ⟨i0, hi, hz0, hz1, hz2⟩ := info_parts byteInfo
  have HI := Lib.hid hi
  have HZ0 := Lib.hid hz0
  have HZ1 := Lib.hid hz1
  have HZ2 := Lib.hid hz2
  clear hi hz0 hz1 hz2
  go_enter Tryz.func39, Tryz.ntmps39
  go_wp2_with (at_make; refine wpList_make_full _ rfl _ _ 50 rfl w.heap.size 5 i0 (.int .u8 0) 1 Tryz.underlying50 HI.out HZ0.out HZ1.out .i64 .i64 _ _ k rfl rfl rfl rfl (by rw [HZ2.out]; omega) (by unfold maxLen; omega) (Nat.le_refl _) ?_)
  intro w1 hown hgrow
  have hb0 : Bytes w1 w.heap.size (.slice (some ⟨w.heap.size, 0, none⟩) k k) (List.replicate k 0 ++ nb n 0) := by
    unfold Bytes
    rw [show List.replicate k 0 ++ nb n 0 = List.replicate k (0 : UInt8) from List.append_nil _, List.length_replicate]
    have e : byteL (List.replicate k (0 : UInt8)) = (madeCells #[Value.int .u8 0] k).toList := by
      exact (by unfold byteL; rw [List.map_replicate]; rfl : byteL (List.replicate k (0 : UInt8)) = List.replicate k (.int .u8 0)).trans (toList_madeCells_one (.int .u8 0) k).symm
    rw [e]
    exact hown
  have hu0 : Up w w1 := Below.grown (Up.refl w) hgrow (Nat.le_refl _) (fun k hk => by cases hk)
  have HB0 := Lib.hid hb0
  have HU0 := Lib.hid hu0
  clear hown hgrow hb0 hu0
  go_wp2_with fail
  go_loopw [0, 6] (fun t0 t6 wr => NumRel n k w t0 t6 wr) (fun _ t6 _ => (intOf t6 + 1).toNat)
  case atStart => exact ⟨0, k, by omega, by go_num, by simp, HB0.out, HU0.out⟩
  case round =>
    obtain ⟨j, m, hjm, rfl, rfl, hb, hu⟩ := hrel
    have HU := Lib.hid hu
    clear hu
    cases m with
    | zero =>
      obtain rfl : j = k := by omega
      have hconv := hb.conv
      rw [show List.replicate 0 (0 : UInt8) ++ nb n j = nb n j from List.nil_append _] at hconv
      rw [show (⟨(nb n j).toArray⟩ : ByteArray) = bs (nb n j) from rfl] at hconv
      have d1 : decide ((0 : Int) ≤ ((0 : Nat) : Int) - 1) = false := by decide
      clear hb
      go_wp2_with fail
      go_ret
      exact ⟨rfl, HU.out⟩
    | succ m =>
      have hlen : (List.replicate (m + 1) (0 : UInt8) ++ nb n j).length = k := by rw [List.length_append, List.length_replicate, nb_length]; omega
      have hq : n / 256 ^ j ≤ n := Nat.div_le_self _ _
      have hnx : n / 256 ^ (j + 1) = n / 256 ^ j / 256 := by rw [Nat.div_div_eq_div_mul, Nat.pow_succ]
      have hb' : Bytes wr w.heap.size (.slice (some ⟨w.heap.size, 0, none⟩) (List.replicate (m + 1) (0 : UInt8) ++ nb n j).length k) (List.replicate (m + 1) (0 : UInt8) ++ nb n j) := by rw [hlen]; exact hb
      have hput := hb'.put m (UInt8.ofNat (n / 256 ^ j))
      rw [set_rep, ← nb_cons, hlen, ← u8_mod] at hput
      obtain ⟨x0, hc⟩ : ∃ x0, wr.cell? ⟨w.heap.size, m, none⟩ = some x0 := ⟨_, (World.ownsRow.cellAt hb' m (by omega)).trans (byteL_get _ m (by omega))⟩
      have hfz := World.ownsRow.frozenAt hb' m
      have hup : Up w (wr.setCell ⟨w.heap.size, m, none⟩ (.int .u8 (((n / 256 ^ j : Nat) : Int) % 256))) := Below.setCell HU.out (Nat.le_refl _) _
      obtain ⟨A, hA⟩ : ∃ A, n / 256 ^ j = A := ⟨_, rfl⟩
      obtain ⟨D, hD⟩ : ∃ D, n / 256 ^ (j + 1) = D := ⟨_, rfl⟩
      rw [hA] at hput hup hq hnx ⊢
      rw [hD] at hnx
      have HD := Lib.hid hD
      have HP := Lib.hid hput
      have HUP := Lib.hid hup
      have e1 : ((m + 1 : Nat) : Int) - 1 = (m : Int) := by omega
      rw [e1]
      clear hb hb' hput hup hA hD hlen e1
      go_wp2_with fail
      exact ⟨⟨j + 1, m, by omega, rfl, by rw [HD.out]; congr 1; omega, HP.out, HUP.out⟩, by simp only [intOf]; omega⟩

theorem number1 (n : Nat) (w : World) (hn : n < 4294967296) : Calls Tryz.prog 39 #[.int .i64 (n : Int), .int .i64 1] w fun e w' => e = .returned (.string (bs (nb n 1))) ∧ Up w w' := number_any n 1 w hn (by omega)

theorem number2 (n : Nat) (w : World) (hn : n < 4294967296) : Calls Tryz.prog 39 #[.int .i64 (n : Int), .int .i64 2] w fun e w' => e = .returned (.string (bs (nb n 2))) ∧ Up w w' := number_any n 2 w hn (by omega)

theorem number4 (n : Nat) (w : World) (hn : n < 4294967296) : Calls Tryz.prog 39 #[.int .i64 (n : Int), .int .i64 4] w fun e w' => e = .returned (.string (bs (nb n 4))) ∧ Up w w' := number_any n 4 w hn (by omega)

theorem of_bs (M : Nat) (l : List UInt8) (w : World) (h0 : 2 ≤ M) (h1 : M ≤ 2147483647) (hs : l.length ≤ 600) :
    Calls Tryz.prog 62 #[.int .i64 (M : Int), .string (bs l)] w fun e w' => e = .returned (.tuple #[.int .i64 (fp M l : Nat), .int .i64 0]) ∧ Up w w' := by
  have := of_ok M (bs l) w h0 h1 (by rw [bs_size]; exact hs)
  rwa [bs_list] at this

def FpRel (l : List UInt8) (w : World) (t0 t3 : Value) (wr : World) : Prop :=
  ∃ p s : List UInt8, p ++ s = l ∧ t0 = .string (bs s) ∧ t3 = .int .i64 ((fp 1073741907 p : Nat) : Int) ∧ Up w wr

set_option maxRecDepth 100000 in
set_option maxHeartbeats 400000 in
theorem frmPrint_any (l : List UInt8) (w : World) (hl : l.length ≤ 1000) :
    Calls Tryz.prog 40 #[.string (bs l)] w fun e w' => e = .returned (.int .i64 ((fp 1073741907 l : Nat) : Int)) ∧ Up w w' := by
  have H1 := Lib.hid (fp_nil 1073741907 (by omega))
  have HLT : Hid (∀ p : List UInt8, fp 1073741907 p < 2 ^ Nat.log2 1073741907) := fun p => fp_lt 1073741907 (by omega) p
  go_enter Tryz.func40, Tryz.ntmps40
  go_wp2_with fail
  refine (of_bs 1073741907 [] _ (by omega) (by omega) (by simp)).mono ?_
  rintro e w1 ⟨rfl, u1⟩
  rw [H1.out]
  go_wp2_with fail
  go_loopw [0, 3] (fun t0 t3 wr => FpRel l w t0 t3 wr) (fun t0 _ _ => match t0 with | .string s => s.size | _ => 0)
  case atStart => exact ⟨[], l, rfl, rfl, by rw [H1.out]; rfl, u1⟩
  case round =>
    obtain ⟨p, s, hps, rfl, rfl, hu⟩ := hrel
    have HU := Lib.hid hu
    clear hu
    have hlen : p.length + s.length = l.length := by rw [← hps, List.length_append]
    have hsz := bs_size s
    by_cases h0 : s.length = 0
    · have : s = [] := List.eq_nil_of_length_eq_zero h0
      subst this
      rw [List.append_nil] at hps
      subst hps
      rw [show bs [] = ⟨#[]⟩ from rfl]
      clear hsz hlen h0
      go_wp2_with fail
      go_ret
      exact ⟨rfl, HU.out⟩
    · have hne := not_empty s (by omega)
      obtain ⟨n, hn⟩ : ∃ n, min s.length 600 = n := ⟨_, rfl⟩
      have hmin : ∀ (ts : Array TypeId) (t : TypeId) (W : World), (Builtin.min_ ts t #[.int .i64 (s.length : Int), .int .i64 600]).run Tryz.prog W = .ok (.int .i64 (n : Int)) W := by
        intro ts t W
        simp [Builtin.min_, Builtin.min2]
        omega
      have hto := to_bs s (n : Int) n rfl (by omega)
      have hfr := from_bs s (n : Int) n rfl (by omega)
      have hj := fp_join 1073741907 (by omega) p (s.take n)
      have htl : (s.take n).length = n := by rw [List.length_take]; omega
      rw [htl] at hj
      have hnx : (p ++ s.take n) ++ s.drop n = l := by rw [List.append_assoc, List.take_append_drop]; exact hps
      have hdl : (bs (s.drop n)).size < (bs s).size := by rw [bs_size, bs_size, List.length_drop]; omega
      have HNX := Lib.hid hnx
      have HJ := Lib.hid hj
      have HDL := Lib.hid hdl
      have HTL := Lib.hid htl
      obtain ⟨m, hm⟩ : ∃ m, s.length = m := ⟨_, rfl⟩
      rw [hm] at hsz hmin hn hlen h0
      have hn6 : n ≤ 600 := by omega
      have HA := Lib.hid (HLT.out p)
      have HB := Lib.hid (HLT.out (s.take n))
      obtain ⟨A, hA⟩ : ∃ A, fp 1073741907 p = A := ⟨_, rfl⟩
      obtain ⟨B, hB⟩ : ∃ B, fp 1073741907 (s.take n) = B := ⟨_, rfl⟩
      rw [hA] at HA HJ ⊢
      rw [hB] at HB HJ
      have HBB := Lib.hid hB
      clear hps hm hj hnx hdl htl hA hB
      go_wp2_with fail
      refine (of_bs 1073741907 (s.take n) _ (by omega) (by omega) (by rw [HTL.out]; exact hn6)).mono ?_
      rintro e w2 ⟨rfl, u2⟩
      rw [HBB.out]
      go_wp2_with fail
      refine (join_ok 1073741907 A B n _ (by omega) (by omega) HA.out HB.out hn6).mono ?_
      rintro e w3 ⟨rfl, u3⟩
      rw [← HJ.out]
      go_wp2_with fail
      exact ⟨⟨p ++ s.take n, s.drop n, HNX.out, rfl, rfl, (HU.out.trans u2).trans u3⟩, HDL.out⟩

end Go.Proofs.YtkkecgamaahniaaGreat

/-
  What frame's Put returns, at every frame. No condition (the body: at most 2^47 - 4096 bytes).
-/
namespace Go.Proofs.YtkkecgamaahniaaGreat
open Go.RowKit
open Go.Proofs

/-- what Put answers, as the two results -/
def putR (k : Int) (b : List UInt8) : Value := .tuple #[.string (bs (putV k b).1), .int .i64 (((putV k b).2 : Nat) : Int)]

set_option maxRecDepth 100000 in
set_option maxHeartbeats 1000000 in
theorem frmPut_any (k : Int) (b : List UInt8) (w : World) (hk : (Lit.int .i64 k).wf = true) (hbl : b.length ≤ 140737488351232) :
    Calls Tryz.prog 18 #[.agg #[.int .i64 k, .string (bs b)]] w fun e w' => e = .returned (putR k b) ∧ Up w w' := by
  have hsz := bs_size b
  by_cases h1 : k < 1
  · have HV : Hid (putR k b = .tuple #[.string ⟨#[]⟩, .int .i64 1]) := by
      show _ = _
      unfold putR putV
      rw [if_pos (Or.inl h1)]
      rfl
    clear hk hbl hsz
    go_enter Tryz.func18, Tryz.ntmps18
    go_wp2_with fail
    go_ret2
    exact ⟨by rw [HV.out]; rfl, Up.alloc _ _⟩
  by_cases h2 : 255 < k
  · have HV : Hid (putR k b = .tuple #[.string ⟨#[]⟩, .int .i64 1]) := by
      show _ = _
      unfold putR putV
      rw [if_pos (Or.inr h2)]
      rfl
    clear hk hbl hsz
    go_enter Tryz.func18, Tryz.ntmps18
    go_wp2_with fail
    go_ret2
    exact ⟨by rw [HV.out]; rfl, Up.alloc _ _⟩
  obtain ⟨K, rfl⟩ : ∃ K : Nat, k = (K : Int) := ⟨k.toNat, by omega⟩
  by_cases h3 : 700 < b.length
  · have HV : Hid (putR (K : Int) b = .tuple #[.string ⟨#[]⟩, .int .i64 2]) := by
      show _ = _
      unfold putR putV
      rw [if_neg (by omega), if_pos h3]
      rfl
    obtain ⟨n, hn⟩ : ∃ n, b.length = n := ⟨_, rfl⟩
    rw [hn] at hsz h3 hbl
    clear hk hn
    go_enter Tryz.func18, Tryz.ntmps18
    go_wp2_with fail
    go_ret2
    exact ⟨by rw [HV.out]; rfl, Up.alloc _ _⟩
  have HV : Hid (putR (K : Int) b = .tuple #[.string (bs (frm K b)), .int .i64 0]) := by
    show _ = _
    unfold putR putV
    rw [if_neg (by omega), if_neg h3]
    rfl
  have hadd1 := add_bs (nb K 1) (nb b.length 2) (by rw [nb_length, nb_length]; omega)
  have hadd2 := add_bs (nb K 1 ++ nb b.length 2) b (by rw [List.length_append, nb_length, nb_length]; omega)
  rw [show nb K 1 ++ nb b.length 2 ++ b = hb K b by unfold hb; rw [List.append_assoc]] at hadd2
  have hhl := hb_length K b
  have hf := fp30 (hb K b)
  have hadd3 := add_bs (hb K b) (nb (fp 1073741907 (hb K b)) 4) (by rw [hhl, nb_length]; omega)
  rw [show hb K b ++ nb (fp 1073741907 (hb K b)) 4 = frm K b from rfl] at hadd3
  have HHL : Hid ((hb K b).length ≤ 1000) := by show (hb K b).length ≤ 1000; omega
  obtain ⟨A1, hA1⟩ : ∃ A, nb K 1 = A := ⟨_, rfl⟩
  obtain ⟨n, hn⟩ : ∃ n, b.length = n := ⟨_, rfl⟩
  rw [hn] at hsz hbl h3 hadd1 hadd2
  obtain ⟨A2, hA2⟩ : ∃ A, nb n 2 = A := ⟨_, rfl⟩
  obtain ⟨H, hH⟩ : ∃ H, hb K b = H := ⟨_, rfl⟩
  rw [hH] at hadd2 hadd3 HHL hf
  obtain ⟨F, hF⟩ : ∃ F, fp 1073741907 H = F := ⟨_, rfl⟩
  rw [hF] at hadd3 hf
  obtain ⟨A4, hA4⟩ : ∃ A, nb F 4 = A := ⟨_, rfl⟩
  rw [hA4] at hadd3
  rw [hA1, hA2] at hadd1 hadd2
  obtain ⟨A3, hA3⟩ : ∃ A, A1 ++ A2 = A := ⟨_, rfl⟩
  rw [hA3] at hadd1 hadd2
  have HA1 := Lib.hid hA1
  have HA2 := Lib.hid hA2
  have HA4 := Lib.hid hA4
  have HF := Lib.hid hF
  clear hA1 hA2 hA3 hA4 hF hhl hk hn hH
  go_enter Tryz.func18, Tryz.ntmps18
  go_wp2_with fail
  have q0 := World.cell?_alloc_new w #[.int .i64 (K : Int), .string (bs b)] 56 0
  have q1 := World.cell?_alloc_new w #[.int .i64 (K : Int), .string (bs b)] 56 1
  have q2 : w.heap.size < (w.alloc (.cells #[.int .i64 (K : Int), .string (bs b)] 56)).heap.size := by simp
  go_region_held3 (fun W => W.cell? ⟨w.heap.size, 0, none⟩ = some (.int .i64 (K : Int)) ∧ W.cell? ⟨w.heap.size, 1, none⟩ = some (.string (bs b))) (go_keep) (first
    | (go_at_call 39; ((with_reducible refine (number1 K _ (by omega)).mono ?_); rintro e w4 ⟨rfl, u4⟩; rw [HA1.out]; have f0 := (Below.cell u4 (p := ⟨w.heap.size, 0, none⟩) (by first | exact g2 | exact q2)).trans (by first | exact g0 | exact q0); have f1 := (Below.cell u4 (p := ⟨w.heap.size, 1, none⟩) (by first | exact g2 | exact q2)).trans (by first | exact g1 | exact q1); have f2 := Nat.lt_of_lt_of_le (by first | exact g2 | exact q2) u4.size))
    | (go_at_call 39; ((with_reducible refine (number2 n _ (by omega)).mono ?_); rintro e w5 ⟨rfl, u5⟩; rw [HA2.out]; have g0 := (Below.cell u5 (p := ⟨w.heap.size, 0, none⟩) (by first | exact f2 | exact q2)).trans (by first | exact f0 | exact q0); have g1 := (Below.cell u5 (p := ⟨w.heap.size, 1, none⟩) (by first | exact f2 | exact q2)).trans (by first | exact f1 | exact q1); have g2 := Nat.lt_of_lt_of_le (by first | exact f2 | exact q2) u5.size)))
  all_goals
    go_wp2_with fail
    refine (frmPrint_any H _ HHL.out).mono ?_
    rintro e w6 ⟨rfl, u6⟩
    rw [HF.out]
    go_wp2_with fail
    refine (number4 F _ (by omega)).mono ?_
    rintro e w7 ⟨rfl, u7⟩
    rw [HA4.out]
    go_wp2_with fail
    go_ret2
    exact ⟨by rw [HV.out]; rfl, by first | exact (Up.alloc _ _).trans (((((Up.drew _).trans u4).trans u5).trans u6).trans u7) | exact (Up.alloc _ _).trans (((((Up.drew _).trans u5).trans u4).trans u6).trans u7)⟩

end Go.Proofs.YtkkecgamaahniaaGreat

/-
  A Builder that holds a list of bytes. Conditions: as each says.
-/
namespace Go.Proofs.YtkkecgamaahniaaGreat
open Go.RowKit
open Go.Proofs

/-- a Builder that holds a list of bytes -/
def Bld (w : World) (B b : Nat) (l : List UInt8) : Prop := Lib.IsBuilder 52 5 B b (Lib.byteCells l) w

theorem BuilderAt.up {T e : TypeId} {B b : Nat} {p : Value} {bs : List Value} {w w' : World} (h : Lib.BuilderAt T e B b p bs w) (hu : Up w w') : Lib.BuilderAt T e B b p bs w' := by
  have hlt := h.lt
  obtain ⟨h1, v, h2, h3, h4⟩ := h
  refine ⟨h1, v, (hu.block b hlt).trans h2, ⟨h3.1, ?_⟩, h4⟩
  rcases h3.2 with h | ⟨g, cap, cur, k1, k2, k3, k4⟩
  · exact .inl h
  · refine .inr ⟨g, cap, cur, k1, k2, ?_, k4⟩
    have hg : g < w.heap.size := by
      rcases Nat.lt_or_ge g w.heap.size with hlt | hge
      · exact hlt
      · rw [Array.getElem?_eq_none hge] at k3; cases k3
    rw [← k3]; exact hu.block g hg

theorem Bld.up {w w' : World} {B b : Nat} {l : List UInt8} (h : Bld w B b l) (hu : Up w w') : Bld w' B b l := by
  rcases h with h | h
  · exact .inl (BuilderAt.up h hu)
  · exact .inr (BuilderAt.up h hu)

theorem Bld.start (w : World) : Bld (w.alloc (.cells #[.pointer none, .slice none 0 0] 52)) w.heap.size w.heap.size [] := Lib.fresh_isBuilder _ _ w

theorem bstring (l : List UInt8) (B b : Nat) (w : World) (h : Bld w B b l) (hBw : B ≤ w.heap.size) :
    Calls Tryz.prog 20 #[.pointer (some ⟨b, 0, none⟩)] w fun e w' => e = .returned (.string (bs l)) ∧ Below B w w' :=
  Tryz.Builder_String_any B b l w h hBw

end Go.Proofs.YtkkecgamaahniaaGreat

/-
  What a Builder's WriteString makes of it. Conditions: as it says.
-/
namespace Go.Proofs.YtkkecgamaahniaaGreat
open Go.RowKit
open Go.Proofs

theorem bwInfo : (Tryz.prog.info? 5).map (fun i => (i.zero, i.size, i.bytes)) = some (some (.int .u8 0), 1, 1) := by kernel_rfl
theorem bwNe : (52 : Nat) ≠ 5 := by decide

theorem bwSize : (Tryz.prog.info? 52).map (·.size) = some 2 := by kernel_rfl
theorem bwLies : liesAt Tryz.prog Tryz.prog.depth 52 (2 / Tryz.prog.cellsOf 52) 0 52 1 = true := by kernel_rfl

set_option maxHeartbeats 1000000 in
set_option maxRecDepth 100000 in
theorem bcheck_used (b : Nat) (w : World) (h0 : w.cell? ⟨b, 0, none⟩ = some (.pointer (some ⟨b, 0, none⟩))) :
    Calls Tryz.prog 41 #[.pointer (some ⟨b, 0, none⟩)] w fun e w' => e = .returned (.tuple #[]) ∧ w' = w := by
  obtain ⟨j, hj, _⟩ := Option.map_eq_some_iff.1 bwSize
  go_enter Tryz.func41, Tryz.ntmps41
  go_wp2
  rw [Lib.run_neq_ptr_same w _ Tryz.underlying49 hj]
  go_wp2
  go_end0
  exact ⟨rfl, rfl⟩

set_option maxHeartbeats 1000000 in
set_option maxRecDepth 100000 in
theorem bcheck_fresh (b : Nat) (w : World) (h0 : w.cell? ⟨b, 0, none⟩ = some (.pointer none)) (hsh : w.shape? b = some (52, 2)) (hfz : w.frozen? ⟨b, 0, none⟩ = false) :
    Calls Tryz.prog 41 #[.pointer (some ⟨b, 0, none⟩)] w fun e w' => e = .returned (.tuple #[]) ∧ w' = w.setCell ⟨b, 0, none⟩ (.pointer (some ⟨b, 0, none⟩)) := by
  obtain ⟨j, hj, hjs⟩ := Option.map_eq_some_iff.1 bwSize
  go_enter Tryz.func41, Tryz.ntmps41
  go_wp2
  rw [Lib.run_to_unsafe w ⟨b, 0, none⟩ Tryz.underlying49 Tryz.underlying118 hj (by rw [hjs]; decide) hsh (Nat.zero_lt_succ 1)]
  simp only [Result.andThen]
  rw [Oper.upon_value]
  go_wp2
  rw [run_callFunc_extern Tryz.func64 (by kernel_rfl) (by kernel_rfl) (by kernel_rfl) (e := Extern.AbiNoEscape.same) (by kernel_rfl)]
  rw [Lib.run_noEscape]
  simp only [Result.andThen]
  rw [Oper.upon_value]
  go_wp2
  rw [Lib.run_from_unsafe w ⟨b, 0, none⟩ Tryz.underlying118 Tryz.underlying49 hj hsh bwLies]
  simp only [Result.andThen]
  rw [Oper.upon_value]
  go_wp2
  go_end0
  exact ⟨rfl, rfl⟩

theorem bcheck_any (B b : Nat) (xs : List Value) (w : World) (h : Lib.IsBuilder 52 5 B b xs w) :
    Calls Tryz.prog 41 #[.pointer (some ⟨b, 0, none⟩)] w fun e w' => e = .returned (.tuple #[]) ∧ (Lib.BuilderAt 52 5 B b (.pointer (some ⟨b, 0, none⟩)) xs w' ∧ Below B w w') := by
  rcases h with h | h
  · refine (bcheck_fresh b w h.cell0 h.shape h.frozen0).mono ?_
    rintro e w' ⟨rfl, rfl⟩
    exact ⟨rfl, h.used _, (Below.refl B w).setCell (p := ⟨b, 0, none⟩) h.1 _⟩
  · refine (bcheck_used b w h.cell0).mono ?_
    rintro e w' ⟨rfl, rfl⟩
    exact ⟨rfl, h, Below.refl B _⟩

set_option maxRecDepth 100000 in
set_option maxHeartbeats 2000000 in
theorem bwriteW (l m : List UInt8) (B b : Nat) (w : World) (h : Bld w B b l) (hlen : l.length + m.length ≤ 140737488355328) (hBw : B ≤ w.heap.size) :
    Calls Tryz.prog 19 #[.pointer (some ⟨b, 0, none⟩), .string (bs m)] w fun e w' => e = .returned (.tuple #[.int .i64 ((m.length : Nat) : Int), .nilIface]) ∧ Bld w' B b (l ++ m) ∧ Below B w w' := by
  have hsz := bs_size m
  have HCC := Lib.hid (bcheck_any B b (Lib.byteCells l) w h)
  obtain ⟨i0, hi, hz0, hz1, hz2⟩ := info_parts bwInfo
  have e1 : Lib.byteCells l ++ Lib.strCells (bs m) = Lib.byteCells (l ++ m) := by
    show Lib.byteCells l ++ Lib.byteCells m = _
    simp [Lib.byteCells]
  have hll : (Lib.byteCells l).length = l.length := by simp [Lib.byteCells]
  clear h
  go_enter Tryz.func19, Tryz.ntmps19
  go_wp2_with fail
  refine HCC.out.mono ?_
  rintro e w1 ⟨rfl, h1, hb1⟩
  obtain ⟨hB, v, hbk, hown, hne⟩ := h1
  have c0 : w1.cell? ⟨b, 0, none⟩ = some (.pointer (some ⟨b, 0, none⟩)) := by rw [Lib.cell_of_heap hbk]; rfl
  have c1 : w1.cell? ⟨b, 1, none⟩ = some v := by rw [Lib.cell_of_heap hbk]; rfl
  go_wp2_with (at_builtin; refine Lib.wpList_append_own_string _ rfl _ _ 50 9 rfl B 5 i0 Tryz.underlying50 Tryz.underlying9 hi hz0 hz1 hz2 _ _ _ rfl hown (bs m) rfl ?c3 ?c4 ?c5 ?_)
  case c3 => unfold maxLen; omega
  case c4 => omega
  case c5 => have := hb1.size; omega
  intro v' w2 hown' hgrow _
  have hlt : b < w1.heap.size := by
    rcases Nat.lt_or_ge b w1.heap.size with h' | h'
    · exact h'
    · simp [Array.getElem?_eq_none h'] at hbk
  have hb2 : w2.heap[b]? = some (.cells #[.pointer (some ⟨b, 0, none⟩), v] 52 (0, 0)) := by
    rw [hgrow.block b hlt (fun e => hne e.symm)]
    exact hbk
  have d0 : w2.cell? ⟨b, 0, none⟩ = some (.pointer (some ⟨b, 0, none⟩)) := by rw [Lib.cell_of_heap hb2]; rfl
  have d1 : w2.cell? ⟨b, 1, none⟩ = some v := by rw [Lib.cell_of_heap hb2]; rfl
  have f1 : w2.frozen? ⟨b, 1, none⟩ = false := Lib.frozen_of_heap hb2 1
  obtain ⟨ao, n', cap, rfl⟩ : ∃ ao n' cap, v' = .slice ao n' cap := by
    rcases hown'.2 with ⟨hv, _⟩ | ⟨g, cap, cur, hv, _⟩
    · exact ⟨_, _, _, hv⟩
    · exact ⟨_, _, _, hv⟩
  go_wp2
  go_ret2
  refine ⟨rfl, ?_, ?_⟩
  · refine .inr ?_
    have hl9 : (Lib.byteCells (l ++ m)).length = l.length + m.length := by simp [Lib.byteCells]
    exact Lib.BuilderAt.put (T := 52) (e := 5) hB hb2 (bs' := Lib.byteCells (l ++ m)) (by rw [hl9]; first | exact hown' | (rw [← e1]; exact hown') | (rw [← e1]; simpa [hll, hsz, e1] using hown')) bwNe
  · exact (hb1.grown hgrow (by have := hb1.size; omega) (fun k hk => (hown.lt k hk).1)).setCell (p := ⟨b, 1, none⟩) hB _

end Go.Proofs.YtkkecgamaahniaaGreat
