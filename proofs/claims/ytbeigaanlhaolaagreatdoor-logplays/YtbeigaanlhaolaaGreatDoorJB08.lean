/-
  The texts LogB, Items, one behind the other; each says below what it holds and on what conditions.
-/
import Derived.Test.YtbeigaanlhaolaaGreatDoorJB07
import Derived.Deep.RegionHeld3
import Derived.Deep.Cut
import Derived.Test.YtbeigaanlhaolaaGreatDoorJB01
import Derived.Test.YtbeigaanlhaolaaGreatDoorJB03
import Derived.Lib.SliceRun
import Derived.Maps.AppendAt

/-
  What package log's encodeText, cutText, Encode and Decode return. Conditions: as each says.
-/
namespace Go.Proofs.YtbeigaanlhaolaaGreatDoor
open Go.RowKit
open Go.Proofs
open WoolVol

theorem conv_two (c d : UInt8) (v : World) : (convert 43 9 (.slice (some ⟨v.heap.size, 0, none⟩) 2 2)).run Tryz.prog (v.alloc (.cells #[.int .u8 (c.toNat : Int), .int .u8 (d.toNat : Int)] 5)) = .ok (.string ⟨#[c, d]⟩) (v.alloc (.cells #[.int .u8 (c.toNat : Int), .int .u8 (d.toNat : Int)] 5)) := by
  refine run_convert_bytes_back (P := Tryz.prog) _ 43 9 5 _ 2 [c, d] Tryz.underlying43 Tryz.underlying5 Tryz.underlying9 ?_
  intro j hj
  match j, hj with
  | 0, _ => exact World.cell?_alloc_mark _ _ _ _ 0
  | 1, _ => exact World.cell?_alloc_mark _ _ _ _ 1

theorem byte_at (n : Nat) (h : n ≤ 255) : ∃ c : UInt8, c = UInt8.ofNat n ∧ ((c.toNat : Nat) : Int) = (n : Int) ∧ c.toNat = n := by
  have e : (UInt8.ofNat n).toNat = n := by rw [UInt8.toNat_ofNat']; omega
  exact ⟨_, rfl, by rw [e], e⟩

set_option maxRecDepth 100000 in
set_option maxHeartbeats 1000000 in
theorem encText_any (t : List UInt8) (w : World) (h : t.length ≤ 255) : Calls Tryz.prog 26 #[.string (bs t)] w fun e w' => e = .returned (.string (bs (lenT t))) ∧ Up w w' := by
  have hsz := bs_size t
  obtain ⟨c, hc, hci, hcn⟩ := byte_at t.length h
  have hL : lenT t = [c] ++ t := by unfold lenT; rw [hc]; rfl
  have hwr : IntKind.u8.wrap (t.length : Int) = ((c.toNat : Nat) : Int) := by rw [hci, IntWalk.u8_in _ (by omega)]
  have hconv := conv_byte c
  have hadd : ∀ v : World, (Op.stringOp .add ⟨#[c]⟩ (bs t)).run Tryz.prog v = .ok (.string (bs (lenT t))) v := by
    intro v
    rw [hL]
    exact add_bs [c] t (by simp; omega) v
  clear hL hc hci hcn
  generalize bs (lenT t) = R at hadd ⊢
  generalize t.length = n at *
  generalize bs t = S at *
  go_enter Tryz.func26, Tryz.ntmps26
  go_wp2_with fail
  go_ret
  exact ⟨rfl, Up.alloc _ _⟩

set_option maxRecDepth 100000 in
set_option maxHeartbeats 1000000 in
theorem cutText_any (s : List UInt8) (w : World) (h : s.length ≤ 281474976710656) : Calls Tryz.prog 66 #[.string (bs s)] w fun e w' => e = .returned (.tuple #[.string (bs (cutR s).1), .string (bs (cutR s).2)]) ∧ Up w w' := by
  cases s with
  | nil =>
    have e1 := empty_txt
    have e2 : (⟨#[]⟩ : ByteArray) = bs [] := rfl
    show Calls _ _ _ _ fun e w' => e = .returned (.tuple #[.string (bs []), .string (bs [])]) ∧ Up w w'
    rw [← e2] at e1 ⊢
    go_enter Tryz.func66, Tryz.ntmps66
    go_wp2_with fail
    go_ret2
    exact ⟨rfl, Up.refl _⟩
  | cons c r =>
    have hsz := bs_size (c :: r)
    have hne := not_empty (c :: r) (by simp)
    have hc := c.toNat_lt
    have hix : ∀ W : World, (Instr.index 9 (.string (bs (c :: r))) (.int .i64 0)).run Tryz.prog W = .ok (.int .u8 ((c.toNat : Nat) : Int)) W := index_bs (c :: r) 0 (by simp)
    have hwc : wrap64 ((c.toNat : Nat) : Int) = ((c.toNat : Nat) : Int) := by unfold wrap64; omega
    rw [List.length_cons] at h hsz
    obtain ⟨n, hn⟩ : ∃ n, min (1 + c.toNat) (r.length + 1) = n := ⟨_, rfl⟩
    have hw : wrap64 (1 + ((c.toNat : Nat) : Int)) = 1 + ((c.toNat : Nat) : Int) := by unfold wrap64; omega
    have hmin : ∀ (ts : Array TypeId) (t : TypeId) (W : World), (Builtin.min_ ts t #[.int .i64 (1 + ((c.toNat : Nat) : Int)), .int .i64 ((r.length : Int) + 1)]).run Tryz.prog W = .ok (.int .i64 (n : Int)) W := by
      intro ts t W
      simp [Builtin.min_, Builtin.min2]
      omega
    have hmn : min (1 + ((c.toNat : Nat) : Int)) ((r.length : Int) + 1) = (n : Int) := by omega
    have hs1 := slice_bs (c :: r) 1 (n : Int) 1 n rfl rfl (by omega) (by rw [List.length_cons]; omega)
    have hs2 := from_bs (c :: r) (n : Int) n rfl (by rw [List.length_cons]; omega)
    have e1 : ((c :: r).drop 1).take (n - 1) = (cutR (c :: r)).1 := by
      show r.take (n - 1) = r.take c.toNat
      rcases Nat.le_total c.toNat r.length with h1 | h1
      · rw [show n - 1 = c.toNat by omega]
      · rw [show n - 1 = r.length by omega, List.take_length, List.take_of_length_le h1]
    have e2 : (c :: r).drop n = (cutR (c :: r)).2 := by
      show _ = r.drop c.toNat
      obtain ⟨q, rfl⟩ : ∃ q, n = q + 1 := ⟨n - 1, by omega⟩
      rw [List.drop_succ_cons]
      rcases Nat.le_total c.toNat r.length with h1 | h1
      · rw [show q = c.toNat by omega]
      · rw [show q = r.length by omega, List.drop_length, List.drop_of_length_le h1]
    rw [e1] at hs1
    rw [e2] at hs2
    have hl5 := (cutR_le (c :: r)).2.2
    have HCL := Lib.hid (fun W => clone_str (bs (cutR (c :: r)).1) W (by rw [bs_size]; omega))
    clear hl5 hn e1 e2
    generalize bs (cutR (c :: r)).1 = R1 at *
    generalize bs (cutR (c :: r)).2 = R2 at *
    generalize bs (c :: r) = S at *
    generalize r.length = m at *
    go_enter Tryz.func66, Tryz.ntmps66
    go_wp2_with fail
    go_region_held3 (fun _ => True) (trivial) (first
      | (go_at_call 35; ((with_reducible refine (HCL.out _).mono ?_); rintro e wz ⟨rfl, uz⟩; have ux : Up w wz := (by first | exact (Up.drew _).trans uz | exact uz))))
    all_goals
      go_wp2_with fail
      go_ret2
      exact ⟨rfl, ux⟩

/-- what Encode answers -/
def encR (o : Opn) : Value := .tuple #[.string (bs (if chkO o = 0 then encO o else [])), .int .i64 (chkO o)]

set_option maxRecDepth 100000 in
set_option maxHeartbeats 2000000 in
theorem encode_any (o : Opn) (w : World) (ho : OpWf o) : Calls Tryz.prog 11 #[opA o] w fun e w' => e = .returned (encR o) ∧ Up w w' := by
  have HCK := Lib.hid (fun W => checkO_any o W ho)
  obtain ⟨RS, hRS⟩ : ∃ RS, encR o = RS := ⟨_, rfl⟩
  rw [hRS]
  have HRS := Lib.hid hRS
  clear hRS
  unfold encR at HRS
  obtain ⟨kd, nm, ot, pl, tx⟩ := o
  unfold opA at *
  simp only at *
  have HO : Hid (RowC (w.alloc (.cells #[.int .i64 kd, .string (bs nm), .string (bs ot), .int .i64 pl, .string (bs tx)] 27)) w.heap.size 27 [.int .i64 kd, .string (bs nm), .string (bs ot), .int .i64 pl, .string (bs tx)]) := heap_alloc_new w _
  have HU := Lib.hid (Up.alloc w (.cells #[.int .i64 kd, .string (bs nm), .string (bs ot), .int .i64 pl, .string (bs tx)] 27))
  go_enter Tryz.func11, Tryz.ntmps11
  go_upto_region 1 with (fail)
  generalize w.alloc (.cells #[.int .i64 kd, .string (bs nm), .string (bs ot), .int .i64 pl, .string (bs tx)] 27) = W0 at HO HU ⊢
  generalize w.heap.size = X at HO ⊢
  have q0 := HO.out.cell (j := 0) rfl
  have q1 := HO.out.cell (j := 1) rfl
  have q2 := HO.out.cell (j := 2) rfl
  have q3 := HO.out.cell (j := 3) rfl
  have q4 := HO.out.cell (j := 4) rfl
  go_wp2_with fail
  refine (HCK.out _).mono ?_
  rintro e w1 ⟨rfl, u1⟩
  have HO1 := Lib.hid (HO.out.up u1)
  have HU1 := Lib.hid (HU.out.trans u1)
  clear q0 q1 q2 q3 q4 u1
  obtain ⟨C, hC⟩ : ∃ C, chkO ⟨kd, nm, ot, pl, tx⟩ = C := ⟨_, rfl⟩
  rw [hC] at HRS ⊢
  by_cases hc : C = 0
  · subst hc
    have HRS2 : Hid (.tuple #[.string (bs (encO ⟨kd, nm, ot, pl, tx⟩)), .int .i64 0] = RS) := by
      have h9 := HRS.out
      rw [if_pos rfl] at h9
      exact h9
    obtain ⟨k1, k2, k3, _, k5, k6, k7, _⟩ := chkO_ok hC
    have kn := nameB_len k3
    have kt := chkO_to hC
    simp only at k1 k2 k5 k6 k7 kn kt
    obtain ⟨c, hc, hci, hcn⟩ := byte_at kd.toNat (by omega)
    obtain ⟨d, hd, hdi, hdn⟩ := byte_at pl.toNat (by omega)
    have hw1 : IntKind.u8.wrap kd = ((c.toNat : Nat) : Int) := by rw [hci, IntWalk.u8_in _ (by omega)]; omega
    have hw2 : IntKind.u8.wrap pl = ((d.toNat : Nat) : Int) := by rw [hdi, IntWalk.u8_in _ (by omega)]; omega
    have hconv := conv_two c d
    have he : encO ⟨kd, nm, ot, pl, tx⟩ = (([c, d] ++ lenT nm) ++ lenT ot) ++ lenT tx := by
      unfold encO
      simp only
      rw [← hc, ← hd]
      simp
    have l1 : (lenT nm).length = nm.length + 1 := rfl
    have l2 : (lenT ot).length = ot.length + 1 := rfl
    have l3 : (lenT tx).length = tx.length + 1 := rfl
    have ha1 : ∀ v : World, (Op.stringOp .add ⟨#[c, d]⟩ (bs (lenT nm))).run Tryz.prog v = .ok (.string (bs ([c, d] ++ lenT nm))) v := add_bs [c, d] (lenT nm) (by simp; omega)
    have ha2 := add_bs ([c, d] ++ lenT nm) (lenT ot) (by simp; omega)
    have ha3 := add_bs (([c, d] ++ lenT nm) ++ lenT ot) (lenT tx) (by simp; omega)
    rw [← he] at ha3
    have HE1 := Lib.hid (fun W => encText_any nm W (by omega))
    have HE2 := Lib.hid (fun W => encText_any ot W (by omega))
    have HE3 := Lib.hid (fun W => encText_any tx W (by omega))
    clear k1 k2 k3 k5 k6 k7 kn kt hc hci hcn hd hdi hdn he l1 l2 l3 hC
    generalize bs (encO ⟨kd, nm, ot, pl, tx⟩) = RR at *
    generalize bs ([c, d] ++ lenT nm ++ lenT ot) = R2 at *
    generalize bs ([c, d] ++ lenT nm) = R1 at *
    generalize bs (lenT nm) = T1 at *
    generalize bs (lenT ot) = T2 at *
    generalize bs (lenT tx) = T3 at *
    generalize bs nm = N at *
    generalize bs ot = O at *
    generalize bs tx = T at *
    have q0 := HO1.out.cell (j := 0) rfl
    have q3 := HO1.out.cell (j := 3) rfl
    go_upto_region 5 with (fail)
    have HUB := Lib.hid (Up.alloc w1 (.cells #[.int .u8 ((c.toNat : Nat) : Int), .int .u8 ((d.toNat : Nat) : Int)] 5))
    generalize w1.alloc (.cells #[.int .u8 ((c.toNat : Nat) : Int), .int .u8 ((d.toNat : Nat) : Int)] 5) = W2 at HUB ⊢
    clear q0 q3
    have s1 := (HO1.out.up HUB.out).cell (j := 1) rfl
    have s2 := (HO1.out.up HUB.out).cell (j := 2) rfl
    have s4 := (HO1.out.up HUB.out).cell (j := 4) rfl
    go_region_held3 (fun U => U.cell? ⟨X, 1, none⟩ = some (.string N) ∧ U.cell? ⟨X, 2, none⟩ = some (.string O) ∧ U.cell? ⟨X, 4, none⟩ = some (.string T)) (go_keep) (first
      | (go_at_call 26; ((with_reducible refine (HE1.out _).mono ?_); rintro e wz ⟨rfl, uz⟩; have uy : Up W2 wz := (by first | exact ux.trans uz | exact (Up.drew _).trans uz | exact uz); clear uz; have ux : Up W2 wz := uy; clear uy; have s1 := (HO1.out.up (HUB.out.trans ux)).cell (j := 1) rfl; have s2 := (HO1.out.up (HUB.out.trans ux)).cell (j := 2) rfl; have s4 := (HO1.out.up (HUB.out.trans ux)).cell (j := 4) rfl))
      | (go_at_call 26; ((with_reducible refine (HE2.out _).mono ?_); rintro e wz ⟨rfl, uz⟩; have uy : Up W2 wz := (by first | exact ux.trans uz | exact (Up.drew _).trans uz | exact uz); clear uz; have ux : Up W2 wz := uy; clear uy; have s1 := (HO1.out.up (HUB.out.trans ux)).cell (j := 1) rfl; have s2 := (HO1.out.up (HUB.out.trans ux)).cell (j := 2) rfl; have s4 := (HO1.out.up (HUB.out.trans ux)).cell (j := 4) rfl))
      | (go_at_call 26; ((with_reducible refine (HE3.out _).mono ?_); rintro e wz ⟨rfl, uz⟩; have uy : Up W2 wz := (by first | exact ux.trans uz | exact (Up.drew _).trans uz | exact uz); clear uz; have ux : Up W2 wz := uy; clear uy; have s1 := (HO1.out.up (HUB.out.trans ux)).cell (j := 1) rfl; have s2 := (HO1.out.up (HUB.out.trans ux)).cell (j := 2) rfl; have s4 := (HO1.out.up (HUB.out.trans ux)).cell (j := 4) rfl)))
    all_goals
      go_wp2_with fail
      go_ret2
      exact ⟨congrArg Ending.returned HRS2.out, HU1.out.trans (HUB.out.trans ux)⟩
  · have hcz : (C == 0) = false := by rw [beq_eq_false_iff_ne]; exact hc
    have HRS2 : Hid (.tuple #[.string ⟨#[]⟩, .int .i64 C] = RS) := by
      have h9 := HRS.out
      rw [if_neg hc] at h9
      exact h9
    clear hC hc
    go_wp2_with fail
    go_ret2
    exact ⟨congrArg Ending.returned HRS2.out, HU1.out⟩

theorem wf_i64L {z : Int} (h : -9223372036854775808 ≤ z ∧ z ≤ 9223372036854775807) : (Lit.int .i64 z).wf = true := WalkArith.wf_i64 h

theorem txt_eqO (a b : List UInt8) : ((bs a).toList == (bs b).toList) = (a == b) := by
  rw [ByteArray.toList_eq, ByteArray.toList_eq, bs_list, bs_list]

def zeroO : Opn := ⟨0, [], [], 0, []⟩

/-- what Decode answers -/
def decR (s : List UInt8) : Value := .tuple #[opA ((decO s).getD zeroO), .int .i64 (if (decO s).isSome then 0 else 3)]

theorem up5 {w W : World} {R : Nat} {a b c d e : Value} (h : Up w W) (hR : w.heap.size ≤ R) : Up w (((((W.setCell ⟨R, 0, none⟩ a).setCell ⟨R, 1, none⟩ b).setCell ⟨R, 2, none⟩ c).setCell ⟨R, 3, none⟩ d).setCell ⟨R, 4, none⟩ e) :=
  ((((Below.setCell h (p := ⟨R, 0, none⟩) hR _).setCell (p := ⟨R, 1, none⟩) hR _).setCell (p := ⟨R, 2, none⟩) hR _).setCell (p := ⟨R, 3, none⟩) hR _).setCell (p := ⟨R, 4, none⟩) hR _

theorem up1 {w W : World} {R k : Nat} {a : Value} (h : Up w W) (hR : w.heap.size ≤ R) : Up w (W.setCell ⟨R, k, none⟩ a) := Below.setCell h (p := ⟨R, k, none⟩) hR _

set_option maxRecDepth 100000 in
set_option maxHeartbeats 2000000 in
theorem decode_any (s : List UInt8) (w : World) (h : s.length ≤ 281474976710656) : Calls Tryz.prog 36 #[.string (bs s)] w fun e w' => e = .returned (decR s) ∧ Up w w' := by
  obtain ⟨RS, hRS⟩ : ∃ RS, decR s = RS := ⟨_, rfl⟩
  rw [hRS]
  have HRS := Lib.hid hRS
  clear hRS
  unfold decR at HRS
  rw [dec_raw] at HRS
  have hsz := bs_size s
  have HR : Hid (RowC (w.alloc (.cells #[.int .i64 0, .string ⟨#[]⟩, .string ⟨#[]⟩, .int .i64 0, .string ⟨#[]⟩] 27)) w.heap.size 27 [.int .i64 0, .string ⟨#[]⟩, .string ⟨#[]⟩, .int .i64 0, .string ⟨#[]⟩]) := heap_alloc_new w _
  have HU := Lib.hid (Up.alloc w (.cells #[.int .i64 0, .string ⟨#[]⟩, .string ⟨#[]⟩, .int .i64 0, .string ⟨#[]⟩] 27))
  have HXW : Hid (w.heap.size ≤ w.heap.size) := Nat.le_refl _
  by_cases h2 : s.length < 2
  · have HZ : Hid (.tuple #[.agg #[.int .i64 0, .string ⟨#[]⟩, .string ⟨#[]⟩, .int .i64 0, .string ⟨#[]⟩], .int .i64 3] = RS) := by
      have h9 := HRS.out
      rw [if_pos h2] at h9
      exact h9
    have d2 : decide ((s.length : Int) < 2) = true := decide_eq_true (by omega)
    clear HRS
    generalize bs s = S at *
    generalize s.length = n at *
    go_enter Tryz.func36, Tryz.ntmps36
    go_upto_region 1 with (fail)
    generalize w.alloc (.cells #[.int .i64 0, .string ⟨#[]⟩, .string ⟨#[]⟩, .int .i64 0, .string ⟨#[]⟩] 27) = W0 at HR HU ⊢
    generalize hX : w.heap.size = X at HR ⊢
    have HXW : Hid (w.heap.size ≤ X) := Nat.le_of_eq hX
    clear hX
    have r0 := HR.out.frozen 0
    have r1 := HR.out.frozen 1
    have r2 := HR.out.frozen 2
    have r3 := HR.out.frozen 3
    have r4 := HR.out.frozen 4
    have c0 := HR.out.cell (j := 0) rfl
    have c1 := HR.out.cell (j := 1) rfl
    have c2 := HR.out.cell (j := 2) rfl
    have c3 := HR.out.cell (j := 3) rfl
    have c4 := HR.out.cell (j := 4) rfl
    go_wp2_with fail
    have hz := ((((HR.out.set 0 (.int .i64 0)).set 1 (.string ⟨#[]⟩)).set 2 (.string ⟨#[]⟩)).set 3 (.int .i64 0)).set 4 (.string ⟨#[]⟩)
    have z0 := hz.cell (j := 0) rfl
    have z1 := hz.cell (j := 1) rfl
    have z2 := hz.cell (j := 2) rfl
    have z3 := hz.cell (j := 3) rfl
    have z4 := hz.cell (j := 4) rfl
    have HUZ := Lib.hid (up5 (a := .int .i64 0) (b := .string ⟨#[]⟩) (c := .string ⟨#[]⟩) (d := .int .i64 0) (e := .string ⟨#[]⟩) HU.out HXW.out)
    generalize ((((W0.setCell ⟨X, 0, none⟩ (.int .i64 0)).setCell ⟨X, 1, none⟩ (.string ⟨#[]⟩)).setCell ⟨X, 2, none⟩ (.string ⟨#[]⟩)).setCell ⟨X, 3, none⟩ (.int .i64 0)).setCell ⟨X, 4, none⟩ (.string ⟨#[]⟩) = WZ at z0 z1 z2 z3 z4 HUZ ⊢
    exact bodyPost_ret (v := .tuple #[.agg #[.int .i64 0, .string ⟨#[]⟩, .string ⟨#[]⟩, .int .i64 0, .string ⟨#[]⟩], .int .i64 3]) (by simp [results, Tryz.results36, go_sem, z0, z1, z2, z3, z4]) rfl ⟨congrArg Ending.returned HZ.out, HUZ.out⟩
  · have d2 : decide ((s.length : Int) < 2) = false := decide_eq_false (by omega)
    match s, h, h2, HRS, hsz, d2 with
    | a :: b :: r, h, _, HRS, hsz, d2 =>
      have hk := a.toNat_lt
      have ha := b.toNat_lt
      have hx0 : ∀ W : World, (Instr.index 9 (.string (bs (a :: b :: r))) (.int .i64 0)).run Tryz.prog W = .ok (.int .u8 ((a.toNat : Nat) : Int)) W := index_bs (a :: b :: r) 0 (by simp)
      have hx1 : ∀ W : World, (Instr.index 9 (.string (bs (a :: b :: r))) (.int .i64 1)).run Tryz.prog W = .ok (.int .u8 ((b.toNat : Nat) : Int)) W := index_bs (a :: b :: r) 1 (by simp)
      have hw0 : wrap64 ((a.toNat : Nat) : Int) = ((a.toNat : Nat) : Int) := by unfold wrap64; omega
      have hw1 : wrap64 ((b.toNat : Nat) : Int) = ((b.toNat : Nat) : Int) := by unfold wrap64; omega
      have hs2 := from_bs (a :: b :: r) 2 2 rfl (by simp)
      have hd2 : (a :: b :: r).drop 2 = r := rfl
      rw [hd2] at hs2
      simp only [List.length_cons] at h hsz d2
      have c1 := cutR_le r
      have c2 := cutR_le (cutR r).2
      have HC1 := Lib.hid (fun W => cutText_any r W (by omega))
      have HC2 := Lib.hid (fun W => cutText_any (cutR r).2 W (by omega))
      have HC3 := Lib.hid (fun W => cutText_any (cutR (cutR r).2).2 W (by omega))
      have hle := rawO_le (a :: b :: r)
      have HEN := Lib.hid (fun W => encode_any (rawO (a :: b :: r)) W ⟨wf_i64L (by omega), by omega, by omega, wf_i64L (by omega), by omega⟩)
      have hraw : rawO (a :: b :: r) = ⟨((a.toNat : Nat) : Int), (cutR r).1, (cutR (cutR r).2).1, ((b.toNat : Nat) : Int), (cutR (cutR (cutR r).2).2).1⟩ := rfl
      rw [if_neg (by simp)] at HRS
      rw [hraw] at HRS HEN
      clear hraw hle c1 c2 hd2 hk ha
      obtain ⟨D, hD⟩ : ∃ D, D = (⟨((a.toNat : Nat) : Int), (cutR r).1, (cutR (cutR r).2).1, ((b.toNat : Nat) : Int), (cutR (cutR (cutR r).2).2).1⟩ : Opn) := ⟨_, rfl⟩
      have HD := Lib.hid hD
      rw [← hD] at HRS HEN
      have HEN2 : Hid (∀ W, Calls Tryz.prog 11 #[.agg #[.int .i64 ((a.toNat : Nat) : Int), .string (bs (cutR r).1), .string (bs (cutR (cutR r).2).1), .int .i64 ((b.toNat : Nat) : Int), .string (bs (cutR (cutR (cutR r).2).2).1)]] W fun e w' => e = .returned (encR D) ∧ Up W w') := by
        have h9 := HEN.out
        rw [hD] at h9 ⊢
        exact h9
      have HYES : Hid (chkO D = 0 → encO D = a :: b :: r → (.tuple #[.agg #[.int .i64 ((a.toNat : Nat) : Int), .string (bs (cutR r).1), .string (bs (cutR (cutR r).2).1), .int .i64 ((b.toNat : Nat) : Int), .string (bs (cutR (cutR (cutR r).2).2).1)], .int .i64 0] : Value) = RS) := by
        intro h1 h2
        have h9 := HRS.out
        rw [if_pos ⟨h1, h2⟩, hD] at h9
        exact h9
      have HNO : Hid (¬ (chkO D = 0 ∧ encO D = a :: b :: r) → (.tuple #[.agg #[.int .i64 0, .string ⟨#[]⟩, .string ⟨#[]⟩, .int .i64 0, .string ⟨#[]⟩], .int .i64 3] : Value) = RS) := by
        intro h1
        have h9 := HRS.out
        rw [if_neg h1] at h9
        exact h9
      clear HRS HEN hD HD
      unfold encR at HEN2
      have htq := txt_eqO (encO D) (a :: b :: r)
      generalize (cutR (cutR (cutR r).2).2).2 = V4 at *
      generalize (cutR (cutR (cutR r).2).2).1 = V3 at *
      generalize (cutR (cutR r).2).2 = U2 at *
      generalize (cutR (cutR r).2).1 = V2 at *
      generalize (cutR r).2 = U1 at *
      generalize (cutR r).1 = V1 at *
      generalize ((a.toNat : Nat) : Int) = KA at *
      generalize ((b.toNat : Nat) : Int) = KB at *
      generalize bs (a :: b :: r) = S at *
      clear d2
      obtain ⟨n, hn⟩ : ∃ n, r.length = n := ⟨_, rfl⟩
      rw [hn] at h hsz
      clear hn
      have d22 : decide (((n : Int) + 1 + 1) < 2) = false := decide_eq_false (by omega)
      go_enter Tryz.func36, Tryz.ntmps36
      go_upto_region 1 with (fail)
      generalize w.alloc (.cells #[.int .i64 0, .string ⟨#[]⟩, .string ⟨#[]⟩, .int .i64 0, .string ⟨#[]⟩] 27) = W0 at HR HU ⊢
      generalize hX : w.heap.size = X at HR ⊢
      have HXW : Hid (w.heap.size ≤ X) := Nat.le_of_eq hX
      clear hX
      go_upto_region 3 with (fail)
      go_region
      have HXB : Hid (X < W0.heap.size) := HR.out.lt
      have HY : Hid (RowC (W0.alloc (.cells #[.int .i64 KA, .string ⟨#[]⟩, .string ⟨#[]⟩, .int .i64 KB, .string ⟨#[]⟩] 27)).drew W0.heap.size 27 [.int .i64 KA, .string ⟨#[]⟩, .string ⟨#[]⟩, .int .i64 KB, .string ⟨#[]⟩]) := RowC.up (heap_alloc_new W0 _) (Up.drew _)
      have hv := (Up.alloc W0 (.cells #[.int .i64 KA, .string ⟨#[]⟩, .string ⟨#[]⟩, .int .i64 KB, .string ⟨#[]⟩] 27)).trans (Up.drew _)
      have HR1 := Lib.hid (HR.out.up hv)
      have HU1 := Lib.hid (HU.out.trans hv)
      clear hv
      generalize (W0.alloc (.cells #[.int .i64 KA, .string ⟨#[]⟩, .string ⟨#[]⟩, .int .i64 KB, .string ⟨#[]⟩] 27)).drew = W1 at HY HR1 HU1 ⊢
      generalize hY : W0.heap.size = Y at HY HXB ⊢
      have HYW : Hid (w.heap.size ≤ Y) := by rw [← hY]; exact HU.out.size
      clear hY
      have HNE : Hid (X ≠ Y) := Nat.ne_of_lt HXB.out
      go_wp2_with fail
      refine (HC1.out _).mono ?_
      rintro e w5 ⟨rfl, u5⟩
      replace HY := Lib.hid (HY.out.up u5)
      replace HR1 := Lib.hid (HR1.out.up u5)
      replace HU1 := Lib.hid (HU1.out.trans u5)
      clear u5
      have f0 := HY.out.frozen 1
      have f1 := HY.out.cell (j := 1) rfl
      go_upto_region 6 with (fail)
      clear f0 f1
      replace HY := Lib.hid (HY.out.set 1 (.string (bs V1)))
      replace HR1 := Lib.hid (HR1.out.other HNE.out 1 (.string (bs V1)))
      replace HU1 := Lib.hid (up1 (k := 1) (a := .string (bs V1)) HU1.out HYW.out)
      generalize w5.setCell ⟨Y, 1, none⟩ (.string (bs V1)) = W5 at HY HR1 HU1 ⊢
      go_wp2_with fail
      refine (HC2.out _).mono ?_
      rintro e w6 ⟨rfl, u5⟩
      replace HY := Lib.hid (HY.out.up u5)
      replace HR1 := Lib.hid (HR1.out.up u5)
      replace HU1 := Lib.hid (HU1.out.trans u5)
      clear u5
      have f0 := HY.out.frozen 2
      have f1 := HY.out.cell (j := 2) rfl
      go_upto_region 7 with (fail)
      clear f0 f1
      replace HY := Lib.hid (HY.out.set 2 (.string (bs V2)))
      replace HR1 := Lib.hid (HR1.out.other HNE.out 2 (.string (bs V2)))
      replace HU1 := Lib.hid (up1 (k := 2) (a := .string (bs V2)) HU1.out HYW.out)
      generalize w6.setCell ⟨Y, 2, none⟩ (.string (bs V2)) = W6 at HY HR1 HU1 ⊢
      go_wp2_with fail
      refine (HC3.out _).mono ?_
      rintro e w7 ⟨rfl, u5⟩
      replace HY := Lib.hid (HY.out.up u5)
      replace HR1 := Lib.hid (HR1.out.up u5)
      replace HU1 := Lib.hid (HU1.out.trans u5)
      clear u5
      have f0 := HY.out.frozen 4
      have f1 := HY.out.cell (j := 4) rfl
      go_upto_region 8 with (fail)
      clear f0 f1
      replace HY := Lib.hid (HY.out.set 4 (.string (bs V3)))
      replace HR1 := Lib.hid (HR1.out.other HNE.out 4 (.string (bs V3)))
      replace HU1 := Lib.hid (up1 (k := 4) (a := .string (bs V3)) HU1.out HYW.out)
      generalize w7.setCell ⟨Y, 4, none⟩ (.string (bs V3)) = W7 at HY HR1 HU1 ⊢
      have g0 := HY.out.cell (j := 0) rfl
      have g1 := HY.out.cell (j := 1) rfl
      have g2 := HY.out.cell (j := 2) rfl
      have g3 := HY.out.cell (j := 3) rfl
      have g4 := HY.out.cell (j := 4) rfl
      try simp only [List.set_cons_zero, List.set_cons_succ] at g0 g1 g2 g3 g4
      go_wp2_with fail
      refine (HEN2.out _).mono ?_
      rintro e w8 ⟨rfl, u5⟩
      replace HY := Lib.hid (HY.out.up u5)
      replace HR1 := Lib.hid (HR1.out.up u5)
      replace HU1 := Lib.hid (HU1.out.trans u5)
      clear u5 g0 g1 g2 g3 g4
      have r0 := HR1.out.frozen 0
      have r1 := HR1.out.frozen 1
      have r2 := HR1.out.frozen 2
      have r3 := HR1.out.frozen 3
      have r4 := HR1.out.frozen 4
      have c0 := HR1.out.cell (j := 0) rfl
      have c1 := HR1.out.cell (j := 1) rfl
      have c2 := HR1.out.cell (j := 2) rfl
      have c3 := HR1.out.cell (j := 3) rfl
      have c4 := HR1.out.cell (j := 4) rfl
      obtain ⟨C, hC⟩ : ∃ C, chkO D = C := ⟨_, rfl⟩
      obtain ⟨E, hE⟩ : ∃ E, encO D = E := ⟨_, rfl⟩
      rw [hC, hE] at HYES HNO ⊢
      rw [hE] at htq
      clear hC hE
      by_cases hc : C = 0
      · subst hc
        rw [if_pos rfl]
        by_cases hes : E = a :: b :: r
        · have hee : ((bs E).toList == S.toList) = true := by rw [htq]; simpa using hes
          have HZ := Lib.hid (HYES.out rfl hes)
          clear HYES HNO htq hes
          generalize bs E = EB at *
          have g0 := HY.out.cell (j := 0) rfl
          have g1 := HY.out.cell (j := 1) rfl
          have g2 := HY.out.cell (j := 2) rfl
          have g3 := HY.out.cell (j := 3) rfl
          have g4 := HY.out.cell (j := 4) rfl
          try simp only [List.set_cons_zero, List.set_cons_succ] at g0 g1 g2 g3 g4
          generalize bs V1 = B1 at *
          generalize bs V2 = B2 at *
          generalize bs V3 = B3 at *
          go_wp2_with fail
          have hz := ((((HR1.out.set 0 (.int .i64 KA)).set 1 (.string B1)).set 2 (.string B2)).set 3 (.int .i64 KB)).set 4 (.string B3)
          have z0 := hz.cell (j := 0) rfl
          have z1 := hz.cell (j := 1) rfl
          have z2 := hz.cell (j := 2) rfl
          have z3 := hz.cell (j := 3) rfl
          have z4 := hz.cell (j := 4) rfl
          have HUZ := Lib.hid (up5 (a := .int .i64 KA) (b := .string B1) (c := .string B2) (d := .int .i64 KB) (e := .string B3) HU1.out HXW.out)
          generalize ((((w8.setCell ⟨X, 0, none⟩ (.int .i64 KA)).setCell ⟨X, 1, none⟩ (.string B1)).setCell ⟨X, 2, none⟩ (.string B2)).setCell ⟨X, 3, none⟩ (.int .i64 KB)).setCell ⟨X, 4, none⟩ (.string B3) = WZ at z0 z1 z2 z3 z4 HUZ ⊢
          exact bodyPost_ret (v := .tuple #[.agg #[.int .i64 KA, .string B1, .string B2, .int .i64 KB, .string B3], .int .i64 0]) (by simp [results, Tryz.results36, go_sem, z0, z1, z2, z3, z4]) rfl ⟨congrArg Ending.returned HZ.out, HUZ.out⟩
        · have hee : ((bs E).toList == S.toList) = false := by rw [htq]; simpa using hes
          have HZ := Lib.hid (HNO.out (fun h => hes h.2))
          clear HYES HNO htq hes
          generalize bs E = EB at *
          go_wp2_with fail
          have hz := ((((HR1.out.set 0 (.int .i64 0)).set 1 (.string ⟨#[]⟩)).set 2 (.string ⟨#[]⟩)).set 3 (.int .i64 0)).set 4 (.string ⟨#[]⟩)
          have z0 := hz.cell (j := 0) rfl
          have z1 := hz.cell (j := 1) rfl
          have z2 := hz.cell (j := 2) rfl
          have z3 := hz.cell (j := 3) rfl
          have z4 := hz.cell (j := 4) rfl
          have HUZ := Lib.hid (up5 (a := .int .i64 0) (b := .string ⟨#[]⟩) (c := .string ⟨#[]⟩) (d := .int .i64 0) (e := .string ⟨#[]⟩) HU1.out HXW.out)
          generalize ((((w8.setCell ⟨X, 0, none⟩ (.int .i64 0)).setCell ⟨X, 1, none⟩ (.string ⟨#[]⟩)).setCell ⟨X, 2, none⟩ (.string ⟨#[]⟩)).setCell ⟨X, 3, none⟩ (.int .i64 0)).setCell ⟨X, 4, none⟩ (.string ⟨#[]⟩) = WZ at z0 z1 z2 z3 z4 HUZ ⊢
          exact bodyPost_ret (v := .tuple #[.agg #[.int .i64 0, .string ⟨#[]⟩, .string ⟨#[]⟩, .int .i64 0, .string ⟨#[]⟩], .int .i64 3]) (by simp [results, Tryz.results36, go_sem, z0, z1, z2, z3, z4]) rfl ⟨congrArg Ending.returned HZ.out, HUZ.out⟩
      · have hcz : (C == 0) = false := by rw [beq_eq_false_iff_ne]; exact hc
        rw [if_neg hc]
        have HZ := Lib.hid (HNO.out (fun h => hc h.1))
        clear HYES HNO
        go_wp2_with fail
        have hz := ((((HR1.out.set 0 (.int .i64 0)).set 1 (.string ⟨#[]⟩)).set 2 (.string ⟨#[]⟩)).set 3 (.int .i64 0)).set 4 (.string ⟨#[]⟩)
        have z0 := hz.cell (j := 0) rfl
        have z1 := hz.cell (j := 1) rfl
        have z2 := hz.cell (j := 2) rfl
        have z3 := hz.cell (j := 3) rfl
        have z4 := hz.cell (j := 4) rfl
        have HUZ := Lib.hid (up5 (a := .int .i64 0) (b := .string ⟨#[]⟩) (c := .string ⟨#[]⟩) (d := .int .i64 0) (e := .string ⟨#[]⟩) HU1.out HXW.out)
        generalize ((((w8.setCell ⟨X, 0, none⟩ (.int .i64 0)).setCell ⟨X, 1, none⟩ (.string ⟨#[]⟩)).setCell ⟨X, 2, none⟩ (.string ⟨#[]⟩)).setCell ⟨X, 3, none⟩ (.int .i64 0)).setCell ⟨X, 4, none⟩ (.string ⟨#[]⟩) = WZ at z0 z1 z2 z3 z4 HUZ ⊢
        exact bodyPost_ret (v := .tuple #[.agg #[.int .i64 0, .string ⟨#[]⟩, .string ⟨#[]⟩, .int .i64 0, .string ⟨#[]⟩], .int .i64 3]) (by simp [results, Tryz.results36, go_sem, z0, z1, z2, z3, z4]) rfl ⟨congrArg Ending.returned HZ.out, HUZ.out⟩

end Go.Proofs.YtbeigaanlhaolaaGreatDoor

/-
  Slices of items of a bag: that read as a list of items (Items), and that the call owns (OItems); their cells. Conditions: as each says.
-/
namespace Go.Proofs.YtbeigaanlhaolaaGreatDoor
open Go.RowKit
open Go.Proofs
open WoolBag

/-- an item's cells -/
def itC (x : Itm) : List Value := [.int .i64 x.s, .int .i64 x.n, .string (bs x.t), .int .i64 x.r]
/-- an item as a value -/
def itV (x : Itm) : Value := .agg #[.int .i64 x.s, .int .i64 x.n, .string (bs x.t), .int .i64 x.r]
/-- an identifier as a value -/
def idV (i : Bool × Int × Int) : Value := .agg #[.bool i.1, .int .i64 i.2.1, .int .i64 i.2.2]

/-- items as cells -/
def itL : List Itm → List Value
  | [] => []
  | x :: r => .int .i64 x.s :: .int .i64 x.n :: .string (bs x.t) :: .int .i64 x.r :: itL r

theorem itL_cons (x : Itm) (r : List Itm) : itL (x :: r) = itC x ++ itL r := rfl

theorem itL_append : ∀ a b : List Itm, itL (a ++ b) = itL a ++ itL b
  | [], _ => rfl
  | x :: r, b => by rw [List.cons_append, itL_cons, itL_cons, itL_append r b, List.append_assoc]

theorem itL_length : ∀ l : List Itm, (itL l).length = l.length * 4
  | [] => rfl
  | x :: r => by rw [itL_cons, List.length_append, itL_length r, List.length_cons]; unfold itC; simp; omega

theorem itL_take : ∀ (l : List Itm) (k : Nat), itL (l.take k) = (itL l).take (k * 4)
  | [], k => by simp [itL]
  | x :: r, 0 => by simp [itL]
  | x :: r, k + 1 => by
    rw [List.take_succ_cons, itL_cons, itL_cons, itL_take r k, List.take_append]
    have h4 : (itC x).length = 4 := rfl
    rw [h4, List.take_of_length_le (l := itC x) (by rw [h4]; omega), show (k + 1) * 4 - 4 = k * 4 by omega]

theorem itL_drop : ∀ (l : List Itm) (k : Nat), itL (l.drop k) = (itL l).drop (k * 4)
  | [], k => by simp [itL]
  | x :: r, 0 => by simp
  | x :: r, k + 1 => by
    rw [List.drop_succ_cons, itL_cons, itL_drop r k, List.drop_append]
    have h4 : (itC x).length = 4 := rfl
    rw [h4, List.drop_of_length_le (l := itC x) (by rw [h4]; omega), show (k + 1) * 4 - 4 = k * 4 by omega, List.nil_append]

theorem itL_get : ∀ (l : List Itm) (k : Nat) (h : k < l.length), (itL l)[k * 4]? = some (.int .i64 l[k].s) ∧ (itL l)[k * 4 + 1]? = some (.int .i64 l[k].n) ∧ (itL l)[k * 4 + 2]? = some (.string (bs l[k].t)) ∧ (itL l)[k * 4 + 3]? = some (.int .i64 l[k].r)
  | [], k, h => by simp at h
  | x :: r, 0, h => ⟨rfl, rfl, rfl, rfl⟩
  | x :: r, k + 1, h => by
    have ih := itL_get r k (by rw [List.length_cons] at h; omega)
    unfold itL
    rw [show (k + 1) * 4 = k * 4 + 1 + 1 + 1 + 1 by omega, show k * 4 + 1 + 1 + 1 + 1 + 1 = (k * 4 + 1) + 1 + 1 + 1 + 1 by omega, show k * 4 + 1 + 1 + 1 + 1 + 2 = (k * 4 + 2) + 1 + 1 + 1 + 1 by omega, show k * 4 + 1 + 1 + 1 + 1 + 3 = (k * 4 + 3) + 1 + 1 + 1 + 1 by omega]
    simp only [List.getElem?_cons_succ, List.getElem_cons_succ]
    exact ih

theorem itL_one : ∀ (l : List Itm), ∀ u ∈ itL l, u.oneCell' = true
  | [], u, h => by simp [itL] at h
  | x :: r, u, h => by
    rw [itL_cons, List.mem_append] at h
    rcases h with h | h
    · unfold itC at h
      simp at h
      rcases h with rfl | rfl | rfl | rfl <;> rfl
    · exact itL_one r u h

theorem itInfo : (Tryz.prog.info? 89).map (fun i => (i.zero, i.size, i.bytes)) = some (some (.agg #[.int .i64 0, .int .i64 0, .string ⟨#[]⟩, .int .i64 0]), 4, 40) := by kernel_rfl

/-- a slice that reads as items -/
def Items (w : World) (v : Value) (l : List Itm) : Prop :=
  ∃ o c, v = .slice o l.length c ∧ l.length ≤ c ∧ c ≤ maxLen ∧ (l = [] ∨ ∃ b off, o = some ⟨b, off, none⟩ ∧ ∀ k (h : k < l.length),
    w.cell? ⟨b, off + k * 4, none⟩ = some (.int .i64 l[k].s) ∧ w.cell? ⟨b, off + k * 4 + 1, none⟩ = some (.int .i64 l[k].n) ∧ w.cell? ⟨b, off + k * 4 + 2, none⟩ = some (.string (bs l[k].t)) ∧ w.cell? ⟨b, off + k * 4 + 3, none⟩ = some (.int .i64 l[k].r))

theorem Items.below {w w' : World} {n : Nat} {v : Value} {l : List Itm} (h : Items w v l) (hu : Below n w w') (hn : ∀ b, v.ownBlock = some b → b < n) : Items w' v l := by
  obtain ⟨o, c, rfl, h2, h3, h4⟩ := h
  refine ⟨o, c, rfl, h2, h3, ?_⟩
  rcases h4 with h4 | ⟨b, off, rfl, h6⟩
  · exact .inl h4
  · refine .inr ⟨b, off, rfl, fun k hk => ?_⟩
    have hb : b < n := hn b rfl
    obtain ⟨a1, a2, a3, a4⟩ := h6 k hk
    exact ⟨(hu.cell (p := ⟨b, _, none⟩) hb).trans a1, (hu.cell (p := ⟨b, _, none⟩) hb).trans a2, (hu.cell (p := ⟨b, _, none⟩) hb).trans a3, (hu.cell (p := ⟨b, _, none⟩) hb).trans a4⟩

theorem Items.up {w w' : World} {v : Value} {l : List Itm} (h : Items w v l) (hu : Up w w') : Items w' v l := by
  obtain ⟨o, c, h1, h2, h3, h4⟩ := h
  refine ⟨o, c, h1, h2, h3, ?_⟩
  rcases h4 with h4 | ⟨b, off, h5, h6⟩
  · exact .inl h4
  · refine .inr ⟨b, off, h5, fun k hk => ?_⟩
    obtain ⟨a1, a2, a3, a4⟩ := h6 k hk
    exact ⟨(hu.cell (World.block_lt_of_cell? w _ a1)).trans a1, (hu.cell (World.block_lt_of_cell? w _ a2)).trans a2, (hu.cell (World.block_lt_of_cell? w _ a3)).trans a3, (hu.cell (World.block_lt_of_cell? w _ a4)).trans a4⟩

theorem Items.slice {w : World} {v : Value} {l : List Itm} (h : Items w v l) : ∃ o c, v = .slice o l.length c ∧ c ≤ maxLen := by
  obtain ⟨o, c, h1, _, h3, _⟩ := h
  exact ⟨o, c, h1, h3⟩

theorem Items.nil (w : World) : Items w (.slice none 0 0) [] := ⟨none, 0, rfl, Nat.le_refl _, by unfold maxLen; omega, .inl rfl⟩

/-- the items ahead of a place -/
theorem Items.front {w : World} {o : Option Addr} {n c : Nat} {l : List Itm} (h : Items w (.slice o n c) l) (k : Nat) (hk : k ≤ l.length) : Items w (.slice o k c) (l.take k) := by
  obtain ⟨o', c', h1, h2, h3, h4⟩ := h
  simp only [Value.slice.injEq] at h1
  obtain ⟨rfl, rfl, rfl⟩ := h1
  have hlen : (l.take k).length = k := by rw [List.length_take]; omega
  refine ⟨o, c, by rw [hlen], by omega, h3, ?_⟩
  rcases h4 with h4 | ⟨b, off, h5, h6⟩
  · left; rw [h4]; simp
  · right
    refine ⟨b, off, h5, fun j hj => ?_⟩
    rw [hlen] at hj
    rw [List.getElem_take]
    exact h6 j (by omega)

/-- a slice of items of the call's own -/
def OItems (w : World) (base : Nat) (v : Value) (l : List Itm) : Prop := w.ownsRow base 89 4 v l.length (itL l)

theorem OItems.items {w : World} {base : Nat} {v : Value} {l : List Itm} (h : OItems w base v l) : Items w v l := by
  have h' := h
  rcases h.2 with ⟨rfl, h0⟩ | ⟨g, cap, cur, rfl, _, _, h3, h4, _⟩
  · have : l = [] := List.eq_nil_of_length_eq_zero h0
    subst this
    exact Items.nil w
  · refine ⟨_, cap, rfl, h3, h4, .inr ⟨g, 0, rfl, fun k hk => ?_⟩⟩
    obtain ⟨a1, a2, a3, a4⟩ := itL_get l k hk
    have hc : ∀ j, j < l.length * 4 → w.cell? ⟨g, j, none⟩ = (itL l)[j]? := fun j hj => World.ownsRow.cellAt h' j (by omega)
    refine ⟨?_, ?_, ?_, ?_⟩
    · rw [Nat.zero_add]; exact (hc _ (by omega)).trans a1
    · rw [Nat.zero_add]; exact (hc _ (by omega)).trans a2
    · rw [Nat.zero_add]; exact (hc _ (by omega)).trans a3
    · rw [Nat.zero_add]; exact (hc _ (by omega)).trans a4

theorem OItems.below {w w' : World} {base n : Nat} {v : Value} {l : List Itm} (h : OItems w base v l) (hu : Below n w w') (hn : ∀ b, v.ownBlock = some b → b < n) : OItems w' base v l := by
  refine ⟨h.1, ?_⟩
  rcases h.2 with h | ⟨g, cap, cur, rfl, h2, h3, h4⟩
  · exact .inl h
  · refine .inr ⟨g, cap, cur, rfl, h2, ?_, h4⟩
    rw [← h3]; exact hu.block g (hn g rfl)

theorem OItems.up {w w' : World} {base : Nat} {v : Value} {l : List Itm} (h : OItems w base v l) (hu : Up w w') : OItems w' base v l :=
  h.below hu (fun b hb => (World.ownsRow.lt h b hb).2)

theorem OItems.base {w : World} {base base' : Nat} {v : Value} {l : List Itm} (h : OItems w base v l) (hb : base' ≤ base) : OItems w base' v l := by
  refine ⟨h.1, ?_⟩
  rcases h.2 with h | ⟨g, cap, cur, h1, h2, h3⟩
  · exact .inl h
  · exact .inr ⟨g, cap, cur, h1, by omega, h3⟩

theorem OItems.nil (w : World) (base : Nat) : OItems w base (.slice none 0 0) [] := World.ownsRow_nil w base _ _

end Go.Proofs.YtbeigaanlhaolaaGreatDoor
