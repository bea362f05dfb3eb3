/-
  What the reference's Unbody returns. Conditions: a text that fits in memory.
-/
import Derived.Test.YtbeigaanlhaolaaGreatDoorJB26
import Derived.BigRegion
namespace Go.Proofs.YtbeigaanlhaolaaGreatDoor
open Go.RowKit
open Go.Proofs
open WoolBag
open WoolVol

def UnbRel (w : World) (X Y Z : Nat) (KA KB : Int) (S0 S1 S2 S3 V1 V2 V3 : ByteArray) (t i : Value) (wr : World) : Prop :=
  RowC wr X 27 [.int .i64 0, .string ⟨#[]⟩, .string ⟨#[]⟩, .int .i64 0, .string ⟨#[]⟩] ∧ RowC wr Y 27 [.int .i64 KA, .string ⟨#[]⟩, .string ⟨#[]⟩, .int .i64 KB, .string ⟨#[]⟩] ∧ Up w wr ∧
    ((i = .int .i64 0 ∧ t = .string S0 ∧ RowC wr Z 74 [.string ⟨#[]⟩, .string ⟨#[]⟩, .string ⟨#[]⟩]) ∨ (i = .int .i64 1 ∧ t = .string S1 ∧ RowC wr Z 74 [.string V1, .string ⟨#[]⟩, .string ⟨#[]⟩]) ∨ (i = .int .i64 2 ∧ t = .string S2 ∧ RowC wr Z 74 [.string V1, .string V2, .string ⟨#[]⟩]) ∨ (i = .int .i64 3 ∧ t = .string S3 ∧ RowC wr Z 74 [.string V1, .string V2, .string V3]))

theorem cut_run (c : UInt8) (r : List UInt8) (h : r.length ≤ 281474976710656) : ∃ n : Nat, n ≤ 255 ∧ (∀ (ts : Array TypeId) (t : TypeId) (W : World), (Builtin.min_ ts t #[.int .i64 ((c.toNat : Nat) : Int), .int .i64 (r.length : Int)]).run Tryz.prog W = .ok (.int .i64 (n : Int)) W) ∧
    (∀ W : World, (Instr.slice 9 (.string (bs (c :: r))) (some (.int .i64 1)) (some (.int .i64 (1 + (n : Int)))) none).run Tryz.prog W = .ok (.string (bs (cutR (c :: r)).1)) W) ∧
    (∀ W : World, (Instr.slice 9 (.string (bs (c :: r))) (some (.int .i64 (1 + (n : Int)))) none none).run Tryz.prog W = .ok (.string (bs (cutR (c :: r)).2)) W) := by
  have hc := c.toNat_lt
  obtain ⟨n, hn⟩ : ∃ n, min c.toNat r.length = n := ⟨_, rfl⟩
  have hs1 := slice_bs (c :: r) 1 (1 + (n : Int)) 1 (1 + n) rfl (by omega) (by omega) (by rw [List.length_cons]; omega)
  have hs2 := from_bs (c :: r) (1 + (n : Int)) (1 + n) (by omega) (by rw [List.length_cons]; omega)
  have e1 : ((c :: r).drop 1).take (1 + n - 1) = (cutR (c :: r)).1 := by
    show r.take (1 + n - 1) = r.take c.toNat
    rcases Nat.le_total c.toNat r.length with h1 | h1
    · rw [show 1 + n - 1 = c.toNat by omega]
    · rw [show 1 + n - 1 = r.length by omega, List.take_length, List.take_of_length_le h1]
  have e2 : (c :: r).drop (1 + n) = (cutR (c :: r)).2 := by
    show _ = r.drop c.toNat
    rw [Nat.add_comm, List.drop_succ_cons]
    rcases Nat.le_total c.toNat r.length with h1 | h1
    · rw [show n = c.toNat by omega]
    · rw [show n = r.length by omega, List.drop_length, List.drop_of_length_le h1]
  rw [e1] at hs1
  rw [e2] at hs2
  refine ⟨n, by omega, ?_, hs1, hs2⟩
  intro ts t W
  simp [Builtin.min_, Builtin.min2]
  omega

theorem len_two (s : List UInt8) (h1 : ¬ s.length < 2) (h2 : s.length < 3) : ∃ a b, s = [a, b] := by
  match s, h1, h2 with
  | [a, b], _, _ => exact ⟨a, b, rfl⟩
  | [], h, _ => exact absurd (by simp) h
  | [_], h, _ => exact absurd (by simp) h
  | _ :: _ :: _ :: _, _, h => simp at h; omega

theorem len_three (s : List UInt8) (h : ¬ s.length < 3) : ∃ a b c r, s = a :: b :: c :: r := by
  match s, h with
  | a :: b :: c :: r, _ => exact ⟨a, b, c, r, rfl⟩
  | [], h => exact absurd (by simp) h
  | [_], h => exact absurd (by simp) h
  | [_, _], h => exact absurd (by simp) h

theorem two_none (a b : UInt8) : ¬ (chkO (rawO [a, b]) = 0 ∧ encO (rawO [a, b]) = [a, b]) := by
  intro hh
  obtain ⟨_, _, k3, _⟩ := chkO_ok hh.1
  have : nameB [] = true := k3
  exact absurd this (by decide)

theorem zeroO_wf : OpWf zeroO := by
  unfold zeroO
  exact ⟨wf_i64L (by simp), by simp, by simp, wf_i64L (by simp), by simp⟩

set_option maxRecDepth 100000 in
set_option maxHeartbeats 4000000 in
theorem refUnb_any (s : List UInt8) (w : World) (h : s.length ≤ 281474976710656) : Calls Tryz.prog 22 #[.string (bs s)] w fun e w' => e = .returned (decR s) ∧ Up w w' := by
  obtain ⟨RS, hRS⟩ : ∃ RS, decR s = RS := ⟨_, rfl⟩
  rw [hRS]
  have HRS := Lib.hid hRS
  clear hRS
  unfold decR at HRS
  rw [dec_raw] at HRS
  have hsz := bs_size s
  have HX : Hid (RowC (w.alloc (.cells #[.int .i64 0, .string ⟨#[]⟩, .string ⟨#[]⟩, .int .i64 0, .string ⟨#[]⟩] 27)) w.heap.size 27 [.int .i64 0, .string ⟨#[]⟩, .string ⟨#[]⟩, .int .i64 0, .string ⟨#[]⟩]) := heap_alloc_new w _
  have HU := Lib.hid (Up.alloc w (.cells #[.int .i64 0, .string ⟨#[]⟩, .string ⟨#[]⟩, .int .i64 0, .string ⟨#[]⟩] 27))
  by_cases h2 : s.length < 3
  · have HZ : Hid (.tuple #[.agg #[.int .i64 0, .string ⟨#[]⟩, .string ⟨#[]⟩, .int .i64 0, .string ⟨#[]⟩], .int .i64 3] = RS) := by
      have h9 := HRS.out
      by_cases h1 : s.length < 2
      · rw [if_pos h1] at h9
        exact h9
      · rw [if_neg h1] at h9
        obtain ⟨a, b, rfl⟩ := len_two s h1 h2
        rw [if_neg (two_none a b)] at h9
        exact h9
    have HDE : Hid (∀ W, Calls Tryz.prog 5 #[.agg #[.int .i64 0, .string ⟨#[]⟩, .string ⟨#[]⟩, .int .i64 0, .string ⟨#[]⟩]] W fun e w' => e = .returned (.int .i64 1) ∧ Up W w') := fun W => refDeed_any zeroO W zeroO_wf
    have d2 : decide ((s.length : Int) > 2) = false := decide_eq_false (by omega)
    have d2' : decide (2 < (s.length : Int)) = false := decide_eq_false (by omega)
    clear HRS
    generalize bs s = S at *
    generalize s.length = n at *
    go_enter Tryz.func22, Tryz.ntmps22
    go_upto_region 1 with (fail)
    generalize w.alloc (.cells #[.int .i64 0, .string ⟨#[]⟩, .string ⟨#[]⟩, .int .i64 0, .string ⟨#[]⟩] 27) = W0 at HX HU ⊢
    generalize hX : w.heap.size = X at HX ⊢
    have HXW : Hid (w.heap.size ≤ X) := Nat.le_of_eq hX
    clear hX
    have HY : Hid (RowC (W0.alloc (.cells #[.int .i64 0, .string ⟨#[]⟩, .string ⟨#[]⟩, .int .i64 0, .string ⟨#[]⟩] 27)) W0.heap.size 27 [.int .i64 0, .string ⟨#[]⟩, .string ⟨#[]⟩, .int .i64 0, .string ⟨#[]⟩]) := heap_alloc_new W0 _
    replace HX := Lib.hid (HX.out.up (Up.alloc W0 (.cells #[.int .i64 0, .string ⟨#[]⟩, .string ⟨#[]⟩, .int .i64 0, .string ⟨#[]⟩] 27)))
    replace HU := Lib.hid (HU.out.trans (Up.alloc W0 (.cells #[.int .i64 0, .string ⟨#[]⟩, .string ⟨#[]⟩, .int .i64 0, .string ⟨#[]⟩] 27)))
    go_upto_region 2 with (fail)
    generalize W0.alloc (.cells #[.int .i64 0, .string ⟨#[]⟩, .string ⟨#[]⟩, .int .i64 0, .string ⟨#[]⟩] 27) = W1 at HX HY HU ⊢
    generalize W0.heap.size = Y at HY ⊢
    have y0 := HY.out.cell (j := 0) rfl
    have y1 := HY.out.cell (j := 1) rfl
    have y2 := HY.out.cell (j := 2) rfl
    have y3 := HY.out.cell (j := 3) rfl
    have y4 := HY.out.cell (j := 4) rfl
    go_wp2_with fail
    refine (HDE.out _).mono ?_
    rintro e w2 ⟨rfl, u2⟩
    replace HX := Lib.hid (HX.out.up u2)
    replace HU := Lib.hid (HU.out.trans u2)
    clear u2 y0 y1 y2 y3 y4
    have r0 := HX.out.frozen 0
    have r1 := HX.out.frozen 1
    have r2 := HX.out.frozen 2
    have r3 := HX.out.frozen 3
    have r4 := HX.out.frozen 4
    have c0 := HX.out.cell (j := 0) rfl
    have c1 := HX.out.cell (j := 1) rfl
    have c2 := HX.out.cell (j := 2) rfl
    have c3 := HX.out.cell (j := 3) rfl
    have c4 := HX.out.cell (j := 4) rfl
    go_wp2_with fail
    have hz := ((((HX.out.set 0 (.int .i64 0)).set 1 (.string ⟨#[]⟩)).set 2 (.string ⟨#[]⟩)).set 3 (.int .i64 0)).set 4 (.string ⟨#[]⟩)
    have z0 := hz.cell (j := 0) rfl
    have z1 := hz.cell (j := 1) rfl
    have z2 := hz.cell (j := 2) rfl
    have z3 := hz.cell (j := 3) rfl
    have z4 := hz.cell (j := 4) rfl
    have HUZ := Lib.hid (up5 (a := .int .i64 0) (b := .string ⟨#[]⟩) (c := .string ⟨#[]⟩) (d := .int .i64 0) (e := .string ⟨#[]⟩) HU.out HXW.out)
    generalize (((((w2).setCell ⟨X, 0, none⟩ (.int .i64 0)).setCell ⟨X, 1, none⟩ (.string ⟨#[]⟩)).setCell ⟨X, 2, none⟩ (.string ⟨#[]⟩)).setCell ⟨X, 3, none⟩ (.int .i64 0)).setCell ⟨X, 4, none⟩ (.string ⟨#[]⟩) = WZ at z0 z1 z2 z3 z4 HUZ ⊢
    exact bodyPost_ret (v := .tuple #[.agg #[.int .i64 0, .string ⟨#[]⟩, .string ⟨#[]⟩, .int .i64 0, .string ⟨#[]⟩], .int .i64 3]) (by simp [results, Tryz.results22, go_sem, z0, z1, z2, z3, z4]) rfl ⟨congrArg Ending.returned HZ.out, HUZ.out⟩
  · obtain ⟨a, b, c0, r0, rfl⟩ := len_three s h2
    clear h2
    have hk := a.toNat_lt
    have ha := b.toNat_lt
    have hx0 : ∀ W : World, (Instr.index 9 (.string (bs (a :: b :: c0 :: r0))) (.int .i64 0)).run Tryz.prog W = .ok (.int .u8 ((a.toNat : Nat) : Int)) W := index_bs (a :: b :: c0 :: r0) 0 (by simp)
    have hx1 : ∀ W : World, (Instr.index 9 (.string (bs (a :: b :: c0 :: r0))) (.int .i64 1)).run Tryz.prog W = .ok (.int .u8 ((b.toNat : Nat) : Int)) W := index_bs (a :: b :: c0 :: r0) 1 (by simp)
    have hw0 : wrap64 ((a.toNat : Nat) : Int) = ((a.toNat : Nat) : Int) := by unfold wrap64; omega
    have hw1 : wrap64 ((b.toNat : Nat) : Int) = ((b.toNat : Nat) : Int) := by unfold wrap64; omega
    have hs2 := from_bs (a :: b :: c0 :: r0) 2 2 rfl (by simp)
    have hd2 : (a :: b :: c0 :: r0).drop 2 = c0 :: r0 := rfl
    rw [hd2] at hs2
    simp only [List.length_cons] at h hsz
    have hle := rawO_le (a :: b :: c0 :: r0)
    have HDE0 := Lib.hid (fun W => refDeed_any (rawO (a :: b :: c0 :: r0)) W ⟨wf_i64L (by omega), by omega, by omega, wf_i64L (by omega), by omega⟩)
    have HBO0 := Lib.hid (fun hc W => refBody_any (rawO (a :: b :: c0 :: r0)) W hc)
    have hraw : rawO (a :: b :: c0 :: r0) = ⟨((a.toNat : Nat) : Int), (cutR (c0 :: r0)).1, (cutR (cutR (c0 :: r0)).2).1, ((b.toNat : Nat) : Int), (cutR (cutR (cutR (c0 :: r0)).2).2).1⟩ := rfl
    rw [if_neg (by simp)] at HRS
    rw [hraw] at HRS HDE0 HBO0
    have c1 := cutR_le (c0 :: r0)
    have c2 := cutR_le (cutR (c0 :: r0)).2
    rw [List.length_cons] at c1
    have hl1 : (cutR (c0 :: r0)).2.length ≤ 281474976710656 := by omega
    have hl2 : (cutR (cutR (c0 :: r0)).2).2.length ≤ 281474976710656 := by omega
    clear hraw hle c1 c2 hd2 hk ha
    obtain ⟨D, hD⟩ : ∃ D, D = (⟨((a.toNat : Nat) : Int), (cutR (c0 :: r0)).1, (cutR (cutR (c0 :: r0)).2).1, ((b.toNat : Nat) : Int), (cutR (cutR (cutR (c0 :: r0)).2).2).1⟩ : Opn) := ⟨_, rfl⟩
    have HD := Lib.hid hD
    rw [← hD] at HRS
    obtain ⟨C, hC⟩ : ∃ C, chkO D = C := ⟨_, rfl⟩
    obtain ⟨E, hE⟩ : ∃ E, encO D = E := ⟨_, rfl⟩
    rw [← hD, hC] at HDE0
    rw [← hD, hC, hE] at HBO0
    rw [hC, hE] at HRS
    have HDE : Hid (∀ W, Calls Tryz.prog 5 #[.agg #[.int .i64 ((a.toNat : Nat) : Int), .string (bs (cutR (c0 :: r0)).1), .string (bs (cutR (cutR (c0 :: r0)).2).1), .int .i64 ((b.toNat : Nat) : Int), .string (bs (cutR (cutR (cutR (c0 :: r0)).2).2).1)]] W fun e w' => e = .returned (.int .i64 C) ∧ Up W w') := by
      have h9 := HDE0.out
      rw [hD] at h9
      exact h9
    have HBO : Hid (C = 0 → ∀ W, Calls Tryz.prog 7 #[.agg #[.int .i64 ((a.toNat : Nat) : Int), .string (bs (cutR (c0 :: r0)).1), .string (bs (cutR (cutR (c0 :: r0)).2).1), .int .i64 ((b.toNat : Nat) : Int), .string (bs (cutR (cutR (cutR (c0 :: r0)).2).2).1)]] W fun e w' => e = .returned (.string (bs E)) ∧ Up W w') := by
      have h9 := HBO0.out
      rw [hD] at h9
      exact h9
    have HYES : Hid (C = 0 → E = a :: b :: c0 :: r0 → (.tuple #[.agg #[.int .i64 ((a.toNat : Nat) : Int), .string (bs (cutR (c0 :: r0)).1), .string (bs (cutR (cutR (c0 :: r0)).2).1), .int .i64 ((b.toNat : Nat) : Int), .string (bs (cutR (cutR (cutR (c0 :: r0)).2).2).1)], .int .i64 0] : Value) = RS) := by
      intro h1 h2
      have h9 := HRS.out
      rw [if_pos ⟨h1, h2⟩, hD] at h9
      exact h9
    have HNO : Hid (¬ (C = 0 ∧ E = a :: b :: c0 :: r0) → (.tuple #[.agg #[.int .i64 0, .string ⟨#[]⟩, .string ⟨#[]⟩, .int .i64 0, .string ⟨#[]⟩], .int .i64 3] : Value) = RS) := by
      intro h1
      have h9 := HRS.out
      rw [if_neg h1] at h9
      exact h9
    have HTQ := Lib.hid (txt_eqO E (a :: b :: c0 :: r0))
    clear HRS HDE0 HBO0 hD HD hC hE
    obtain ⟨n0, hn0, hm0, ht0, hv0⟩ := cut_run c0 r0 (by omega)
    have hix0 : ∀ W : World, (Instr.index 9 (.string (bs (c0 :: r0))) (.int .i64 0)).run Tryz.prog W = .ok (.int .u8 ((c0.toNat : Nat) : Int)) W := index_bs (c0 :: r0) 0 (by simp)
    have hsz0 := bs_size (c0 :: r0)
    rw [List.length_cons] at hsz0
    have hne0 := not_empty (c0 :: r0) (by simp)
    have hwc0 : wrap64 ((c0.toNat : Nat) : Int) = ((c0.toNat : Nat) : Int) := by have := c0.toNat_lt; unfold wrap64; omega
    have HC2 : Hid ((cutR (c0 :: r0)).2 = [] ∨ ∃ c r, (cutR (c0 :: r0)).2 = c :: r) := by
      show _ ∨ _
      cases (cutR (c0 :: r0)).2 with
      | nil => exact .inl rfl
      | cons c r => exact .inr ⟨c, r, rfl⟩
    have HC3 : Hid ((cutR (cutR (c0 :: r0)).2).2 = [] ∨ ∃ c r, (cutR (cutR (c0 :: r0)).2).2 = c :: r) := by
      show _ ∨ _
      cases (cutR (cutR (c0 :: r0)).2).2 with
      | nil => exact .inl rfl
      | cons c r => exact .inr ⟨c, r, rfl⟩
    have HV2 : Hid (∀ c r, (cutR (c0 :: r0)).2 = c :: r → bs (cutR (c :: r)).1 = bs (cutR (cutR (c0 :: r0)).2).1 ∧ bs (cutR (c :: r)).2 = bs (cutR (cutR (c0 :: r0)).2).2) := fun c r h => by rw [h]; exact ⟨rfl, rfl⟩
    have HN2 : Hid ((cutR (c0 :: r0)).2 = [] → bs (cutR (cutR (c0 :: r0)).2).1 = ⟨#[]⟩ ∧ (cutR (cutR (c0 :: r0)).2).2 = []) := fun h => by rw [h]; exact ⟨rfl, rfl⟩
    have HV3 : Hid (∀ c r, (cutR (cutR (c0 :: r0)).2).2 = c :: r → bs (cutR (c :: r)).1 = bs (cutR (cutR (cutR (c0 :: r0)).2).2).1 ∧ bs (cutR (c :: r)).2 = bs (cutR (cutR (cutR (c0 :: r0)).2).2).2) := fun c r h => by rw [h]; exact ⟨rfl, rfl⟩
    have HN3 : Hid ((cutR (cutR (c0 :: r0)).2).2 = [] → bs (cutR (cutR (cutR (c0 :: r0)).2).2).1 = ⟨#[]⟩) := fun h => by rw [h]; rfl
    generalize bs (cutR (cutR (cutR (c0 :: r0)).2).2).2 = S3 at *
    generalize bs (cutR (cutR (cutR (c0 :: r0)).2).2).1 = V3 at *
    generalize (cutR (cutR (c0 :: r0)).2).2 = U2 at *
    generalize bs (cutR (cutR (c0 :: r0)).2).1 = V2 at *
    generalize (cutR (c0 :: r0)).2 = U1 at *
    obtain ⟨L, hL⟩ : ∃ L, r0.length = L := ⟨_, rfl⟩
    rw [hL] at h hsz hsz0 hm0
    clear hL
    generalize ((a.toNat : Nat) : Int) = KA at *
    generalize ((b.toNat : Nat) : Int) = KB at *
    generalize bs (cutR (c0 :: r0)).1 = V1 at *
    have d3 : decide ((L : Int) + 1 + 1 + 1 > 2) = true := decide_eq_true (by omega)
    have d3' : decide (2 < (L : Int) + 1 + 1 + 1) = true := decide_eq_true (by omega)
    go_enter Tryz.func22, Tryz.ntmps22
    go_upto_region 1 with (fail)
    generalize w.alloc (.cells #[.int .i64 0, .string ⟨#[]⟩, .string ⟨#[]⟩, .int .i64 0, .string ⟨#[]⟩] 27) = W0 at HX HU ⊢
    generalize hX : w.heap.size = X at HX ⊢
    have HXW : Hid (w.heap.size ≤ X) := Nat.le_of_eq hX
    clear hX
    have HY : Hid (RowC (W0.alloc (.cells #[.int .i64 0, .string ⟨#[]⟩, .string ⟨#[]⟩, .int .i64 0, .string ⟨#[]⟩] 27)) W0.heap.size 27 [.int .i64 0, .string ⟨#[]⟩, .string ⟨#[]⟩, .int .i64 0, .string ⟨#[]⟩]) := heap_alloc_new W0 _
    have HXY : Hid (X ≠ W0.heap.size) := Nat.ne_of_lt HX.out.lt
    have HYW : Hid (w.heap.size ≤ W0.heap.size) := HU.out.size
    replace HX := Lib.hid (HX.out.up (Up.alloc W0 (.cells #[.int .i64 0, .string ⟨#[]⟩, .string ⟨#[]⟩, .int .i64 0, .string ⟨#[]⟩] 27)))
    replace HU := Lib.hid (HU.out.trans (Up.alloc W0 (.cells #[.int .i64 0, .string ⟨#[]⟩, .string ⟨#[]⟩, .int .i64 0, .string ⟨#[]⟩] 27)))
    go_upto_region 2 with (fail)
    generalize W0.alloc (.cells #[.int .i64 0, .string ⟨#[]⟩, .string ⟨#[]⟩, .int .i64 0, .string ⟨#[]⟩] 27) = W1 at HX HY HU ⊢
    generalize W0.heap.size = Y at HY HXY HYW ⊢
    have f0 := HY.out.frozen 0
    have f3 := HY.out.frozen 3
    have g0 := HY.out.cell (j := 0) rfl
    have g3 := HY.out.cell (j := 3) rfl
    go_upto_region 3 with (fail)
    go_region
    have HY2 : Hid (RowC ((W1.setCell ⟨Y, 0, none⟩ (.int .i64 KA)).setCell ⟨Y, 3, none⟩ (.int .i64 KB)).drew Y 27 [.int .i64 KA, .string ⟨#[]⟩, .string ⟨#[]⟩, .int .i64 KB, .string ⟨#[]⟩]) := RowC.up ((HY.out.set 0 (.int .i64 KA)).set 3 (.int .i64 KB)) (Up.drew _)
    have HX2 : Hid (RowC ((W1.setCell ⟨Y, 0, none⟩ (.int .i64 KA)).setCell ⟨Y, 3, none⟩ (.int .i64 KB)).drew X 27 [.int .i64 0, .string ⟨#[]⟩, .string ⟨#[]⟩, .int .i64 0, .string ⟨#[]⟩]) := RowC.up ((HX.out.other HXY.out 0 (.int .i64 KA)).other HXY.out 3 (.int .i64 KB)) (Up.drew _)
    have HU2 := Lib.hid ((up1 (k := 3) (a := .int .i64 KB) (up1 (k := 0) (a := .int .i64 KA) HU.out HYW.out) HYW.out).trans (Up.drew _))
    clear HX HY HU f0 f3 g0 g3 hx0 hx1 hw0 hw1
    generalize ((W1.setCell ⟨Y, 0, none⟩ (.int .i64 KA)).setCell ⟨Y, 3, none⟩ (.int .i64 KB)).drew = W2 at HX2 HY2 HU2 ⊢
    go_upto_region 5 with (fail)
    go_upto_region 6 with (fail)
    have HZ : Hid (RowC (W2.alloc (.cells #[.string ⟨#[]⟩, .string ⟨#[]⟩, .string ⟨#[]⟩] 74)) W2.heap.size 74 [.string ⟨#[]⟩, .string ⟨#[]⟩, .string ⟨#[]⟩]) := heap_alloc_new W2 _
    have HXZ : Hid (X ≠ W2.heap.size) := Nat.ne_of_lt HX2.out.lt
    have HYZ : Hid (Y ≠ W2.heap.size) := Nat.ne_of_lt HY2.out.lt
    have HZG : Hid (w.heap.size ≤ W2.heap.size) := HU2.out.size
    have HX3 := Lib.hid (HX2.out.up (Up.alloc W2 (.cells #[.string ⟨#[]⟩, .string ⟨#[]⟩, .string ⟨#[]⟩] 74)))
    have HY3 := Lib.hid (HY2.out.up (Up.alloc W2 (.cells #[.string ⟨#[]⟩, .string ⟨#[]⟩, .string ⟨#[]⟩] 74)))
    have HU3 := Lib.hid (HU2.out.trans (Up.alloc W2 (.cells #[.string ⟨#[]⟩, .string ⟨#[]⟩, .string ⟨#[]⟩] 74)))
    clear HX2 HY2 HU2
    generalize W2.alloc (.cells #[.string ⟨#[]⟩, .string ⟨#[]⟩, .string ⟨#[]⟩] 74) = W3 at HX3 HY3 HZ HU3 ⊢
    generalize W2.heap.size = Z at HZ HXZ HYZ HZG ⊢
    have HSTA : Hid (UnbRel w X Y Z KA KB (bs (c0 :: r0)) (bs U1) (bs U2) S3 V1 V2 V3 (.string (bs (c0 :: r0))) (.int .i64 0) W3) := ⟨HX3.out, HY3.out, HU3.out, .inl ⟨rfl, rfl, HZ.out⟩⟩
    clear HX3 HY3 HZ HU3
    go_wp2_with fail
    go_loopw [5, 22] (fun t i wr => UnbRel w X Y Z KA KB (bs (c0 :: r0)) (bs U1) (bs U2) S3 V1 V2 V3 t i wr) (fun _ i _ => 3 - (intOf i).toNat)
    case atStart => exact HSTA.out
    case round =>
      clear HSTA hsz hs2 d3 d3'
      obtain ⟨hx, hy, hu, ⟨rfl, rfl, hz⟩ | ⟨rfl, rfl, hz⟩ | ⟨rfl, rfl, hz⟩ | ⟨rfl, rfl, hz⟩⟩ := hrel
      · have HX1 := Lib.hid hx
        have HY1 := Lib.hid hy
        have HU1 := Lib.hid hu
        have HZ1 := Lib.hid hz
        clear hx hy hu hz
        have f0 := HZ1.out.frozen 0
        have g0 := HZ1.out.cell (j := 0) rfl
        have hwn : IntKind.i64.wrap (1 + (n0 : Int)) = 1 + (n0 : Int) := by have := hn0; exact IntWalk.i64_in _ (by omega)
        have HWN := Lib.hid hwn
        clear hwn
        go_upto_region 11 with (fail)
        have hwn := HWN.out
        go_region
        have HZ2 : Hid (RowC (wr.setCell ⟨Z, 0, none⟩ (.string V1)).drew Z 74 [.string V1, .string ⟨#[]⟩, .string ⟨#[]⟩]) := RowC.up (HZ1.out.set 0 (.string V1)) (Up.drew _)
        have HX2 : Hid (RowC (wr.setCell ⟨Z, 0, none⟩ (.string V1)).drew X 27 [.int .i64 0, .string ⟨#[]⟩, .string ⟨#[]⟩, .int .i64 0, .string ⟨#[]⟩]) := RowC.up (HX1.out.other HXZ.out 0 (.string V1)) (Up.drew _)
        have HY2 : Hid (RowC (wr.setCell ⟨Z, 0, none⟩ (.string V1)).drew Y 27 [.int .i64 KA, .string ⟨#[]⟩, .string ⟨#[]⟩, .int .i64 KB, .string ⟨#[]⟩]) := RowC.up (HY1.out.other HYZ.out 0 (.string V1)) (Up.drew _)
        have HU2 := Lib.hid ((up1 (k := 0) (a := .string V1) HU1.out HZG.out).trans (Up.drew _))
        clear f0 g0 hwn
        generalize (wr.setCell ⟨Z, 0, none⟩ (.string V1)).drew = W4 at HX2 HY2 HZ2 HU2 ⊢
        go_wp2_with fail
        go_roundw
        case rel => exact ⟨HX2.out, HY2.out, HU2.out, .inr (.inl ⟨rfl, rfl, HZ2.out⟩)⟩
        case measure => simp only [intOf]; omega
      · have HX1 := Lib.hid hx
        have HY1 := Lib.hid hy
        have HU1 := Lib.hid hu
        have HZ1 := Lib.hid hz
        clear hx hy hu hz
        rcases HC2.out with hE | ⟨c1, r1, hE⟩
        · have HZ2 : Hid (RowC wr Z 74 [.string V1, .string V2, .string V3]) := by
            have h9 := HN2.out hE
            rw [h9.1, HN3.out h9.2]
            exact HZ1.out
          have hem : (bs U1) = ⟨#[]⟩ := by rw [hE]; rfl
          rw [hem]
          go_wp2_with fail
          have g0 := HZ2.out.cell (j := 0) rfl
          have g1 := HZ2.out.cell (j := 1) rfl
          have g2 := HZ2.out.cell (j := 2) rfl
          have y1 := HY1.out.cell (j := 1) rfl
          have y2 := HY1.out.cell (j := 2) rfl
          have y4 := HY1.out.cell (j := 4) rfl
          have f1 := HY1.out.frozen 1
          have f2 := HY1.out.frozen 2
          have f4 := HY1.out.frozen 4
          have n1 : Y ≠ Z := HYZ.out
          have n2 : Z ≠ Y := fun h => HYZ.out h.symm
          go_region
          clear n1 n2
          have HY3 : Hid (RowC (((wr.setCell ⟨Y, 1, none⟩ (.string V1)).setCell ⟨Y, 2, none⟩ (.string V2)).setCell ⟨Y, 4, none⟩ (.string V3)).drew Y 27 [.int .i64 KA, .string V1, .string V2, .int .i64 KB, .string V3]) := RowC.up (((HY1.out.set 1 (.string V1)).set 2 (.string V2)).set 4 (.string V3)) (Up.drew _)
          have HX3 : Hid (RowC (((wr.setCell ⟨Y, 1, none⟩ (.string V1)).setCell ⟨Y, 2, none⟩ (.string V2)).setCell ⟨Y, 4, none⟩ (.string V3)).drew X 27 [.int .i64 0, .string ⟨#[]⟩, .string ⟨#[]⟩, .int .i64 0, .string ⟨#[]⟩]) := RowC.up (((HX1.out.other HXY.out 1 (.string V1)).other HXY.out 2 (.string V2)).other HXY.out 4 (.string V3)) (Up.drew _)
          have HU3 := Lib.hid ((up1 (k := 4) (a := .string V3) (up1 (k := 2) (a := .string V2) (up1 (k := 1) (a := .string V1) HU1.out HYW.out) HYW.out) HYW.out).trans (Up.drew _))
          clear g0 g1 g2 y1 y2 y4 f1 f2 f4
          generalize (((wr.setCell ⟨Y, 1, none⟩ (.string V1)).setCell ⟨Y, 2, none⟩ (.string V2)).setCell ⟨Y, 4, none⟩ (.string V3)).drew = W5 at HX3 HY3 HU3 ⊢
          have y0 := HY3.out.cell (j := 0) rfl
          have y1 := HY3.out.cell (j := 1) rfl
          have y2 := HY3.out.cell (j := 2) rfl
          have y3 := HY3.out.cell (j := 3) rfl
          have y4 := HY3.out.cell (j := 4) rfl
          go_wp2_with fail
          refine (HDE.out _).mono ?_
          rintro e w6 ⟨rfl, u6⟩
          replace HY3 := Lib.hid (HY3.out.up u6)
          replace HX3 := Lib.hid (HX3.out.up u6)
          replace HU3 := Lib.hid (HU3.out.trans u6)
          clear u6 y0 y1 y2 y3 y4
          by_cases hc : C = 0
          · subst hc
            have HB9 := Lib.hid (HBO.out (by first | rfl | trivial))
            have y0 := HY3.out.cell (j := 0) rfl
            have y1 := HY3.out.cell (j := 1) rfl
            have y2 := HY3.out.cell (j := 2) rfl
            have y3 := HY3.out.cell (j := 3) rfl
            have y4 := HY3.out.cell (j := 4) rfl
            go_wp2_with fail
            refine (HB9.out _).mono ?_
            rintro e w7 ⟨rfl, u7⟩
            replace HY3 := Lib.hid (HY3.out.up u7)
            replace HX3 := Lib.hid (HX3.out.up u7)
            replace HU3 := Lib.hid (HU3.out.trans u7)
            clear u7 y0 y1 y2 y3 y4 HB9
            by_cases hes : E = a :: b :: c0 :: r0
            · have hee : ((bs E).toList == (bs (a :: b :: c0 :: r0)).toList) = true := by rw [HTQ.out]; simpa using hes
              have HQ := Lib.hid (HYES.out (by first | rfl | trivial) hes)
              clear hes
              generalize bs E = EB at *
              generalize bs (a :: b :: c0 :: r0) = SB at *
              have y0 := HY3.out.cell (j := 0) rfl
              have y1 := HY3.out.cell (j := 1) rfl
              have y2 := HY3.out.cell (j := 2) rfl
              have y3 := HY3.out.cell (j := 3) rfl
              have y4 := HY3.out.cell (j := 4) rfl
              have r0 := HX3.out.frozen 0
              have r1 := HX3.out.frozen 1
              have r2 := HX3.out.frozen 2
              have r3 := HX3.out.frozen 3
              have r4 := HX3.out.frozen 4
              have c0 := HX3.out.cell (j := 0) rfl
              have c1 := HX3.out.cell (j := 1) rfl
              have c2 := HX3.out.cell (j := 2) rfl
              have c3 := HX3.out.cell (j := 3) rfl
              have c4 := HX3.out.cell (j := 4) rfl
              go_wp2_with fail
              have hz := ((((HX3.out.set 0 (.int .i64 KA)).set 1 (.string V1)).set 2 (.string V2)).set 3 (.int .i64 KB)).set 4 (.string V3)
              have z0 := hz.cell (j := 0) rfl
              have z1 := hz.cell (j := 1) rfl
              have z2 := hz.cell (j := 2) rfl
              have z3 := hz.cell (j := 3) rfl
              have z4 := hz.cell (j := 4) rfl
              have HUZ := Lib.hid (up5 (a := .int .i64 KA) (b := .string V1) (c := .string V2) (d := .int .i64 KB) (e := .string V3) HU3.out HXW.out)
              generalize (((((w7).setCell ⟨X, 0, none⟩ (.int .i64 KA)).setCell ⟨X, 1, none⟩ (.string V1)).setCell ⟨X, 2, none⟩ (.string V2)).setCell ⟨X, 3, none⟩ (.int .i64 KB)).setCell ⟨X, 4, none⟩ (.string V3) = WZ at z0 z1 z2 z3 z4 HUZ ⊢
              exact bodyPost_ret (v := .tuple #[.agg #[.int .i64 KA, .string V1, .string V2, .int .i64 KB, .string V3], .int .i64 0]) (by simp [results, Tryz.results22, go_sem, z0, z1, z2, z3, z4]) rfl ⟨congrArg Ending.returned HQ.out, HUZ.out⟩
            · have hee : ((bs E).toList == (bs (a :: b :: c0 :: r0)).toList) = false := by rw [HTQ.out]; simpa using hes
              have HQ := Lib.hid (HNO.out (fun h => hes h.2))
              clear hes
              generalize bs E = EB at *
              generalize bs (a :: b :: c0 :: r0) = SB at *
              have r0 := HX3.out.frozen 0
              have r1 := HX3.out.frozen 1
              have r2 := HX3.out.frozen 2
              have r3 := HX3.out.frozen 3
              have r4 := HX3.out.frozen 4
              have c0 := HX3.out.cell (j := 0) rfl
              have c1 := HX3.out.cell (j := 1) rfl
              have c2 := HX3.out.cell (j := 2) rfl
              have c3 := HX3.out.cell (j := 3) rfl
              have c4 := HX3.out.cell (j := 4) rfl
              go_wp2_with fail
              have hz := ((((HX3.out.set 0 (.int .i64 0)).set 1 (.string ⟨#[]⟩)).set 2 (.string ⟨#[]⟩)).set 3 (.int .i64 0)).set 4 (.string ⟨#[]⟩)
              have z0 := hz.cell (j := 0) rfl
              have z1 := hz.cell (j := 1) rfl
              have z2 := hz.cell (j := 2) rfl
              have z3 := hz.cell (j := 3) rfl
              have z4 := hz.cell (j := 4) rfl
              have HUZ := Lib.hid (up5 (a := .int .i64 0) (b := .string ⟨#[]⟩) (c := .string ⟨#[]⟩) (d := .int .i64 0) (e := .string ⟨#[]⟩) HU3.out HXW.out)
              generalize (((((w7).setCell ⟨X, 0, none⟩ (.int .i64 0)).setCell ⟨X, 1, none⟩ (.string ⟨#[]⟩)).setCell ⟨X, 2, none⟩ (.string ⟨#[]⟩)).setCell ⟨X, 3, none⟩ (.int .i64 0)).setCell ⟨X, 4, none⟩ (.string ⟨#[]⟩) = WZ at z0 z1 z2 z3 z4 HUZ ⊢
              exact bodyPost_ret (v := .tuple #[.agg #[.int .i64 0, .string ⟨#[]⟩, .string ⟨#[]⟩, .int .i64 0, .string ⟨#[]⟩], .int .i64 3]) (by simp [results, Tryz.results22, go_sem, z0, z1, z2, z3, z4]) rfl ⟨congrArg Ending.returned HQ.out, HUZ.out⟩
          · have hcz : (C == 0) = false := by rw [beq_eq_false_iff_ne]; exact hc
            have HQ := Lib.hid (HNO.out (fun h => hc h.1))
            have r0 := HX3.out.frozen 0
            have r1 := HX3.out.frozen 1
            have r2 := HX3.out.frozen 2
            have r3 := HX3.out.frozen 3
            have r4 := HX3.out.frozen 4
            have c0 := HX3.out.cell (j := 0) rfl
            have c1 := HX3.out.cell (j := 1) rfl
            have c2 := HX3.out.cell (j := 2) rfl
            have c3 := HX3.out.cell (j := 3) rfl
            have c4 := HX3.out.cell (j := 4) rfl
            go_wp2_with fail
            have hz := ((((HX3.out.set 0 (.int .i64 0)).set 1 (.string ⟨#[]⟩)).set 2 (.string ⟨#[]⟩)).set 3 (.int .i64 0)).set 4 (.string ⟨#[]⟩)
            have z0 := hz.cell (j := 0) rfl
            have z1 := hz.cell (j := 1) rfl
            have z2 := hz.cell (j := 2) rfl
            have z3 := hz.cell (j := 3) rfl
            have z4 := hz.cell (j := 4) rfl
            have HUZ := Lib.hid (up5 (a := .int .i64 0) (b := .string ⟨#[]⟩) (c := .string ⟨#[]⟩) (d := .int .i64 0) (e := .string ⟨#[]⟩) HU3.out HXW.out)
            generalize (((((w6).setCell ⟨X, 0, none⟩ (.int .i64 0)).setCell ⟨X, 1, none⟩ (.string ⟨#[]⟩)).setCell ⟨X, 2, none⟩ (.string ⟨#[]⟩)).setCell ⟨X, 3, none⟩ (.int .i64 0)).setCell ⟨X, 4, none⟩ (.string ⟨#[]⟩) = WZ at z0 z1 z2 z3 z4 HUZ ⊢
            exact bodyPost_ret (v := .tuple #[.agg #[.int .i64 0, .string ⟨#[]⟩, .string ⟨#[]⟩, .int .i64 0, .string ⟨#[]⟩], .int .i64 3]) (by simp [results, Tryz.results22, go_sem, z0, z1, z2, z3, z4]) rfl ⟨congrArg Ending.returned HQ.out, HUZ.out⟩
        · obtain ⟨hva, hvb⟩ := HV2.out c1 r1 hE
          rw [hE] at hl1
          rw [List.length_cons] at hl1
          obtain ⟨n1, hn1, hm1, ht1, hv1⟩ := cut_run c1 r1 (by omega)
          rw [hva] at ht1
          rw [hvb] at hv1
          have hix1 : ∀ W : World, (Instr.index 9 (.string (bs (c1 :: r1))) (.int .i64 0)).run Tryz.prog W = .ok (.int .u8 ((c1.toNat : Nat) : Int)) W := index_bs (c1 :: r1) 0 (by simp)
          have hsz1 := bs_size (c1 :: r1)
          rw [List.length_cons] at hsz1
          have hne1 := not_empty (c1 :: r1) (by simp)
          have hwc1 : wrap64 ((c1.toNat : Nat) : Int) = ((c1.toNat : Nat) : Int) := by have := c1.toNat_lt; unfold wrap64; omega
          rw [hE]
          obtain ⟨L1, hL1⟩ : ∃ L, r1.length = L := ⟨_, rfl⟩
          rw [hL1] at hl1 hsz1 hm1
          clear hE hL1 hva hvb
          have f1 := HZ1.out.frozen 1
          have g1 := HZ1.out.cell (j := 1) rfl
          have hwn : IntKind.i64.wrap (1 + (n1 : Int)) = 1 + (n1 : Int) := by have := hn1; exact IntWalk.i64_in _ (by omega)
          have HWN := Lib.hid hwn
          clear hwn
          go_upto_region 11 with (fail)
          have hwn := HWN.out
          go_region
          have HZ2 : Hid (RowC (wr.setCell ⟨Z, 1, none⟩ (.string V2)).drew Z 74 [.string V1, .string V2, .string ⟨#[]⟩]) := RowC.up (HZ1.out.set 1 (.string V2)) (Up.drew _)
          have HX2 : Hid (RowC (wr.setCell ⟨Z, 1, none⟩ (.string V2)).drew X 27 [.int .i64 0, .string ⟨#[]⟩, .string ⟨#[]⟩, .int .i64 0, .string ⟨#[]⟩]) := RowC.up (HX1.out.other HXZ.out 1 (.string V2)) (Up.drew _)
          have HY2 : Hid (RowC (wr.setCell ⟨Z, 1, none⟩ (.string V2)).drew Y 27 [.int .i64 KA, .string ⟨#[]⟩, .string ⟨#[]⟩, .int .i64 KB, .string ⟨#[]⟩]) := RowC.up (HY1.out.other HYZ.out 1 (.string V2)) (Up.drew _)
          have HU2 := Lib.hid ((up1 (k := 1) (a := .string V2) HU1.out HZG.out).trans (Up.drew _))
          clear f1 g1 hwn
          generalize (wr.setCell ⟨Z, 1, none⟩ (.string V2)).drew = W4 at HX2 HY2 HZ2 HU2 ⊢
          go_wp2_with fail
          go_roundw
          case rel => exact ⟨HX2.out, HY2.out, HU2.out, .inr (.inr (.inl ⟨rfl, rfl, HZ2.out⟩))⟩
          case measure => simp only [intOf]; omega
      · have HX1 := Lib.hid hx
        have HY1 := Lib.hid hy
        have HU1 := Lib.hid hu
        have HZ1 := Lib.hid hz
        clear hx hy hu hz
        rcases HC3.out with hE | ⟨c2, r2, hE⟩
        · have HZ2 : Hid (RowC wr Z 74 [.string V1, .string V2, .string V3]) := by
            rw [HN3.out hE]
            exact HZ1.out
          have hem : (bs U2) = ⟨#[]⟩ := by rw [hE]; rfl
          rw [hem]
          go_wp2_with fail
          have g0 := HZ2.out.cell (j := 0) rfl
          have g1 := HZ2.out.cell (j := 1) rfl
          have g2 := HZ2.out.cell (j := 2) rfl
          have y1 := HY1.out.cell (j := 1) rfl
          have y2 := HY1.out.cell (j := 2) rfl
          have y4 := HY1.out.cell (j := 4) rfl
          have f1 := HY1.out.frozen 1
          have f2 := HY1.out.frozen 2
          have f4 := HY1.out.frozen 4
          have n1 : Y ≠ Z := HYZ.out
          have n2 : Z ≠ Y := fun h => HYZ.out h.symm
          go_region
          clear n1 n2
          have HY3 : Hid (RowC (((wr.setCell ⟨Y, 1, none⟩ (.string V1)).setCell ⟨Y, 2, none⟩ (.string V2)).setCell ⟨Y, 4, none⟩ (.string V3)).drew Y 27 [.int .i64 KA, .string V1, .string V2, .int .i64 KB, .string V3]) := RowC.up (((HY1.out.set 1 (.string V1)).set 2 (.string V2)).set 4 (.string V3)) (Up.drew _)
          have HX3 : Hid (RowC (((wr.setCell ⟨Y, 1, none⟩ (.string V1)).setCell ⟨Y, 2, none⟩ (.string V2)).setCell ⟨Y, 4, none⟩ (.string V3)).drew X 27 [.int .i64 0, .string ⟨#[]⟩, .string ⟨#[]⟩, .int .i64 0, .string ⟨#[]⟩]) := RowC.up (((HX1.out.other HXY.out 1 (.string V1)).other HXY.out 2 (.string V2)).other HXY.out 4 (.string V3)) (Up.drew _)
          have HU3 := Lib.hid ((up1 (k := 4) (a := .string V3) (up1 (k := 2) (a := .string V2) (up1 (k := 1) (a := .string V1) HU1.out HYW.out) HYW.out) HYW.out).trans (Up.drew _))
          clear g0 g1 g2 y1 y2 y4 f1 f2 f4
          generalize (((wr.setCell ⟨Y, 1, none⟩ (.string V1)).setCell ⟨Y, 2, none⟩ (.string V2)).setCell ⟨Y, 4, none⟩ (.string V3)).drew = W5 at HX3 HY3 HU3 ⊢
          have y0 := HY3.out.cell (j := 0) rfl
          have y1 := HY3.out.cell (j := 1) rfl
          have y2 := HY3.out.cell (j := 2) rfl
          have y3 := HY3.out.cell (j := 3) rfl
          have y4 := HY3.out.cell (j := 4) rfl
          go_wp2_with fail
          refine (HDE.out _).mono ?_
          rintro e w6 ⟨rfl, u6⟩
          replace HY3 := Lib.hid (HY3.out.up u6)
          replace HX3 := Lib.hid (HX3.out.up u6)
          replace HU3 := Lib.hid (HU3.out.trans u6)
          clear u6 y0 y1 y2 y3 y4
          by_cases hc : C = 0
          · subst hc
            have HB9 := Lib.hid (HBO.out (by first | rfl | trivial))
            have y0 := HY3.out.cell (j := 0) rfl
            have y1 := HY3.out.cell (j := 1) rfl
            have y2 := HY3.out.cell (j := 2) rfl
            have y3 := HY3.out.cell (j := 3) rfl
            have y4 := HY3.out.cell (j := 4) rfl
            go_wp2_with fail
            refine (HB9.out _).mono ?_
            rintro e w7 ⟨rfl, u7⟩
            replace HY3 := Lib.hid (HY3.out.up u7)
            replace HX3 := Lib.hid (HX3.out.up u7)
            replace HU3 := Lib.hid (HU3.out.trans u7)
            clear u7 y0 y1 y2 y3 y4 HB9
            by_cases hes : E = a :: b :: c0 :: r0
            · have hee : ((bs E).toList == (bs (a :: b :: c0 :: r0)).toList) = true := by rw [HTQ.out]; simpa using hes
              have HQ := Lib.hid (HYES.out (by first | rfl | trivial) hes)
              clear hes
              generalize bs E = EB at *
              generalize bs (a :: b :: c0 :: r0) = SB at *
              have y0 := HY3.out.cell (j := 0) rfl
              have y1 := HY3.out.cell (j := 1) rfl
              have y2 := HY3.out.cell (j := 2) rfl
              have y3 := HY3.out.cell (j := 3) rfl
              have y4 := HY3.out.cell (j := 4) rfl
              have r0 := HX3.out.frozen 0
              have r1 := HX3.out.frozen 1
              have r2 := HX3.out.frozen 2
              have r3 := HX3.out.frozen 3
              have r4 := HX3.out.frozen 4
              have c0 := HX3.out.cell (j := 0) rfl
              have c1 := HX3.out.cell (j := 1) rfl
              have c2 := HX3.out.cell (j := 2) rfl
              have c3 := HX3.out.cell (j := 3) rfl
              have c4 := HX3.out.cell (j := 4) rfl
              go_wp2_with fail
              have hz := ((((HX3.out.set 0 (.int .i64 KA)).set 1 (.string V1)).set 2 (.string V2)).set 3 (.int .i64 KB)).set 4 (.string V3)
              have z0 := hz.cell (j := 0) rfl
              have z1 := hz.cell (j := 1) rfl
              have z2 := hz.cell (j := 2) rfl
              have z3 := hz.cell (j := 3) rfl
              have z4 := hz.cell (j := 4) rfl
              have HUZ := Lib.hid (up5 (a := .int .i64 KA) (b := .string V1) (c := .string V2) (d := .int .i64 KB) (e := .string V3) HU3.out HXW.out)
              generalize (((((w7).setCell ⟨X, 0, none⟩ (.int .i64 KA)).setCell ⟨X, 1, none⟩ (.string V1)).setCell ⟨X, 2, none⟩ (.string V2)).setCell ⟨X, 3, none⟩ (.int .i64 KB)).setCell ⟨X, 4, none⟩ (.string V3) = WZ at z0 z1 z2 z3 z4 HUZ ⊢
              exact bodyPost_ret (v := .tuple #[.agg #[.int .i64 KA, .string V1, .string V2, .int .i64 KB, .string V3], .int .i64 0]) (by simp [results, Tryz.results22, go_sem, z0, z1, z2, z3, z4]) rfl ⟨congrArg Ending.returned HQ.out, HUZ.out⟩
            · have hee : ((bs E).toList == (bs (a :: b :: c0 :: r0)).toList) = false := by rw [HTQ.out]; simpa using hes
              have HQ := Lib.hid (HNO.out (fun h => hes h.2))
              clear hes
              generalize bs E = EB at *
              generalize bs (a :: b :: c0 :: r0) = SB at *
              have r0 := HX3.out.frozen 0
              have r1 := HX3.out.frozen 1
              have r2 := HX3.out.frozen 2
              have r3 := HX3.out.frozen 3
              have r4 := HX3.out.frozen 4
              have c0 := HX3.out.cell (j := 0) rfl
              have c1 := HX3.out.cell (j := 1) rfl
              have c2 := HX3.out.cell (j := 2) rfl
              have c3 := HX3.out.cell (j := 3) rfl
              have c4 := HX3.out.cell (j := 4) rfl
              go_wp2_with fail
              have hz := ((((HX3.out.set 0 (.int .i64 0)).set 1 (.string ⟨#[]⟩)).set 2 (.string ⟨#[]⟩)).set 3 (.int .i64 0)).set 4 (.string ⟨#[]⟩)
              have z0 := hz.cell (j := 0) rfl
              have z1 := hz.cell (j := 1) rfl
              have z2 := hz.cell (j := 2) rfl
              have z3 := hz.cell (j := 3) rfl
              have z4 := hz.cell (j := 4) rfl
              have HUZ := Lib.hid (up5 (a := .int .i64 0) (b := .string ⟨#[]⟩) (c := .string ⟨#[]⟩) (d := .int .i64 0) (e := .string ⟨#[]⟩) HU3.out HXW.out)
              generalize (((((w7).setCell ⟨X, 0, none⟩ (.int .i64 0)).setCell ⟨X, 1, none⟩ (.string ⟨#[]⟩)).setCell ⟨X, 2, none⟩ (.string ⟨#[]⟩)).setCell ⟨X, 3, none⟩ (.int .i64 0)).setCell ⟨X, 4, none⟩ (.string ⟨#[]⟩) = WZ at z0 z1 z2 z3 z4 HUZ ⊢
              exact bodyPost_ret (v := .tuple #[.agg #[.int .i64 0, .string ⟨#[]⟩, .string ⟨#[]⟩, .int .i64 0, .string ⟨#[]⟩], .int .i64 3]) (by simp [results, Tryz.results22, go_sem, z0, z1, z2, z3, z4]) rfl ⟨congrArg Ending.returned HQ.out, HUZ.out⟩
          · have hcz : (C == 0) = false := by rw [beq_eq_false_iff_ne]; exact hc
            have HQ := Lib.hid (HNO.out (fun h => hc h.1))
            have r0 := HX3.out.frozen 0
            have r1 := HX3.out.frozen 1
            have r2 := HX3.out.frozen 2
            have r3 := HX3.out.frozen 3
            have r4 := HX3.out.frozen 4
            have c0 := HX3.out.cell (j := 0) rfl
            have c1 := HX3.out.cell (j := 1) rfl
            have c2 := HX3.out.cell (j := 2) rfl
            have c3 := HX3.out.cell (j := 3) rfl
            have c4 := HX3.out.cell (j := 4) rfl
            go_wp2_with fail
            have hz := ((((HX3.out.set 0 (.int .i64 0)).set 1 (.string ⟨#[]⟩)).set 2 (.string ⟨#[]⟩)).set 3 (.int .i64 0)).set 4 (.string ⟨#[]⟩)
            have z0 := hz.cell (j := 0) rfl
            have z1 := hz.cell (j := 1) rfl
            have z2 := hz.cell (j := 2) rfl
            have z3 := hz.cell (j := 3) rfl
            have z4 := hz.cell (j := 4) rfl
            have HUZ := Lib.hid (up5 (a := .int .i64 0) (b := .string ⟨#[]⟩) (c := .string ⟨#[]⟩) (d := .int .i64 0) (e := .string ⟨#[]⟩) HU3.out HXW.out)
            generalize (((((w6).setCell ⟨X, 0, none⟩ (.int .i64 0)).setCell ⟨X, 1, none⟩ (.string ⟨#[]⟩)).setCell ⟨X, 2, none⟩ (.string ⟨#[]⟩)).setCell ⟨X, 3, none⟩ (.int .i64 0)).setCell ⟨X, 4, none⟩ (.string ⟨#[]⟩) = WZ at z0 z1 z2 z3 z4 HUZ ⊢
            exact bodyPost_ret (v := .tuple #[.agg #[.int .i64 0, .string ⟨#[]⟩, .string ⟨#[]⟩, .int .i64 0, .string ⟨#[]⟩], .int .i64 3]) (by simp [results, Tryz.results22, go_sem, z0, z1, z2, z3, z4]) rfl ⟨congrArg Ending.returned HQ.out, HUZ.out⟩
        · obtain ⟨hva, hvb⟩ := HV3.out c2 r2 hE
          rw [hE] at hl2
          rw [List.length_cons] at hl2
          obtain ⟨n2, hn2, hm2, ht2, hv2⟩ := cut_run c2 r2 (by omega)
          rw [hva] at ht2
          rw [hvb] at hv2
          have hix2 : ∀ W : World, (Instr.index 9 (.string (bs (c2 :: r2))) (.int .i64 0)).run Tryz.prog W = .ok (.int .u8 ((c2.toNat : Nat) : Int)) W := index_bs (c2 :: r2) 0 (by simp)
          have hsz2 := bs_size (c2 :: r2)
          rw [List.length_cons] at hsz2
          have hne2 := not_empty (c2 :: r2) (by simp)
          have hwc2 : wrap64 ((c2.toNat : Nat) : Int) = ((c2.toNat : Nat) : Int) := by have := c2.toNat_lt; unfold wrap64; omega
          rw [hE]
          obtain ⟨L2, hL2⟩ : ∃ L, r2.length = L := ⟨_, rfl⟩
          rw [hL2] at hl2 hsz2 hm2
          clear hE hL2 hva hvb
          have f2 := HZ1.out.frozen 2
          have g2 := HZ1.out.cell (j := 2) rfl
          have hwn : IntKind.i64.wrap (1 + (n2 : Int)) = 1 + (n2 : Int) := by have := hn2; exact IntWalk.i64_in _ (by omega)
          have HWN := Lib.hid hwn
          clear hwn
          go_upto_region 11 with (fail)
          have hwn := HWN.out
          go_region
          have HZ2 : Hid (RowC (wr.setCell ⟨Z, 2, none⟩ (.string V3)).drew Z 74 [.string V1, .string V2, .string V3]) := RowC.up (HZ1.out.set 2 (.string V3)) (Up.drew _)
          have HX2 : Hid (RowC (wr.setCell ⟨Z, 2, none⟩ (.string V3)).drew X 27 [.int .i64 0, .string ⟨#[]⟩, .string ⟨#[]⟩, .int .i64 0, .string ⟨#[]⟩]) := RowC.up (HX1.out.other HXZ.out 2 (.string V3)) (Up.drew _)
          have HY2 : Hid (RowC (wr.setCell ⟨Z, 2, none⟩ (.string V3)).drew Y 27 [.int .i64 KA, .string ⟨#[]⟩, .string ⟨#[]⟩, .int .i64 KB, .string ⟨#[]⟩]) := RowC.up (HY1.out.other HYZ.out 2 (.string V3)) (Up.drew _)
          have HU2 := Lib.hid ((up1 (k := 2) (a := .string V3) HU1.out HZG.out).trans (Up.drew _))
          clear f2 g2 hwn
          generalize (wr.setCell ⟨Z, 2, none⟩ (.string V3)).drew = W4 at HX2 HY2 HZ2 HU2 ⊢
          go_wp2_with fail
          go_roundw
          case rel => exact ⟨HX2.out, HY2.out, HU2.out, .inr (.inr (.inr ⟨rfl, rfl, HZ2.out⟩))⟩
          case measure => simp only [intOf]; omega
      · have HX1 := Lib.hid hx
        have HY1 := Lib.hid hy
        have HU1 := Lib.hid hu
        have HZ2 := Lib.hid hz
        clear hx hy hu hz
        go_wp2_with fail
        have g0 := HZ2.out.cell (j := 0) rfl
        have g1 := HZ2.out.cell (j := 1) rfl
        have g2 := HZ2.out.cell (j := 2) rfl
        have y1 := HY1.out.cell (j := 1) rfl
        have y2 := HY1.out.cell (j := 2) rfl
        have y4 := HY1.out.cell (j := 4) rfl
        have f1 := HY1.out.frozen 1
        have f2 := HY1.out.frozen 2
        have f4 := HY1.out.frozen 4
        have n1 : Y ≠ Z := HYZ.out
        have n2 : Z ≠ Y := fun h => HYZ.out h.symm
        go_region
        clear n1 n2
        have HY3 : Hid (RowC (((wr.setCell ⟨Y, 1, none⟩ (.string V1)).setCell ⟨Y, 2, none⟩ (.string V2)).setCell ⟨Y, 4, none⟩ (.string V3)).drew Y 27 [.int .i64 KA, .string V1, .string V2, .int .i64 KB, .string V3]) := RowC.up (((HY1.out.set 1 (.string V1)).set 2 (.string V2)).set 4 (.string V3)) (Up.drew _)
        have HX3 : Hid (RowC (((wr.setCell ⟨Y, 1, none⟩ (.string V1)).setCell ⟨Y, 2, none⟩ (.string V2)).setCell ⟨Y, 4, none⟩ (.string V3)).drew X 27 [.int .i64 0, .string ⟨#[]⟩, .string ⟨#[]⟩, .int .i64 0, .string ⟨#[]⟩]) := RowC.up (((HX1.out.other HXY.out 1 (.string V1)).other HXY.out 2 (.string V2)).other HXY.out 4 (.string V3)) (Up.drew _)
        have HU3 := Lib.hid ((up1 (k := 4) (a := .string V3) (up1 (k := 2) (a := .string V2) (up1 (k := 1) (a := .string V1) HU1.out HYW.out) HYW.out) HYW.out).trans (Up.drew _))
        clear g0 g1 g2 y1 y2 y4 f1 f2 f4
        generalize (((wr.setCell ⟨Y, 1, none⟩ (.string V1)).setCell ⟨Y, 2, none⟩ (.string V2)).setCell ⟨Y, 4, none⟩ (.string V3)).drew = W5 at HX3 HY3 HU3 ⊢
        have y0 := HY3.out.cell (j := 0) rfl
        have y1 := HY3.out.cell (j := 1) rfl
        have y2 := HY3.out.cell (j := 2) rfl
        have y3 := HY3.out.cell (j := 3) rfl
        have y4 := HY3.out.cell (j := 4) rfl
        go_wp2_with fail
        refine (HDE.out _).mono ?_
        rintro e w6 ⟨rfl, u6⟩
        replace HY3 := Lib.hid (HY3.out.up u6)
        replace HX3 := Lib.hid (HX3.out.up u6)
        replace HU3 := Lib.hid (HU3.out.trans u6)
        clear u6 y0 y1 y2 y3 y4
        by_cases hc : C = 0
        · subst hc
          have HB9 := Lib.hid (HBO.out (by first | rfl | trivial))
          have y0 := HY3.out.cell (j := 0) rfl
          have y1 := HY3.out.cell (j := 1) rfl
          have y2 := HY3.out.cell (j := 2) rfl
          have y3 := HY3.out.cell (j := 3) rfl
          have y4 := HY3.out.cell (j := 4) rfl
          go_wp2_with fail
          refine (HB9.out _).mono ?_
          rintro e w7 ⟨rfl, u7⟩
          replace HY3 := Lib.hid (HY3.out.up u7)
          replace HX3 := Lib.hid (HX3.out.up u7)
          replace HU3 := Lib.hid (HU3.out.trans u7)
          clear u7 y0 y1 y2 y3 y4 HB9
          by_cases hes : E = a :: b :: c0 :: r0
          · have hee : ((bs E).toList == (bs (a :: b :: c0 :: r0)).toList) = true := by rw [HTQ.out]; simpa using hes
            have HQ := Lib.hid (HYES.out (by first | rfl | trivial) hes)
            clear hes
            generalize bs E = EB at *
            generalize bs (a :: b :: c0 :: r0) = SB at *
            have y0 := HY3.out.cell (j := 0) rfl
            have y1 := HY3.out.cell (j := 1) rfl
            have y2 := HY3.out.cell (j := 2) rfl
            have y3 := HY3.out.cell (j := 3) rfl
            have y4 := HY3.out.cell (j := 4) rfl
            have r0 := HX3.out.frozen 0
            have r1 := HX3.out.frozen 1
            have r2 := HX3.out.frozen 2
            have r3 := HX3.out.frozen 3
            have r4 := HX3.out.frozen 4
            have c0 := HX3.out.cell (j := 0) rfl
            have c1 := HX3.out.cell (j := 1) rfl
            have c2 := HX3.out.cell (j := 2) rfl
            have c3 := HX3.out.cell (j := 3) rfl
            have c4 := HX3.out.cell (j := 4) rfl
            go_wp2_with fail
            have hz := ((((HX3.out.set 0 (.int .i64 KA)).set 1 (.string V1)).set 2 (.string V2)).set 3 (.int .i64 KB)).set 4 (.string V3)
            have z0 := hz.cell (j := 0) rfl
            have z1 := hz.cell (j := 1) rfl
            have z2 := hz.cell (j := 2) rfl
            have z3 := hz.cell (j := 3) rfl
            have z4 := hz.cell (j := 4) rfl
            have HUZ := Lib.hid (up5 (a := .int .i64 KA) (b := .string V1) (c := .string V2) (d := .int .i64 KB) (e := .string V3) HU3.out HXW.out)
            generalize (((((w7).setCell ⟨X, 0, none⟩ (.int .i64 KA)).setCell ⟨X, 1, none⟩ (.string V1)).setCell ⟨X, 2, none⟩ (.string V2)).setCell ⟨X, 3, none⟩ (.int .i64 KB)).setCell ⟨X, 4, none⟩ (.string V3) = WZ at z0 z1 z2 z3 z4 HUZ ⊢
            exact bodyPost_ret (v := .tuple #[.agg #[.int .i64 KA, .string V1, .string V2, .int .i64 KB, .string V3], .int .i64 0]) (by simp [results, Tryz.results22, go_sem, z0, z1, z2, z3, z4]) rfl ⟨congrArg Ending.returned HQ.out, HUZ.out⟩
          · have hee : ((bs E).toList == (bs (a :: b :: c0 :: r0)).toList) = false := by rw [HTQ.out]; simpa using hes
            have HQ := Lib.hid (HNO.out (fun h => hes h.2))
            clear hes
            generalize bs E = EB at *
            generalize bs (a :: b :: c0 :: r0) = SB at *
            have r0 := HX3.out.frozen 0
            have r1 := HX3.out.frozen 1
            have r2 := HX3.out.frozen 2
            have r3 := HX3.out.frozen 3
            have r4 := HX3.out.frozen 4
            have c0 := HX3.out.cell (j := 0) rfl
            have c1 := HX3.out.cell (j := 1) rfl
            have c2 := HX3.out.cell (j := 2) rfl
            have c3 := HX3.out.cell (j := 3) rfl
            have c4 := HX3.out.cell (j := 4) rfl
            go_wp2_with fail
            have hz := ((((HX3.out.set 0 (.int .i64 0)).set 1 (.string ⟨#[]⟩)).set 2 (.string ⟨#[]⟩)).set 3 (.int .i64 0)).set 4 (.string ⟨#[]⟩)
            have z0 := hz.cell (j := 0) rfl
            have z1 := hz.cell (j := 1) rfl
            have z2 := hz.cell (j := 2) rfl
            have z3 := hz.cell (j := 3) rfl
            have z4 := hz.cell (j := 4) rfl
            have HUZ := Lib.hid (up5 (a := .int .i64 0) (b := .string ⟨#[]⟩) (c := .string ⟨#[]⟩) (d := .int .i64 0) (e := .string ⟨#[]⟩) HU3.out HXW.out)
            generalize (((((w7).setCell ⟨X, 0, none⟩ (.int .i64 0)).setCell ⟨X, 1, none⟩ (.string ⟨#[]⟩)).setCell ⟨X, 2, none⟩ (.string ⟨#[]⟩)).setCell ⟨X, 3, none⟩ (.int .i64 0)).setCell ⟨X, 4, none⟩ (.string ⟨#[]⟩) = WZ at z0 z1 z2 z3 z4 HUZ ⊢
            exact bodyPost_ret (v := .tuple #[.agg #[.int .i64 0, .string ⟨#[]⟩, .string ⟨#[]⟩, .int .i64 0, .string ⟨#[]⟩], .int .i64 3]) (by simp [results, Tryz.results22, go_sem, z0, z1, z2, z3, z4]) rfl ⟨congrArg Ending.returned HQ.out, HUZ.out⟩
        · have hcz : (C == 0) = false := by rw [beq_eq_false_iff_ne]; exact hc
          have HQ := Lib.hid (HNO.out (fun h => hc h.1))
          have r0 := HX3.out.frozen 0
          have r1 := HX3.out.frozen 1
          have r2 := HX3.out.frozen 2
          have r3 := HX3.out.frozen 3
          have r4 := HX3.out.frozen 4
          have c0 := HX3.out.cell (j := 0) rfl
          have c1 := HX3.out.cell (j := 1) rfl
          have c2 := HX3.out.cell (j := 2) rfl
          have c3 := HX3.out.cell (j := 3) rfl
          have c4 := HX3.out.cell (j := 4) rfl
          go_wp2_with fail
          have hz := ((((HX3.out.set 0 (.int .i64 0)).set 1 (.string ⟨#[]⟩)).set 2 (.string ⟨#[]⟩)).set 3 (.int .i64 0)).set 4 (.string ⟨#[]⟩)
          have z0 := hz.cell (j := 0) rfl
          have z1 := hz.cell (j := 1) rfl
          have z2 := hz.cell (j := 2) rfl
          have z3 := hz.cell (j := 3) rfl
          have z4 := hz.cell (j := 4) rfl
          have HUZ := Lib.hid (up5 (a := .int .i64 0) (b := .string ⟨#[]⟩) (c := .string ⟨#[]⟩) (d := .int .i64 0) (e := .string ⟨#[]⟩) HU3.out HXW.out)
          generalize (((((w6).setCell ⟨X, 0, none⟩ (.int .i64 0)).setCell ⟨X, 1, none⟩ (.string ⟨#[]⟩)).setCell ⟨X, 2, none⟩ (.string ⟨#[]⟩)).setCell ⟨X, 3, none⟩ (.int .i64 0)).setCell ⟨X, 4, none⟩ (.string ⟨#[]⟩) = WZ at z0 z1 z2 z3 z4 HUZ ⊢
          exact bodyPost_ret (v := .tuple #[.agg #[.int .i64 0, .string ⟨#[]⟩, .string ⟨#[]⟩, .int .i64 0, .string ⟨#[]⟩], .int .i64 3]) (by simp [results, Tryz.results22, go_sem, z0, z1, z2, z3, z4]) rfl ⟨congrArg Ending.returned HQ.out, HUZ.out⟩

end Go.Proofs.YtbeigaanlhaolaaGreatDoor
