/-
  What pack's readGamma, readByte, readCopy and readToken return: a token read off bits. Conditions: bits, at most 2^48 of them.
-/
import Derived.Test.YtloiciinmdmdkaaGreatDoorPack2
namespace Go.Proofs.YtloiciinmdmdkaaGreatDoor
open Go.RowKit
open Go.Proofs
open WoolLz WoolPack

theorem readGammaP_any (l : List UInt8) (w : World) (hl : l.length ≤ 281474976710656) (hb : WoolBits.isB l = true) :
    Calls Tryz.prog 115 #[.string (bs l)] w fun e w' => e = .returned (three (WoolBits.rg l)) ∧ w = w' := by
  have hsz := bs_size l
  have hto := to_bs l ((min l.length 61 : Nat) : Int) (min l.length 61) rfl (by omega)
  have htk : l.take (min l.length 61) = l.take 61 := by
    by_cases h : l.length ≤ 61
    · rw [show min l.length 61 = l.length by omega, List.take_of_length_le (Nat.le_refl _), List.take_of_length_le h]
    · rw [show min l.length 61 = 61 by omega]
  rw [htk] at hto
  have hmin : ∀ (ts : Array TypeId) (t : TypeId) (W : World), (Builtin.min_ ts t #[.int .i64 (l.length : Int), .int .i64 61]).run Tryz.prog W = .ok (.int .i64 ((min l.length 61 : Nat) : Int)) W := by
    intro ts t W
    simp [Builtin.min_, Builtin.min2]
    omega
  have HR := Lib.hid (rg_take l hb)
  have HL : Hid ((l.take 61).length ≤ 281474976710656) := by show (l.take 61).length ≤ 281474976710656; rw [List.length_take]; omega
  have F1 := Lib.hid (show three (WoolBits.rg l) = .tuple #[.int .i64 ((WoolBits.rg l).1 : Int), .int .i64 ((WoolBits.rg l).2.1 : Int), .int .i64 ((WoolBits.rg l).2.2 : Int)] from rfl)
  obtain ⟨n, hn⟩ : ∃ n, l.length = n := ⟨_, rfl⟩
  rw [hn] at hsz hto hmin hl
  obtain ⟨m, hm⟩ : ∃ m, min n 61 = m := ⟨_, rfl⟩
  rw [hm] at hto hmin
  obtain ⟨T, hT⟩ : ∃ T, l.take 61 = T := ⟨_, rfl⟩
  rw [hT] at hto HR HL
  clear htk hn hm hT hb
  go_enter Tryz.func115, Tryz.ntmps115
  go_wp2_with fail
  refine (readGamma_any T _ HL.out).mono ?_
  rintro e w1 ⟨rfl, rfl⟩
  rw [HR.out, F1.out]
  go_wp2
  go_ret3
  exact ⟨rfl, rfl⟩

/-- a token, how many bits, the error: as the three results -/
def tokV (x : Tok × Nat × Nat) : Value := .tuple #[.agg #[.int .i64 x.1.d, .int .i64 x.1.l, .int .i64 x.1.b], .int .i64 (x.2.1 : Int), .int .i64 (x.2.2 : Int)]

/-- the cell of a struct result, set -/
theorem set_box (w w1 : World) (x y z x' y' z' : Value) (u : Up (w.alloc (.cells #[x, y, z] 55)) w1) :
    (∃ w2, ((w1.setCell ⟨w.heap.size, 0, none⟩ x').setCell ⟨w.heap.size, 1, none⟩ y').setCell ⟨w.heap.size, 2, none⟩ z' = w2 ∧ w2.cell? ⟨w.heap.size, 0, none⟩ = some x' ∧ w2.cell? ⟨w.heap.size, 1, none⟩ = some y' ∧ w2.cell? ⟨w.heap.size, 2, none⟩ = some z' ∧ Up w w2) ∧
    (∀ k, w1.frozen? ⟨w.heap.size, k, none⟩ = false) ∧ w1.cell? ⟨w.heap.size, 0, none⟩ = some x ∧ w1.cell? ⟨w.heap.size, 1, none⟩ = some y ∧ w1.cell? ⟨w.heap.size, 2, none⟩ = some z := by
  have hbx : Box3 w1 w.heap.size 55 x y z := Box3.below (Box3.new w _ _ _ _) u (by simp)
  have U1 := Up.after _ _ _ u
  have hb2 := hbx.set x' y' z'
  have hu2 := set3_up U1 x' y' z'
  obtain ⟨e0, e1, e2⟩ := hb2.cells
  obtain ⟨c0, c1, c2⟩ := hbx.cells
  exact ⟨⟨_, rfl, e0, e1, e2, hu2⟩, fun k => by unfold Box3 at hbx; simp [World.frozen?, hbx], c0, c1, c2⟩

set_option maxRecDepth 100000 in
set_option maxHeartbeats 400000 in
theorem readByte_any (s : List UInt8) (w : World) (hl : s.length ≤ 281474976710656) (hb : WoolBits.isB s = true) (h0 : s.head? = some 48) :
    Calls Tryz.prog 101 #[.string (bs s)] w fun e w' => e = .returned (tokV (rtok s)) ∧ Up w w' := by
  have hsz := bs_size s
  by_cases h9 : s.length < 9
  · have hr : rtok s = (⟨0, 0, 0⟩, 0, 7) := by unfold rtok; rw [if_pos h0, if_pos h9]
    rw [hr]
    clear hr h0 hb
    obtain ⟨n, hn⟩ : ∃ n, s.length = n := ⟨_, rfl⟩
    rw [hn] at hsz h9
    clear hn hl
    go_enter Tryz.func101, Tryz.ntmps101
    go_wp2_with fail
    exact bodyPost_ret (v := .tuple #[.agg #[.int .i64 0, .int .i64 0, .int .i64 0], .int .i64 0, .int .i64 7]) (by simp [results, Tryz.results101, go_sem]) rfl ⟨rfl, Up.alloc _ _⟩
  · have hsl := slice_bs s 1 9 1 9 rfl rfl (by omega) (by omega)
    rw [show 9 - 1 = 8 from rfl] at hsl
    have hr : rtok s = (⟨0, 0, ((WoolBits.val 0 ((s.drop 1).take 8) : Nat) : Int)⟩, 9, 0) := by unfold rtok; rw [if_pos h0, if_neg h9]
    rw [hr]
    have hAb : WoolBits.isB ((s.drop 1).take 8) = true := WoolBits.isB_take _ _ (WoolBits.isB_drop _ _ hb)
    have hAl : ((s.drop 1).take 8).length ≤ 31 := by rw [List.length_take]; omega
    obtain ⟨A, hA⟩ : ∃ A, (s.drop 1).take 8 = A := ⟨_, rfl⟩
    rw [hA] at hsl hAb hAl ⊢
    obtain ⟨n, hn⟩ : ∃ n, s.length = n := ⟨_, rfl⟩
    rw [hn] at hsz h9
    have HAB := Lib.hid hAb
    have HAL := Lib.hid hAl
    clear hr h0 hb  hA hn hl hAb hAl
    go_enter Tryz.func101, Tryz.ntmps101
    go_wp2_with fail
    refine (valueP_any A _ HAL.out HAB.out).mono ?_
    rintro e w3 ⟨rfl, rfl⟩
    go_wp2_with fail
    exact bodyPost_ret (v := .tuple #[.agg #[.int .i64 0, .int .i64 0, .int .i64 ((WoolBits.val 0 A : Nat) : Int)], .int .i64 9, .int .i64 0]) (by simp [results, Tryz.results101, go_sem]) rfl ⟨rfl, Up.alloc _ _⟩

set_option maxRecDepth 100000 in
set_option maxHeartbeats 1000000 in
theorem readCopy_any (s : List UInt8) (w : World) (hl : s.length ≤ 281474976710656) (hb : WoolBits.isB s = true) (hne : s ≠ []) (h0 : ¬ s.head? = some 48) :
    Calls Tryz.prog 102 #[.string (bs s)] w fun e w' => e = .returned (tokV (rtok s)) ∧ Up w w' := by
  have hsz := bs_size s
  have hpos : 0 < s.length := List.length_pos_iff.2 hne
  have hf1 := from_bs s 1 1 rfl (by omega)
  have hR1b := WoolBits.isB_drop s 1 hb
  have hR1l : (s.drop 1).length = s.length - 1 := List.length_drop
  obtain ⟨k1, hk1⟩ : ∃ k, (WoolBits.rg (s.drop 1)).1 = k := ⟨_, rfl⟩
  obtain ⟨u1, hu1⟩ : ∃ u, (WoolBits.rg (s.drop 1)).2.1 = u := ⟨_, rfl⟩
  obtain ⟨x1, hx1⟩ : ∃ x, (WoolBits.rg (s.drop 1)).2.2 = x := ⟨_, rfl⟩
  have HG1 : Hid (three (WoolBits.rg (s.drop 1)) = .tuple #[.int .i64 (k1 : Int), .int .i64 (u1 : Int), .int .i64 (x1 : Int)]) := by
    show three _ = _
    unfold three
    rw [hk1, hu1, hx1]
  have hr : rtok s = if x1 ≠ 0 then (⟨0, 0, 0⟩, 0, x1) else if (WoolBits.rg (s.drop (1 + u1))).2.2 ≠ 0 then (⟨0, 0, 0⟩, 0, (WoolBits.rg (s.drop (1 + u1))).2.2)
      else (⟨(k1 : Int), ((WoolBits.rg (s.drop (1 + u1))).1 : Int), 0⟩, 1 + u1 + (WoolBits.rg (s.drop (1 + u1))).2.1, 0) := by
    unfold rtok
    rw [if_neg h0, hk1, hu1, hx1]
  by_cases hx : x1 = 0
  · obtain ⟨p1, p2, p3, p4, p5⟩ := WoolBits.rg_pos (s.drop 1) (by rw [hx1]; exact hx)
    rw [hu1] at p3 p4 p5
    rw [hk1] at p1 p2
    rw [hR1l] at p5
    subst hx
    rw [if_neg (by simp)] at hr
    have hf2 := from_bs s (1 + (u1 : Int)) (1 + u1) (by omega) (by omega)
    have hR2b := WoolBits.isB_drop s (1 + u1) hb
    have hR2l : (s.drop (1 + u1)).length = s.length - (1 + u1) := List.length_drop
    obtain ⟨k2, hk2⟩ : ∃ k, (WoolBits.rg (s.drop (1 + u1))).1 = k := ⟨_, rfl⟩
    obtain ⟨u2, hu2⟩ : ∃ u, (WoolBits.rg (s.drop (1 + u1))).2.1 = u := ⟨_, rfl⟩
    obtain ⟨x2, hx2⟩ : ∃ x, (WoolBits.rg (s.drop (1 + u1))).2.2 = x := ⟨_, rfl⟩
    have HG2 : Hid (three (WoolBits.rg (s.drop (1 + u1))) = .tuple #[.int .i64 (k2 : Int), .int .i64 (u2 : Int), .int .i64 (x2 : Int)]) := by
      show three _ = _
      unfold three
      rw [hk2, hu2, hx2]
    rw [hk2, hu2, hx2] at hr
    have hp2 : x2 = 0 → u2 ≤ 61 := fun h => by
      have := (WoolBits.rg_pos (s.drop (1 + u1)) (by rw [hx2]; exact h)).2.2.2.1
      rw [hu2] at this
      exact this
    obtain ⟨n, hn⟩ : ∃ n, s.length = n := ⟨_, rfl⟩
    rw [hn] at hsz hl hpos p5 hR1l hR2l
    obtain ⟨A, hA⟩ : ∃ A, s.drop 1 = A := ⟨_, rfl⟩
    obtain ⟨B, hB⟩ : ∃ B, s.drop (1 + u1) = B := ⟨_, rfl⟩
    rw [hA] at hf1 hR1b hR1l HG1
    rw [hB] at hf2 hR2b hR2l HG2
    have HAB := Lib.hid hR1b
    have HBB := Lib.hid hR2b
    have HAL : Hid (A.length ≤ 281474976710656) := by show A.length ≤ 281474976710656; omega
    have HBL : Hid (B.length ≤ 281474976710656) := by show B.length ≤ 281474976710656; omega
    by_cases hy : x2 = 0
    · have q4 := hp2 hy
      subst hy
      rw [if_neg (by simp)] at hr
      rw [hr]
      clear hr h0 hb hne hp2  hA hB hn hk1 hu1 hx1 hk2 hu2 hx2 hR1b hR2b hR1l hR2l
      go_enter Tryz.func102, Tryz.ntmps102
      go_wp2_with fail
      refine (readGammaP_any A _ HAL.out HAB.out).mono ?_
      rintro e w3 ⟨rfl, rfl⟩
      rw [HG1.out]
      go_wp2_with fail
      refine (readGammaP_any B _ HBL.out HBB.out).mono ?_
      rintro e w3 ⟨rfl, rfl⟩
      rw [HG2.out]
      go_wp2_with fail
      exact bodyPost_ret (v := .tuple #[.agg #[.int .i64 (k1 : Int), .int .i64 (k2 : Int), .int .i64 0], .int .i64 (1 + (u1 : Int) + (u2 : Int)), .int .i64 0]) (by simp [results, Tryz.results102, go_sem]) rfl ⟨by unfold tokV; congr 4, Up.alloc _ _⟩
    · rw [if_pos hy] at hr
      rw [hr]
      have hy0 : ((x2 : Int) == 0) = false := by simp; omega
      have hy1 : ((x2 : Int) != 0) = true := by simp; omega
      clear hr h0 hb hne hp2  hA hB hn hk1 hu1 hx1 hk2 hu2 hx2 hR1b hR2b hR1l hR2l hy
      go_enter Tryz.func102, Tryz.ntmps102
      go_wp2_with fail
      refine (readGammaP_any A _ HAL.out HAB.out).mono ?_
      rintro e w3 ⟨rfl, rfl⟩
      rw [HG1.out]
      go_wp2_with fail
      refine (readGammaP_any B _ HBL.out HBB.out).mono ?_
      rintro e w3 ⟨rfl, rfl⟩
      rw [HG2.out]
      go_wp2_with fail
      exact bodyPost_ret (v := .tuple #[.agg #[.int .i64 0, .int .i64 0, .int .i64 0], .int .i64 0, .int .i64 (x2 : Int)]) (by simp [results, Tryz.results102, go_sem]) rfl ⟨rfl, Up.alloc _ _⟩
  · rw [if_pos hx] at hr
    rw [hr]
    have hy0 : ((x1 : Int) == 0) = false := by simp; omega
    have hy1 : ((x1 : Int) != 0) = true := by simp; omega
    obtain ⟨n, hn⟩ : ∃ n, s.length = n := ⟨_, rfl⟩
    rw [hn] at hsz hl hpos hR1l
    obtain ⟨A, hA⟩ : ∃ A, s.drop 1 = A := ⟨_, rfl⟩
    rw [hA] at hf1 hR1b hR1l HG1
    have HAB := Lib.hid hR1b
    have HAL : Hid (A.length ≤ 281474976710656) := by show A.length ≤ 281474976710656; omega
    clear hr h0 hb hne  hA hn hk1 hu1 hx1 hR1b hR1l hx
    go_enter Tryz.func102, Tryz.ntmps102
    go_wp2_with fail
    refine (readGammaP_any A _ HAL.out HAB.out).mono ?_
    rintro e w3 ⟨rfl, rfl⟩
    rw [HG1.out]
    go_wp2_with fail
    exact bodyPost_ret (v := .tuple #[.agg #[.int .i64 0, .int .i64 0, .int .i64 0], .int .i64 0, .int .i64 (x1 : Int)]) (by simp [results, Tryz.results102, go_sem]) rfl ⟨rfl, Up.alloc _ _⟩

set_option maxRecDepth 100000 in
set_option maxHeartbeats 400000 in
theorem readToken_any (s : List UInt8) (w : World) (hl : s.length ≤ 281474976710656) (hb : WoolBits.isB s = true) (hne : s ≠ []) :
    Calls Tryz.prog 90 #[.string (bs s)] w fun e w' => e = .returned (tokV (rtok s)) ∧ Up w w' := by
  have hpos : 0 < s.length := List.length_pos_iff.2 hne
  have hi := index_bs s 0 hpos
  rw [show ((0 : Nat) : Int) = 0 from rfl] at hi
  have HF : Hid (tokV (rtok s) = .tuple #[.agg #[.int .i64 (rtok s).1.d, .int .i64 (rtok s).1.l, .int .i64 (rtok s).1.b], .int .i64 ((rtok s).2.1 : Int), .int .i64 ((rtok s).2.2 : Int)]) := rfl
  have hsz := bs_size s
  by_cases h0 : s.head? = some 48
  · have h48 : s[0].toNat = 48 := by
      cases s with
      | nil => simp at hpos
      | cons c r => simp at h0; rw [h0]; rfl
    rw [h48, show ((48 : Nat) : Int) = 48 from rfl] at hi
    have HC := Lib.hid (readByte_any s (w.alloc (.cells #[.int .i64 0, .int .i64 0, .int .i64 0] 55)) hl hb h0)
    generalize (rtok s).1.d = d at *
    generalize (rtok s).1.l = l at *
    generalize (rtok s).1.b = b at *
    generalize (rtok s).2.1 = n at *
    generalize (rtok s).2.2 = x at *
    obtain ⟨m, hm⟩ : ∃ m, s.length = m := ⟨_, rfl⟩
    rw [hm] at hsz hpos
    clear h0 h48 hb hne hl hm
    go_enter Tryz.func90, Tryz.ntmps90
    go_wp2_with fail
    refine HC.out.mono ?_
    rintro e w1 ⟨rfl, u1⟩
    rw [HF.out]
    obtain ⟨⟨w2, hw2, e0, e1, e2, hw⟩, hfz, c0, c1, c2⟩ := set_box w w1 (.int .i64 0) (.int .i64 0) (.int .i64 0) (.int .i64 d) (.int .i64 l) (.int .i64 b) u1
    have HW := Lib.hid hw2
    clear hw2 HC
    go_wp2_with fail
    rw [HW.out]
    exact bodyPost_ret (v := .tuple #[.agg #[.int .i64 d, .int .i64 l, .int .i64 b], .int .i64 (n : Int), .int .i64 (x : Int)]) (by simp [results, Tryz.results90, go_sem, e0, e1, e2]) rfl ⟨by rw [HF.out], hw⟩
  · have h49 : s[0].toNat = 49 := by
      cases s with
      | nil => simp at hpos
      | cons c r =>
        rcases (WoolBits.isB_iff _).1 hb c (List.mem_cons_self ..) with rfl | rfl
        · exact absurd rfl h0
        · rfl
    rw [h49, show ((49 : Nat) : Int) = 49 from rfl] at hi
    have HC := Lib.hid (readCopy_any s (w.alloc (.cells #[.int .i64 0, .int .i64 0, .int .i64 0] 55)) hl hb hne h0)
    generalize (rtok s).1.d = d at *
    generalize (rtok s).1.l = l at *
    generalize (rtok s).1.b = b at *
    generalize (rtok s).2.1 = n at *
    generalize (rtok s).2.2 = x at *
    obtain ⟨m, hm⟩ : ∃ m, s.length = m := ⟨_, rfl⟩
    rw [hm] at hsz hpos
    clear h0 h49 hb hne hl hm
    go_enter Tryz.func90, Tryz.ntmps90
    go_wp2_with fail
    refine HC.out.mono ?_
    rintro e w1 ⟨rfl, u1⟩
    rw [HF.out]
    obtain ⟨⟨w2, hw2, e0, e1, e2, hw⟩, hfz, c0, c1, c2⟩ := set_box w w1 (.int .i64 0) (.int .i64 0) (.int .i64 0) (.int .i64 d) (.int .i64 l) (.int .i64 b) u1
    have HW := Lib.hid hw2
    clear hw2 HC
    go_wp2_with fail
    rw [HW.out]
    exact bodyPost_ret (v := .tuple #[.agg #[.int .i64 d, .int .i64 l, .int .i64 b], .int .i64 (n : Int), .int .i64 (x : Int)]) (by simp [results, Tryz.results90, go_sem, e0, e1, e2]) rfl ⟨by rw [HF.out], hw⟩

end Go.Proofs.YtloiciinmdmdkaaGreatDoor
