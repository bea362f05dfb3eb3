/-
  What frame's Get returns, at every text. Condition: at most 2^48 bytes.
-/
import Derived.Test.YtloiciinmdmdkaaGreatDoorFrame1
import Derived.Test.YtloiciinmdmdkaaGreatDoorClone
import Derived.Deep.RegionHeld3
import Derived.BigRegion
namespace Go.Proofs.YtloiciinmdmdkaaGreatDoor
open Go.RowKit
open Go.Proofs

/-- a frame as a value -/
def frmR (x : Nat × List UInt8) : Value := .agg #[.int .i64 (x.1 : Int), .string (bs x.2)]

/-- what Get answers, as the three results -/
def getR (s : List UInt8) : Value := .tuple #[frmR (getV s).1, .int .i64 (((getV s).2.1 : Nat) : Int), .int .i64 (((getV s).2.2 : Nat) : Int)]

/-- a block of two cells -/
def Box2 (W : World) (B : Nat) (t : TypeId) (x y : Value) : Prop := W.heap[B]? = some (.cells #[x, y] t (0, 0))

theorem Box2.cells {W : World} {B : Nat} {t : TypeId} {x y : Value} (h : Box2 W B t x y) : W.cell? ⟨B, 0, none⟩ = some x ∧ W.cell? ⟨B, 1, none⟩ = some y :=
  ⟨cell_of_row _ _ 0 _ _ _ h, cell_of_row _ _ 1 _ _ _ h⟩
theorem Box2.new (W : World) (t : TypeId) (x y : Value) : Box2 (W.alloc (.cells #[x, y] t)) W.heap.size t x y := heap_alloc_new W _
theorem Box2.below {W W' : World} {n B : Nat} {t : TypeId} {x y : Value} (h : Box2 W B t x y) (hb : Below n W W') (hB : B < n) : Box2 W' B t x y := (hb.block B hB).trans h
theorem Box2.set {W : World} {B : Nat} {t : TypeId} {x y : Value} (h : Box2 W B t x y) (x' y' : Value) : Box2 ((W.setCell ⟨B, 0, none⟩ x').setCell ⟨B, 1, none⟩ y') B t x' y' := by
  unfold Box2 at h ⊢
  simp [World.setCell, Array.getElem?_modify, h]

/-- the cells of a struct result, set -/
theorem set_box2 (w w1 : World) (t : TypeId) (x y x' y' : Value) (u : Up (w.alloc (.cells #[x, y] t)) w1) :
    (∃ w2, (w1.setCell ⟨w.heap.size, 0, none⟩ x').setCell ⟨w.heap.size, 1, none⟩ y' = w2 ∧ w2.cell? ⟨w.heap.size, 0, none⟩ = some x' ∧ w2.cell? ⟨w.heap.size, 1, none⟩ = some y' ∧ Up w w2) ∧
    (∀ k, w1.frozen? ⟨w.heap.size, k, none⟩ = false) ∧ w1.cell? ⟨w.heap.size, 0, none⟩ = some x ∧ w1.cell? ⟨w.heap.size, 1, none⟩ = some y := by
  have hbx : Box2 w1 w.heap.size t x y := Box2.below (Box2.new w _ _ _) u (by simp)
  have U1 := Up.after _ _ _ u
  have hb2 := hbx.set x' y'
  have hu2 : Up w ((w1.setCell ⟨w.heap.size, 0, none⟩ x').setCell ⟨w.heap.size, 1, none⟩ y') := (Below.setCell U1 (p := ⟨w.heap.size, 0, none⟩) (Nat.le_refl _) _).setCell (p := ⟨w.heap.size, 1, none⟩) (Nat.le_refl _) _
  obtain ⟨e0, e1⟩ := hb2.cells
  obtain ⟨c0, c1⟩ := hbx.cells
  exact ⟨⟨_, rfl, e0, e1, hu2⟩, fun k => by unfold Box2 at hbx; simp [World.frozen?, hbx], c0, c1⟩

set_option maxRecDepth 100000 in
set_option maxHeartbeats 1000000 in
theorem get_any (s : List UInt8) (w : World) (hl : s.length ≤ 281474976710656) :
    Calls Tryz.prog 11 #[.string (bs s)] w fun e w' => e = .returned (getR s) ∧ Up w w' := by
  have hsz := bs_size s
  by_cases h1 : s.length < 3
  · have HV : Hid (getR s = .tuple #[.agg #[.int .i64 0, .string (bs [])], .int .i64 0, .int .i64 7]) := by
      show _ = _
      unfold getR getV
      rw [if_pos h1]
      rfl
    obtain ⟨n, hn⟩ : ∃ n, s.length = n := ⟨_, rfl⟩
    rw [hn] at hsz h1
    clear hn hl
    go_enter Tryz.func11, Tryz.ntmps11
    go_wp2_with fail
    exact bodyPost_ret (v := .tuple #[.agg #[.int .i64 0, .string ⟨#[]⟩], .int .i64 0, .int .i64 7]) (by simp [results, Tryz.results11, go_sem]) rfl ⟨by rw [HV.out]; rfl, Up.alloc _ _⟩
  have hto := to_bs s 1 1 rfl (by omega)
  have hsl := slice_bs s 1 3 1 3 rfl rfl (by omega) (by omega)
  rw [show 3 - 1 = 2 from rfl] at hsl
  have hk0 := kind_lt s
  have hb0 := bl_lt s
  obtain ⟨A, hA⟩ : ∃ A, s.take 1 = A := ⟨_, rfl⟩
  obtain ⟨B, hB⟩ : ∃ B, (s.drop 1).take 2 = B := ⟨_, rfl⟩
  have HAL : Hid (A.length ≤ 4) := by show A.length ≤ 4; rw [← hA, List.length_take]; omega
  have HBL : Hid (B.length ≤ 4) := by show B.length ≤ 4; rw [← hB, List.length_take]; omega
  have hbb : bl s = nv B := by unfold bl; rw [hB]
  rw [hA] at hto hk0
  rw [hB] at hsl
  by_cases h2 : nv A = 0 ∨ 700 < bl s
  · have HV : Hid (getR s = .tuple #[.agg #[.int .i64 0, .string (bs [])], .int .i64 0, .int .i64 3]) := by
      show _ = _
      unfold getR getV
      rw [if_neg h1, hA, if_pos h2]
      rfl
    rw [hbb] at h2
    obtain ⟨n, hn⟩ : ∃ n, s.length = n := ⟨_, rfl⟩
    rw [hn] at hsz h1
    obtain ⟨KA, hKA⟩ : ∃ K, nv A = K := ⟨_, rfl⟩
    obtain ⟨KB, hKB⟩ : ∃ K, nv B = K := ⟨_, rfl⟩
    rw [hKA, hKB] at h2
    have HKA := Lib.hid hKA
    have HKB := Lib.hid hKB
    have H2 := Lib.hid h2
    clear hn hl hA hB hbb hb0 hk0 hKA hKB h2
    go_enter Tryz.func11, Tryz.ntmps11
    go_wp2_with fail
    go_region_held3 (fun _ => True) (trivial) (first
      | (go_at_call 26; ((with_reducible refine (valueF_any A _ HAL.out).mono ?_); rintro e w4 ⟨rfl, rfl⟩; rw [HKA.out]))
      | (go_at_call 26; ((with_reducible refine (valueF_any B _ HBL.out).mono ?_); rintro e w5 ⟨rfl, rfl⟩; rw [HKB.out])))
    all_goals
      by_cases h3 : KA = 0
      · subst h3
        clear H2
        go_wp2_with fail
        exact bodyPost_ret (v := .tuple #[.agg #[.int .i64 0, .string ⟨#[]⟩], .int .i64 0, .int .i64 3]) (by simp [results, Tryz.results11, go_sem]) rfl ⟨by rw [HV.out]; rfl, (Up.alloc _ _).trans (Up.drew _)⟩
      · have d1 : ((KA : Int) == 0) = false := by simp; omega
        have d2 : 700 < KB := by rcases H2.out with h | h; exact absurd h h3; exact h
        clear H2 h3
        go_wp2_with fail
        exact bodyPost_ret (v := .tuple #[.agg #[.int .i64 0, .string ⟨#[]⟩], .int .i64 0, .int .i64 3]) (by simp [results, Tryz.results11, go_sem]) rfl ⟨by rw [HV.out]; rfl, (Up.alloc _ _).trans (Up.drew _)⟩
  have h3 : ¬ nv A = 0 := fun h => h2 (.inl h)
  have h4 : ¬ 700 < nv B := fun h => h2 (.inr (by rw [hbb]; exact h))
  by_cases h5 : s.length < bl s + 7
  · have HV : Hid (getR s = .tuple #[.agg #[.int .i64 0, .string (bs [])], .int .i64 0, .int .i64 7]) := by
      show _ = _
      unfold getR getV
      rw [if_neg h1, hA, if_neg h2, if_pos h5]
      rfl
    rw [hbb] at h5
    obtain ⟨n, hn⟩ : ∃ n, s.length = n := ⟨_, rfl⟩
    rw [hn] at hsz h1 h5
    obtain ⟨KA, hKA⟩ : ∃ K, nv A = K := ⟨_, rfl⟩
    obtain ⟨KB, hKB⟩ : ∃ K, nv B = K := ⟨_, rfl⟩
    rw [hKA] at h3
    rw [hKB] at h4 h5
    have d1 : ((KA : Int) == 0) = false := by simp; omega
    have HKA := Lib.hid hKA
    have HKB := Lib.hid hKB
    clear hn hl hA hB hbb hb0 hk0 hKA hKB h2 h3
    go_enter Tryz.func11, Tryz.ntmps11
    go_wp2_with fail
    go_region_held3 (fun _ => True) (trivial) (first
      | (go_at_call 26; ((with_reducible refine (valueF_any A _ HAL.out).mono ?_); rintro e w4 ⟨rfl, rfl⟩; rw [HKA.out]))
      | (go_at_call 26; ((with_reducible refine (valueF_any B _ HBL.out).mono ?_); rintro e w5 ⟨rfl, rfl⟩; rw [HKB.out])))
    all_goals
      go_wp2_with fail
      exact bodyPost_ret (v := .tuple #[.agg #[.int .i64 0, .string ⟨#[]⟩], .int .i64 0, .int .i64 7]) (by simp [results, Tryz.results11, go_sem]) rfl ⟨by rw [HV.out]; rfl, (Up.alloc _ _).trans (Up.drew _)⟩
  have hL : s.length - 7 ≥ nv B := by rw [← hbb]; omega
  have h7 : nv B + 7 ≤ s.length := by rw [← hbb]; omega
  obtain ⟨n, hn⟩ : ∃ n, s.length = n := ⟨_, rfl⟩
  obtain ⟨KB, hKB⟩ : ∃ K, nv B = K := ⟨_, rfl⟩
  rw [hKB] at hbb h4 h7 hL
  have hsl2 := slice_bs s (3 + (KB : Int)) (3 + (KB : Int) + 4) (3 + KB) (3 + KB + 4) (by omega) (by omega) (by omega) (by omega)
  rw [show 3 + KB + 4 - (3 + KB) = 4 by omega] at hsl2
  have hto2 := to_bs s (3 + (KB : Int)) (3 + KB) (by omega) (by omega)
  have hsl3 := slice_bs s 3 (3 + (KB : Int)) 3 (3 + KB) rfl (by omega) (by omega) (by omega)
  rw [show 3 + KB - 3 = KB by omega] at hsl3
  obtain ⟨C, hC⟩ : ∃ C, (s.drop (3 + KB)).take 4 = C := ⟨_, rfl⟩
  obtain ⟨D, hD⟩ : ∃ D, s.take (3 + KB) = D := ⟨_, rfl⟩
  obtain ⟨E, hE⟩ : ∃ E, (s.drop 3).take KB = E := ⟨_, rfl⟩
  have HCL : Hid (C.length ≤ 4) := by show C.length ≤ 4; rw [← hC, List.length_take]; omega
  have HDL : Hid (D.length ≤ 1000) := by show D.length ≤ 1000; rw [← hD, List.length_take]; omega
  have HEL : Hid ((bs E).size ≤ 1000) := by show (bs E).size ≤ 1000; rw [bs_size, ← hE, List.length_take]; omega
  rw [hC] at hsl2
  rw [hD] at hto2
  rw [hE] at hsl3
  obtain ⟨KA, hKA⟩ : ∃ K, nv A = K := ⟨_, rfl⟩
  obtain ⟨V, hV⟩ : ∃ V, nv C = V := ⟨_, rfl⟩
  obtain ⟨F, hF⟩ : ∃ F, fp 1073741907 D = F := ⟨_, rfl⟩
  have hvl : V < 4294967296 := by rw [← hV]; have := nv_small C C.length HCL.out; rwa [List.take_of_length_le (Nat.le_refl _)] at this
  have hfl : F < 1073741824 := by rw [← hF]; exact fp30 D
  by_cases h6 : V = F
  · have HV : Hid (getR s = .tuple #[.agg #[.int .i64 (KA : Int), .string (bs E)], .int .i64 ((KB + 7 : Nat) : Int), .int .i64 0]) := by
      show _ = _
      unfold getR getV
      rw [if_neg h1, hA, if_neg h2, if_neg h5, hbb, hC, hD, hV, hF, if_neg (by simpa using h6), hE, hKA]
      rfl
    subst h6
    rw [hKA] at h3 hk0
    rw [hn] at hsz h1 h7
    have d1 : ((KA : Int) == 0) = false := by simp; omega
    have HKA := Lib.hid hKA
    have HKB := Lib.hid hKB
    have HVV := Lib.hid hV
    have HF := Lib.hid hF
    clear hn hA hB hbb hb0 hKA hKB h2 h3 hV hF hC hD hE hL h5 hl
    go_enter Tryz.func11, Tryz.ntmps11
    go_wp2_with fail
    go_region_held3 (fun _ => True) (trivial) (first
      | (go_at_call 26; ((with_reducible refine (valueF_any A _ HAL.out).mono ?_); rintro e w4 ⟨rfl, rfl⟩; rw [HKA.out]))
      | (go_at_call 26; ((with_reducible refine (valueF_any B _ HBL.out).mono ?_); rintro e w5 ⟨rfl, rfl⟩; rw [HKB.out])))
    all_goals
      go_wp2_with fail
      go_region_held3 (fun _ => True) (trivial) (first
        | (go_at_call 26; ((with_reducible refine (valueF_any C _ HCL.out).mono ?_); rintro e w4 ⟨rfl, rfl⟩; rw [HVV.out]))
        | (go_at_call 25; ((with_reducible refine (fingerprint_any D _ HDL.out).mono ?_); rintro e w6 ⟨rfl, u6⟩; rw [HF.out])))
      all_goals
        go_wp2_with fail
        refine (clone_str (bs E) _ HEL.out).mono ?_
        rintro e w7 ⟨rfl, u7⟩
        obtain ⟨⟨w2, hw2, e0, e1, hw⟩, hfz, c0, c1⟩ := set_box2 w w7 31 (.int .i64 0) (.string ⟨#[]⟩) (.int .i64 (KA : Int)) (.string (bs E)) ((((Up.drew _).trans (Up.drew _)).trans u6).trans u7)
        have HW := Lib.hid hw2
        clear hw2
        go_wp2_with fail
        rw [HW.out]
        exact bodyPost_ret (v := .tuple #[.agg #[.int .i64 (KA : Int), .string (bs E)], .int .i64 (3 + (KB : Int) + 4), .int .i64 0]) (by simp [results, Tryz.results11, go_sem, e0, e1]) rfl ⟨by rw [HV.out, show ((KB + 7 : Nat) : Int) = 3 + (KB : Int) + 4 by omega], hw⟩
  · have HV : Hid (getR s = .tuple #[.agg #[.int .i64 0, .string (bs [])], .int .i64 0, .int .i64 6]) := by
      show _ = _
      unfold getR getV
      rw [if_neg h1, hA, if_neg h2, if_neg h5, hbb, hC, hD, hV, hF, if_pos h6]
      rfl
    rw [hKA] at h3 hk0
    rw [hn] at hsz h1 h7
    have d1 : ((KA : Int) == 0) = false := by simp; omega
    have d2 : (V != F) = true := by simp; omega
    have d3 : (V == F) = false := by simp; omega
    have HKA := Lib.hid hKA
    have HKB := Lib.hid hKB
    have HVV := Lib.hid hV
    have HF := Lib.hid hF
    clear hn hA hB hbb hb0 hKA hKB h2 h3 hV hF hC hD hE hL h5 hl h6
    go_enter Tryz.func11, Tryz.ntmps11
    go_wp2_with fail
    go_region_held3 (fun _ => True) (trivial) (first
      | (go_at_call 26; ((with_reducible refine (valueF_any A _ HAL.out).mono ?_); rintro e w4 ⟨rfl, rfl⟩; rw [HKA.out]))
      | (go_at_call 26; ((with_reducible refine (valueF_any B _ HBL.out).mono ?_); rintro e w5 ⟨rfl, rfl⟩; rw [HKB.out])))
    all_goals
      go_wp2_with fail
      go_region_held3 (fun _ => True) (trivial) (first
        | (go_at_call 26; ((with_reducible refine (valueF_any C _ HCL.out).mono ?_); rintro e w4 ⟨rfl, rfl⟩; rw [HVV.out]))
        | (go_at_call 25; ((with_reducible refine (fingerprint_any D _ HDL.out).mono ?_); rintro e w6 ⟨rfl, u6⟩; rw [HF.out])))
      all_goals
        obtain ⟨⟨w2, hw2, e0, e1, hw⟩, hfz, c0, c1⟩ := set_box2 w w6 31 (.int .i64 0) (.string ⟨#[]⟩) (.int .i64 0) (.string ⟨#[]⟩) (((Up.drew _).trans (Up.drew _)).trans u6)
        have HW := Lib.hid hw2
        clear hw2
        go_wp2_with fail
        rw [HW.out]
        exact bodyPost_ret (v := .tuple #[.agg #[.int .i64 0, .string ⟨#[]⟩], .int .i64 0, .int .i64 6]) (by simp [results, Tryz.results11, go_sem, e0, e1]) rfl ⟨by rw [HV.out]; rfl, hw⟩

end Go.Proofs.YtloiciinmdmdkaaGreatDoor
