/-
  The law CutSplits, walked: for every text and every slice of ints the Go text returns true; nothing that was there turns. Conditions: a text that came in has at most 2^47 - 4096 bytes.
-/
import Derived.Test.YtidofplebkbbmaaSplit
namespace Go.Proofs.Ytidofplebkbbmaa
open Go.RowKit
open Go.Proofs

def SpRel (s : ByteArray) (zs : List Int) (w : World) (b out i : Value) (wr : World) : Prop :=
  ∃ (k B : Nat) (l : List ByteArray), k ≤ zs.length ∧ B ≤ s.size ∧ l.length ≤ B ∧ i = .int .i64 k ∧ b = .int .i64 B ∧ divs 0 zs (s.size : Int) = divs (B : Int) (zs.drop k) (s.size : Int) ∧
    pieces s 0 zs = l ++ pieces s B (zs.drop k) ∧ Strs wr w.heap.size out l ∧ Up w wr

set_option maxRecDepth 100000 in
set_option maxHeartbeats 1000000 in
theorem splits_bad (s : ByteArray) (v : Value) (zs : List Int) (w : World) (hs : s.size ≤ 600) (h : Seen w v zs) (hd : divs 0 zs (s.size : Int) = false) :
    Calls Try.prog 6 #[.string s, v] w fun e w' => e = .returned (.bool true) ∧ Up w w' := by
  have HSEEN := Lib.hid h
  obtain ⟨o, c, rfl, h2, h3, h4⟩ := h
  have H4 := Lib.hid h4
  have HD := Lib.hid hd
  obtain ⟨i0, hi, hz0, hz1, hz2⟩ := info_parts strInfo
  have HI := Lib.hid hi
  have HZ0 := Lib.hid hz0
  have HZ1 := Lib.hid hz1
  have HZ2 := Lib.hid hz2
  have d6 : decide (600 < (s.size : Int)) = false := by rw [decide_eq_false_iff_not]; omega
  clear hi hz0 hz1 hz2 h4 hd
  go_enter Try.func6, Try.ntmps6
  go_wp2_with fail
  refine (split_bad s _ zs _ hs HSEEN.out HD.out).mono ?_
  rintro e w1 ⟨rfl, rfl⟩
  go_wp2_with fail
  go_loopw [7, 8, 29] (fun b out i wr => SpRel s zs w b out i wr) (fun _ _ i _ => zs.length - (intOf i).toNat)
  case atStart => exact ⟨0, 0, [], by omega, by omega, by simp, rfl, rfl, rfl, rfl, Strs.nil _ _, Up.refl w⟩
  case round =>
    obtain ⟨k, B, l, hk, hB, hlB, rfl, rfl, hdv, hpc, hst, hu⟩ := hrel
    have HST := Lib.hid hst
    have HU := Lib.hid hu
    by_cases hlt : k < zs.length
    · rcases H4.out with h5 | ⟨b, off, rfl, h5⟩
      · rw [h5] at hlt; simp at hlt
      · have hcell := h5 k hlt
        rw [← hu.cell (World.block_lt_of_cell? w _ hcell)] at hcell
        rw [drop_cons zs k hlt] at hdv hpc
        rw [divs] at hdv
        rw [pieces_cons] at hpc
        generalize zs[k] = z at *
        by_cases hz : z ≤ (B : Int)
        · clear hdv hpc hst hu h5
          go_wp2_with fail
          go_ret
          exact ⟨rfl, HU.out⟩
        · rw [if_neg hz] at hdv
          by_cases hzn : z ≤ (s.size : Int)
          · obtain ⟨Z, rfl⟩ := Int.eq_ofNat_of_zero_le (show 0 ≤ z by omega)
            rw [Int.toNat_natCast] at hpc
            have hpc2 : pieces s 0 zs = (l ++ [s.extract B Z]) ++ pieces s Z (zs.drop (k + 1)) := by rw [hpc, List.append_assoc]; rfl
            have HPC2 := Lib.hid hpc2
            have HDV := Lib.hid hdv
            have hszw := hu.size
            clear hdv hpc hpc2 hst hu h5
            generalize hX : s.extract B Z = X at *
            have HX := Lib.hid hX
            go_wp2_with (at_builtin; refine wpList_append_own _ rfl _ _ 39 rfl w.heap.size 9 i0 (.string ⟨#[]⟩) 1 16 Try.underlying39 HI.out HZ0.out HZ1.out HZ2.out rfl (by decide) _ _ _ rfl (World.ownsRow.alloc HST.out _) ⟨wr.heap.size, 0, none⟩ 1 1 [.string X] rfl rfl (cell_one_new _ _ _) (one_mem' _ rfl) (by unfold maxLen; omega) (by omega) (by simp; omega) ?_)
            intro v' w3 hown' hgrow _
            have hBB : Strs w3 w.heap.size v' (l ++ [X]) := by
              unfold Strs
              rw [strL_snoc, List.length_append]
              exact hown'
            have hUp : Up w w3 := grown_up' (HU.out.trans (Up.alloc _ _)) (World.ownsRow.alloc HST.out _) hgrow
            have HBB := Lib.hid hBB
            have HUP := Lib.hid hUp
            clear hown' hgrow hBB hUp hX
            go_wp2_with fail
            go_roundw
            case rel => exact ⟨k + 1, Z, l ++ [X], by omega, by omega, by rw [List.length_append, List.length_singleton]; omega, by go_num, rfl, HDV.out, HPC2.out, HBB.out, HUP.out⟩
            case measure => simp only [intOf]; omega
          · clear hdv hpc hst hu h5
            go_wp2_with fail
            go_ret
            exact ⟨rfl, HU.out⟩
    · have d : decide (k < zs.length) = false := by rw [decide_eq_false_iff_not]; omega
      rw [List.drop_of_length_le (by omega), divs, HD.out] at hdv
      have hlt2 : B < s.size := by
        have : ((B : Int) == (s.size : Int)) = false := hdv.symm
        rw [beq_eq_false_iff_ne] at this
        omega
      clear hpc hdv hst hu
      go_wp2_with fail
      go_ret
      exact ⟨rfl, HU.out⟩

set_option maxRecDepth 100000 in
set_option maxHeartbeats 1000000 in
theorem splits_ok (s : ByteArray) (v : Value) (zs : List Int) (w : World) (hs : s.size ≤ 600) (h : Seen w v zs) (hd : divs 0 zs (s.size : Int) = true) :
    Calls Try.prog 6 #[.string s, v] w fun e w' => e = .returned (.bool true) ∧ Up w w' := by
  have HSEEN := Lib.hid h
  obtain ⟨o, c, rfl, h2, h3, h4⟩ := h
  have H4 := Lib.hid h4
  have HD := Lib.hid hd
  have hlz := divs_len _ _ _ hd
  obtain ⟨i0, hi, hz0, hz1, hz2⟩ := info_parts strInfo
  have HI := Lib.hid hi
  have HZ0 := Lib.hid hz0
  have HZ1 := Lib.hid hz1
  have HZ2 := Lib.hid hz2
  have d6 : decide (600 < (s.size : Int)) = false := by rw [decide_eq_false_iff_not]; omega
  clear hi hz0 hz1 hz2 h4 hd
  go_enter Try.func6, Try.ntmps6
  go_wp2_with fail
  refine (split_ok s _ zs _ hs HSEEN.out HD.out).mono ?_
  rintro e v1 ⟨vx, rfl, hx, u1⟩
  obtain ⟨ox, cx, rfl⟩ := hx.shape
  have HX := Lib.hid hx
  have HU1 := Lib.hid u1
  clear hx u1
  go_wp2_with fail
  go_loopw [7, 8, 29] (fun b out i wr => SpRel s zs v1 b out i wr) (fun _ _ i _ => zs.length - (intOf i).toNat)
  case atStart => exact ⟨0, 0, [], by omega, by omega, by simp, rfl, rfl, rfl, rfl, Strs.nil _ _, Up.refl _⟩
  case round =>
    obtain ⟨k, B, l, hk, hB, hlB, rfl, rfl, hdv, hpc, hst, hu⟩ := hrel
    rw [HD.out] at hdv
    have HST := Lib.hid hst
    have HU := Lib.hid hu
    by_cases hlt : k < zs.length
    · rcases H4.out with h5 | ⟨b, off, rfl, h5⟩
      · rw [h5] at hlt; simp at hlt
      · have hcell := h5 k hlt
        rw [← (HU1.out.trans hu).cell (World.block_lt_of_cell? w _ hcell)] at hcell
        rw [drop_cons zs k hlt] at hdv hpc
        rw [divs] at hdv
        rw [pieces_cons] at hpc
        generalize zs[k] = z at *
        by_cases hz : z ≤ (B : Int)
        · rw [if_pos hz] at hdv; cases hdv
        · rw [if_neg hz] at hdv
          have hzn : z ≤ (s.size : Int) := by
            apply Int.le_of_not_gt
            intro hgt
            rw [divs_gt _ _ _ hgt] at hdv
            cases hdv
          obtain ⟨Z, rfl⟩ := Int.eq_ofNat_of_zero_le (show 0 ≤ z by omega)
          rw [Int.toNat_natCast] at hpc
          have hpc2 : pieces s 0 zs = (l ++ [s.extract B Z]) ++ pieces s Z (zs.drop (k + 1)) := by rw [hpc, List.append_assoc]; rfl
          have HPC2 := Lib.hid hpc2
          have HDV := Lib.hid hdv
          have hszw := hu.size
          clear hdv hpc hpc2 hst hu h5
          generalize hX : s.extract B Z = X at *
          have HXX := Lib.hid hX
          go_wp2_with (at_builtin; refine wpList_append_own _ rfl _ _ 39 rfl v1.heap.size 9 i0 (.string ⟨#[]⟩) 1 16 Try.underlying39 HI.out HZ0.out HZ1.out HZ2.out rfl (by decide) _ _ _ rfl (World.ownsRow.alloc HST.out _) ⟨wr.heap.size, 0, none⟩ 1 1 [.string X] rfl rfl (cell_one_new _ _ _) (one_mem' _ rfl) (by unfold maxLen; omega) (by omega) (by simp; omega) ?_)
          intro v' w3 hown' hgrow _
          have hBB : Strs w3 v1.heap.size v' (l ++ [X]) := by
            unfold Strs
            rw [strL_snoc, List.length_append]
            exact hown'
          have hUp : Up v1 w3 := grown_up' (HU.out.trans (Up.alloc _ _)) (World.ownsRow.alloc HST.out _) hgrow
          have HBB := Lib.hid hBB
          have HUP := Lib.hid hUp
          clear hown' hgrow hBB hUp hX
          go_wp2_with fail
          go_roundw
          case rel => exact ⟨k + 1, Z, l ++ [X], by omega, by omega, by rw [List.length_append, List.length_singleton]; omega, by go_num, rfl, by rw [HD.out, HDV.out], HPC2.out, HBB.out, HUP.out⟩
          case measure => simp only [intOf]; omega
    · have d : decide (k < zs.length) = false := by rw [decide_eq_false_iff_not]; omega
      rw [List.drop_of_length_le (by omega), divs] at hdv
      have hBe : B = s.size := by
        have : ((B : Int) == (s.size : Int)) = true := hdv.symm
        rw [beq_iff_eq] at this
        omega
      subst hBe
      rw [List.drop_of_length_le (by omega), pieces_nil, List.append_nil] at hpc
      have hst2 := hst
      rw [← hpc] at hst2
      have HST2 := Lib.hid hst2
      have hpl := pieces_length s zs 0
      have d2 : decide (s.size < s.size) = false := by rw [decide_eq_false_iff_not]; omega
      clear hpc hdv hst hu hst2
      have hpl2 : (pieces s 0 zs).length ≤ 1000 := by omega
      clear hpl
      go_wp2_with fail
      refine (equalS_yes _ _ _ _ (pieces s 0 zs) _ hpl2 (HX.out.up HU.out) HST2.out).mono ?_
      rintro e v3 ⟨rfl, u3⟩
      go_wp2_with fail
      go_ret
      exact ⟨rfl, (HU1.out.trans HU.out).trans u3⟩

set_option maxRecDepth 100000 in
theorem splits_long (s : ByteArray) (o : Option Addr) (n c : Nat) (w : World) (hs : 600 < s.size) :
    Calls Try.prog 6 #[.string s, .slice o n c] w fun e w' => e = .returned (.bool true) ∧ Up w w' := by
  go_enter Try.func6, Try.ntmps6
  go_wp2_with fail
  refine (split_long s _ _ _ _ hs).mono ?_
  rintro e w1 ⟨rfl, rfl⟩
  go_wp2_with fail
  go_ret
  exact ⟨rfl, Up.refl _⟩

theorem cutSplits_walk (a0 : ByteArray) (a1 : Option Addr) (len1 cap1 : Nat) (z1 : List Int) (w : World) (_w0 : a0.size ≤ 140737488351232) (w1 : IsRow .i64 w a1 len1 cap1 z1) :
    Calls Try.prog 6 #[.string a0, .slice a1 len1 cap1] w fun e w' => e = .returned (.bool true) ∧ Up w w' := by
  by_cases hs : a0.size ≤ 600
  · obtain ⟨hseen, _⟩ := row_seen w1
    cases hd : divs 0 (z1.take len1) (a0.size : Int) with
    | true => exact splits_ok a0 _ _ w hs hseen hd
    | false => exact splits_bad a0 _ _ w hs hseen hd
  · exact splits_long a0 a1 len1 cap1 w (by omega)

end Go.Proofs.Ytidofplebkbbmaa
