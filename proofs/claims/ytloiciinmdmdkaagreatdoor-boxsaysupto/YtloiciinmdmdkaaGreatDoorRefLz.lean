/-
  What the reference's Token and Parse return: is it a token; the greedy parse. Conditions: as each says.
-/
import Derived.Test.YtloiciinmdmdkaaGreatDoorRefMatch
import Derived.Test.YtloiciinmdmdkaaGreatDoorRefTok
import Derived.Test.YtloiciinmdmdkaaGreatDoorLzP
namespace Go.Proofs.YtloiciinmdmdkaaGreatDoor
open Go.RowKit
open Go.Proofs
open WoolLz
open WoolMatch

/-! ytloiciinmdmdkaagreatdoor# Parse -/

def RParRel (s : ByteArray) (V : Nat) (w : World) (out i : Value) (wr : World) : Prop :=
  ∃ (k : Nat) (pre : List Tok), k ≤ s.size ∧ i = .int .i64 k ∧ par s.data.toList V 0 = pre ++ par s.data.toList V k ∧ OToks wr w.heap.size out pre ∧ Up w wr

def RParPost (s : ByteArray) (V : Nat) (w : World) (e : Ending) (w' : World) : Prop :=
  ∃ v, e = .returned v ∧ OToks w' w.heap.size v (par s.data.toList V 0) ∧ Up w w'

set_option maxRecDepth 100000 in
set_option maxHeartbeats 1000000 in
theorem refParse_any (s : ByteArray) (V : Nat) (w : World) (hs : s.size ≤ 600) (h1 : 1 ≤ V) (h2 : V ≤ 256) :
    Calls Tryz.prog 18 #[.string s, .int .i64 (V : Int)] w (RParPost s V w) := by
  obtain ⟨i0, hi, hz0, hz1, hz2⟩ := info_parts tokInfo
  have HI := Lib.hid hi
  have HZ0 := Lib.hid hz0
  have HZ1 := Lib.hid hz1
  have HZ2 := Lib.hid hz2
  have hpl := par_len s.data.toList V s.data.toList.length 0 (by omega)
  rw [ba_length] at hpl
  have HPL := Lib.hid hpl
  clear hi hz0 hz1 hz2 hpl
  go_enter Tryz.func18, Tryz.ntmps18
  go_wp2_with fail
  go_loopw [5, 6] (fun out i wr => RParRel s V w out i wr) (fun _ i _ => s.size - (intOf i).toNat)
  case atStart => exact ⟨0, [], Nat.zero_le _, rfl, rfl, World.ownsRow_nil _ _ _ _, Up.refl w⟩
  case round =>
    obtain ⟨k, pre, hk, rfl, hp, hown, hu⟩ := hrel
    have HP := Lib.hid hp
    have HOWN := Lib.hid hown
    have HU := Lib.hid hu
    obtain ⟨oo, co, hshape, _⟩ := hown.toks
    subst hshape
    clear hp hown hu
    by_cases hlt : k < s.size
    · have d1 : decide (k < s.size) = true := decide_eq_true hlt
      obtain ⟨x, q1⟩ : ∃ x, s.data.toList[k]? = some x := ⟨_, list_at s k hlt⟩
      have r1 := str_index s (k : Int) k x rfl q1
      have hwx := wrap_byte x
      have hps := par_step s.data.toList V k (by rw [ba_length]; exact hlt)
      have hpp : par s.data.toList V 0 = (pre ++ [tokAt s.data.toList k V]) ++ par s.data.toList V (k + stp s.data.toList k V) := by rw [HP.out, hps, List.append_assoc]; rfl
      have hpre6 : pre.length ≤ 600 := by
        have h := congrArg List.length HP.out
        rw [List.length_append] at h
        have := HPL.out
        omega
      have hsle := stp_le s.data.toList k V (by rw [ba_length]; exact hlt)
      rw [ba_length] at hsle
      have ht : tokAt s.data.toList k V = if (long s.data.toList k V).2 < 2 then ⟨0, 0, (x.toNat : Int)⟩ else ⟨(long s.data.toList k V).1, (long s.data.toList k V).2, 0⟩ := by
        unfold tokAt byt
        rw [q1]
        rfl
      have hst : stp s.data.toList k V = max (long s.data.toList k V).2 1 := rfl
      have HPP := Lib.hid hpp
      have HT := Lib.hid ht
      have HST := Lib.hid hst
      have HSLE := Lib.hid hsle
      clear hps hpp ht hst hsle q1
      go_wp2_with fail
      refine (refLongest_any s k V _ hs (by omega) h1 h2).mono ?_
      rintro e w1 ⟨rfl, u1⟩
      have HU1 := Lib.hid (HU.out.trans u1)
      have HO1 := Lib.hid (HOWN.out.up u1)
      have hz1 := HU1.out.size
      have ht := HT.out
      have hst := HST.out
      have hsle := HSLE.out
      have hpp := HPP.out
      clear u1 HT HST HSLE HPP
      rw [hst] at hsle hpp
      obtain ⟨X, hX⟩ : ∃ X, (long s.data.toList k V).1 = X := ⟨_, rfl⟩
      obtain ⟨Y, hY⟩ : ∃ Y, (long s.data.toList k V).2 = Y := ⟨_, rfl⟩
      rw [hX, hY] at ht ⊢
      rw [hY] at hsle hpp
      rw [ht] at hpp
      clear ht hst hX hY
      by_cases h0 : 1 < Y
      · have g0 : decide (1 < Y) = true := decide_eq_true h0
        rw [if_neg (by omega), show max Y 1 = Y by omega] at hpp
        rw [show max Y 1 = Y by omega] at hsle
        have HPP := Lib.hid hpp
        clear hpp
        go_wp2_with (at_builtin; refine wpList_append_own _ rfl _ _ 37 rfl w.heap.size 55 i0 (.agg #[.int .i64 0, .int .i64 0, .int .i64 0]) 3 24 Tryz.underlying37 HI.out HZ0.out HZ1.out HZ2.out rfl (by decide) _ _ _ rfl (World.ownsRow.alloc HO1.out _) ⟨w1.heap.size, 0, none⟩ 1 1 [.int .i64 (X : Int), .int .i64 (Y : Int), .int .i64 0] rfl rfl (cell_three_new _ _ _ _ _) (by simp [Value.oneCell']) (by unfold maxLen; omega) (by omega) (by simp; omega) ?_; intro v' w3 hown3 hgrow _)
        obtain ⟨hot, hu3⟩ := OToks.more (t := ⟨(X : Int), (Y : Int), 0⟩) HU1.out HO1.out hown3 hgrow
        have H1 := Lib.hid hot
        have H2 := Lib.hid hu3
        clear hot hu3 hown3 hgrow
        go_wp2_with fail
        go_roundw
        case rel => exact ⟨k + Y, _, hsle, by go_num, HPP.out, H1.out, H2.out⟩
        case measure => simp only [intOf]; omega
      · have g0 : decide (1 < Y) = false := decide_eq_false h0
        rw [if_pos (by omega), show max Y 1 = 1 by omega] at hpp
        have HPP := Lib.hid hpp
        clear hpp hsle
        go_wp2_with (at_builtin; refine wpList_append_own _ rfl _ _ 37 rfl w.heap.size 55 i0 (.agg #[.int .i64 0, .int .i64 0, .int .i64 0]) 3 24 Tryz.underlying37 HI.out HZ0.out HZ1.out HZ2.out rfl (by decide) _ _ _ rfl (World.ownsRow.alloc HO1.out _) ⟨w1.heap.size, 0, none⟩ 1 1 [.int .i64 0, .int .i64 0, .int .i64 (x.toNat : Int)] rfl rfl (cell_three_new _ _ _ _ _) (by simp [Value.oneCell']) (by unfold maxLen; omega) (by omega) (by simp; omega) ?_; intro v' w3 hown3 hgrow _)
        obtain ⟨hot, hu3⟩ := OToks.more (t := ⟨0, 0, (x.toNat : Int)⟩) HU1.out HO1.out hown3 hgrow
        have H1 := Lib.hid hot
        have H2 := Lib.hid hu3
        clear hot hu3 hown3 hgrow
        go_wp2_with fail
        go_roundw
        case rel => exact ⟨k + 1, _, by omega, by go_num, HPP.out, H1.out, H2.out⟩
        case measure => simp only [intOf]; omega
    · have d1 : decide (k < s.size) = false := decide_eq_false hlt
      have hp2 : pre = par s.data.toList V 0 := by rw [HP.out, par_end _ _ _ (by rw [ba_length]; omega), List.append_nil]
      have HP2 := Lib.hid hp2
      clear hp2
      go_wp2_with fail
      go_ret
      exact ⟨_, rfl, by rw [← HP2.out]; exact HOWN.out, HU.out⟩

end Go.Proofs.YtloiciinmdmdkaaGreatDoor
