/-
  What slices.Contains (of ints) returns; the laws CutLocal, CutAhead and CutAgain, walked: for every text and all numbers the Go text returns true; nothing that was there turns. Conditions: a text that came in has at most 2^47 - 4096 bytes.
-/
import Derived.Test.YtidofplebkbbmaaLawCut
import Derived.Deep.RegionHeld3
import Derived.Laws.Concat
namespace Go.Proofs.Ytidofplebkbbmaa
open Go.RowKit
open Go.Proofs

/-- Ends, whatever it answers -/
def EndsAny (w : World) (e : Ending) (w' : World) : Prop := ∃ (o : Option Addr) (n c : Nat) (E : Int), e = .returned (.tuple #[.slice o n c, .int .i64 E]) ∧ Up w w'

theorem ends_any (s : ByteArray) (a b c : Int) (w : World) :
    Calls Try.prog 29 #[.string s, .int .i64 a, .int .i64 b, .int .i64 c] w (EndsAny w) := by
  by_cases hs : s.size ≤ 600
  · by_cases h : 1 ≤ a ∧ a ≤ b ∧ b ≤ 600 ∧ 0 ≤ c ∧ c ≤ 65535
    · obtain ⟨A, rfl⟩ := Int.eq_ofNat_of_zero_le (show 0 ≤ a by omega)
      obtain ⟨B, rfl⟩ := Int.eq_ofNat_of_zero_le (show 0 ≤ b by omega)
      obtain ⟨C, rfl⟩ := Int.eq_ofNat_of_zero_le (show 0 ≤ c by omega)
      refine (ends_ok s A B C w hs (by omega) (by omega) (by omega) (by omega)).mono fun e w' ⟨v, he, hi, hu⟩ => ?_
      obtain ⟨o, c, rfl⟩ := hi.shape
      exact ⟨_, _, _, _, he, hu⟩
    · exact (ends_arg s a b c w hs h).mono fun e w' ⟨he, hu⟩ => ⟨_, _, _, _, he, Up.of_eq hu⟩
  · exact (ends_long s a b c w (by omega)).mono fun e w' ⟨he, hu⟩ => ⟨_, _, _, _, he, Up.of_eq hu⟩

theorem Ints.front {w : World} {base : Nat} {o : Option Addr} {c : Nat} {l : List Nat} (h : Ints w base (.slice o l.length c) l) (m : Nat) (hm : m ≤ l.length) : Ints w base (.slice o m c) (l.take m) := by
  have hlen : (l.take m).length = m := by rw [List.length_take]; omega
  rcases h.2 with ⟨he, h0⟩ | ⟨g, cap, cur, he, h1, h2, h3, h4, h5, h6⟩
  · simp only [Value.slice.injEq] at he
    obtain ⟨rfl, _, rfl⟩ := he
    have : m = 0 := by omega
    subst this
    exact World.ownsRow_nil _ _ _ _
  · simp only [Value.slice.injEq] at he
    obtain ⟨rfl, _, rfl⟩ := he
    unfold Ints
    rw [hlen]
    refine ⟨by rw [intL_length, hlen, Nat.mul_one], .inr ⟨g, c, cur, rfl, h1, h2, by omega, h4, h5, ?_⟩⟩
    have e : intL (l.take m) = (intL l).take m := by unfold intL; rw [List.map_take]
    rw [e, ← h6, List.take_take]
    congr 1
    omega

theorem Ints.cap {w : World} {base : Nat} {o : Option Addr} {n c : Nat} {l : List Nat} (h : Ints w base (.slice o n c) l) : n ≤ c ∧ c ≤ 9223372036854775807 := by
  rcases h.2 with ⟨he, h0⟩ | ⟨g, cap, cur, he, h1, h2, h3, h4, h5, h6⟩
  · simp only [Value.slice.injEq] at he
    omega
  · simp only [Value.slice.injEq] at he
    unfold maxLen at h4
    omega

/-! ytidofplebkbbmaa# slices.Contains -/

def IdxRel (l : List Nat) (z : Nat) (i : Value) : Prop := ∃ k : Nat, k ≤ l.length ∧ i = .int .i64 k ∧ ∀ j (hj : j < l.length), j < k → l[j] ≠ z

def IdxPost (l : List Nat) (z : Nat) (w : World) (e : Ending) (w' : World) : Prop := ∃ n : Int, e = .returned (.int .i64 n) ∧ (0 ≤ n ↔ z ∈ l) ∧ w = w'

set_option maxRecDepth 100000 in
set_option maxHeartbeats 400000 in
theorem index_any (v : Value) (base : Nat) (l : List Nat) (z : Nat) (w : World) (hl : l.length ≤ 1000) (h : Ints w base v l) :
    Calls Try.prog 67 #[v, .int .i64 (z : Int)] w (IdxPost l z w) := by
  obtain ⟨o, c, rfl⟩ := h.shape
  have H := Lib.hid h
  clear h
  go_enter Try.func67, Try.ntmps67
  go_wp2_with fail
  go_loop [8] (fun i => IdxRel l z i) (fun i => l.length - (intOf i).toNat)
  case atStart => exact ⟨0, by omega, rfl, fun j _ hj => by omega⟩
  case round =>
    obtain ⟨k, hk, rfl, hno⟩ := hrel
    have HNO := Lib.hid hno
    clear hno
    by_cases hlt : k < l.length
    · obtain ⟨g, c', hs, _, _, hc, hm⟩ := H.out.block (by omega)
      simp only [Value.slice.injEq, true_and] at hs
      obtain ⟨rfl, rfl⟩ := hs
      have hcell := H.out.cell k hlt
      unfold maxLen at hm
      by_cases he : l[k] = z
      · have hmem : z ∈ l := he ▸ List.getElem_mem hlt
        have HEND := Lib.hid (show IdxPost l z w (.returned (.int .i64 (k : Int))) w from ⟨_, rfl, ⟨fun _ => hmem, fun _ => by omega⟩, rfl⟩)
        rw [he] at hcell
        clear hmem he
        go_wp2_with fail
        go_ret
        exact HEND.out
      · have hb : ((z : Int) == ((l[k] : Nat) : Int)) = false := by rw [beq_eq_false_iff_ne]; omega
        have hnext : ∀ j (hj : j < l.length), j < k + 1 → l[j] ≠ z := by
          intro j hj hjk
          by_cases e : j = k
          · subst e; exact he
          · exact HNO.out j hj (by omega)
        have HNEXT := Lib.hid hnext
        clear hnext he
        generalize l[k] = y at *
        go_wp2_with fail
        go_round
        case rel => exact ⟨k + 1, by omega, by go_num, HNEXT.out⟩
        case measure => simp only [intOf]; omega
    · have d : decide (k < l.length) = false := by rw [decide_eq_false_iff_not]; omega
      have hmem : z ∉ l := by
        intro hm
        obtain ⟨j, hj, he⟩ := List.mem_iff_getElem.1 hm
        exact HNO.out j hj (by omega) he
      have HEND := Lib.hid (show IdxPost l z w (.returned (.int .i64 (-1))) w from ⟨_, rfl, ⟨fun h => by omega, fun h => absurd h hmem⟩, rfl⟩)
      clear hmem
      go_wp2_with fail
      go_ret
      exact HEND.out

set_option maxRecDepth 100000 in
theorem contains_any (v : Value) (base : Nat) (l : List Nat) (z : Nat) (w : World) (hl : l.length ≤ 1000) (h : Ints w base v l) :
    Calls Try.prog 41 #[v, .int .i64 (z : Int)] w fun e w' => e = .returned (.bool (decide (z ∈ l))) ∧ w = w' := by
  generalize hB : decide (z ∈ l) = B
  have HB := Lib.hid hB
  have H := Lib.hid h
  clear hB h
  go_enter Try.func41, Try.ntmps41
  go_wp2_with fail
  refine (index_any v base l z _ hl H.out).mono ?_
  rintro e w1 ⟨n, rfl, hiff, rfl⟩
  have hd : decide (0 ≤ n) = B := by rw [← HB.out, Bool.eq_iff_iff, decide_eq_true_iff, decide_eq_true_iff]; exact hiff
  clear hiff
  go_wp2_with fail
  go_ret
  exact ⟨rfl, rfl⟩

/-! ytidofplebkbbmaa# CutLocal -/

theorem endsLocal : (ends 3 3 65535 (⟨#[97, 98, 99, 100, 101, 102, 103, 104]⟩ : ByteArray).data.toList).length = 3 := by decide +kernel

def LocRel (n : Nat) (w : World) (i : Value) (wr : World) : Prop := ∃ k : Nat, k ≤ n ∧ i = .int .i64 k ∧ Up w wr

set_option maxRecDepth 100000 in
set_option maxHeartbeats 2000000 in
theorem cutLocal_walk (a0 : ByteArray) (a1 a2 a3 a4 : Int) (w : World) (w0 : a0.size ≤ 140737488351232) (_w1 : (Lit.int .i64 a1).wf = true) (_w2 : (Lit.int .i64 a2).wf = true) (_w3 : (Lit.int .i64 a3).wf = true) (_w4 : (Lit.int .i64 a4).wf = true) :
    Calls Try.prog 13 #[.string a0, .int .i64 a1, .int .i64 a2, .int .i64 a3, .int .i64 a4] w fun e w' => e = .returned (.bool true) ∧ Up w w' := by
  have HE := Lib.hid endsLocal
  go_enter Try.func13, Try.ntmps13
  go_wp2_with fail
  refine (ends_ok _ 3 3 65535 _ (by decide) (by omega) (by omega) (by omega) (by omega)).mono ?_
  rintro e v1 ⟨v, rfl, hints, u1⟩
  obtain ⟨o, c, rfl⟩ := hints.shape
  rw [HE.out]
  clear hints
  go_wp2_with fail
  by_cases hs : a0.size ≤ 600
  · by_cases ha : 1 ≤ a1 ∧ a1 ≤ a2 ∧ a2 ≤ 600 ∧ 0 ≤ a3 ∧ a3 ≤ 65535
    · obtain ⟨L, rfl⟩ := Int.eq_ofNat_of_zero_le (show 0 ≤ a1 by omega)
      obtain ⟨M, rfl⟩ := Int.eq_ofNat_of_zero_le (show 0 ≤ a2 by omega)
      obtain ⟨K, rfl⟩ := Int.eq_ofNat_of_zero_le (show 0 ≤ a3 by omega)
      have h1 : 1 ≤ L := by omega
      have h2 : L ≤ M := by omega
      have h3 : M ≤ 600 := by omega
      have h4 : K ≤ 65535 := by omega
      clear ha
      refine (ends_ok _ L M K _ hs h1 h2 h3 h4).mono ?_
      rintro e v2 ⟨vx, rfl, hx, u2⟩
      obtain ⟨ox, cx, rfl⟩ := hx.shape
      have HX := Lib.hid hx
      clear hx
      by_cases he : a0.data.toList = []
      · have ha : a0 = ⟨#[]⟩ := by
          cases a0 with | mk d => simp at he; subst he; rfl
        subst ha
        rw [show ends L M K (⟨#[]⟩ : ByteArray).data.toList = [] from rfl]
        clear HX he
        go_wp2_with fail
        go_ret
        exact ⟨rfl, u1.trans u2⟩
      · have hne : ends L M K a0.data.toList ≠ [] := fun h => he ((ends_empty_iff L M K h1 h2 _).1 h)
        have hpos : 0 < (ends L M K a0.data.toList).length := List.length_pos_iff.2 hne
        have hlen := ends_length L M K h1 h2 a0.data.toList
        rw [len_ba] at hlen
        have hsort := (ends_sorted L M K h1 h2 a0.data.toList).2
        have hloc := ends_local L M K h1 h2 a0.data.toList
        generalize hlx : ends L M K a0.data.toList = lx at *
        have HLX := Lib.hid hlx
        have HSORT := Lib.hid hsort
        have HLOC := Lib.hid hloc
        obtain ⟨g, c', hsl, _, _, hc, hm⟩ := HX.out.block hpos
        simp only [Value.slice.injEq, true_and] at hsl
        obtain ⟨rfl, rfl⟩ := hsl
        unfold maxLen at hm
        clear hne hlx hsort hloc he
        have hz : ((lx.length : Int) == 0) = false := by rw [beq_eq_false_iff_ne]; omega
        go_wp2_with fail
        refine (within_any a4 _ _ (by omega) (by omega)).mono ?_
        rintro e w' ⟨rfl, rfl⟩
        rw [Int.toNat_natCast]
        have hW := within_lt a4 lx.length hpos
        generalize within a4 lx.length = I at *
        have hI : I < lx.length := hW
        have hcell2 := HX.out.cell I hI
        have hb := HSORT.out _ (List.getElem_mem hI)
        rw [len_ba] at hb
        have hlo := HLOC.out I hI
        generalize hX0 : lx[I] = X0 at *
        have HLO := Lib.hid hlo
        have HX0 := Lib.hid hX0
        obtain ⟨hb1, hb2⟩ := hb
        clear hlo hX0
        go_wp2_with fail
        have hes : (a0.extract X0 a0.size).size ≤ 600 := by rw [ByteArray.size_extract]; omega
        refine (ends_ok _ L M K _ hes h1 h2 h3 h4).mono ?_
        rintro e v3 ⟨vy, rfl, hy, u3⟩
        rw [drop_ext] at hy
        have hlo := HLO.out
        generalize ends L M K (a0.data.toList.drop X0) = ly at *
        obtain ⟨oy, cy, rfl⟩ := hy.shape
        have hlens : ly.length = lx.length - (I + 1) := by
          have := congrArg List.length hlo
          rw [List.length_drop, List.length_map] at this
          omega
        have hby : ((ly.length : Int) != (lx.length : Int) - (I : Int) - 1) = false := by rw [bne_eq_false_iff_eq]; omega
        have hlyn : ly.length ≤ lx.length := by omega
        have HLENS := Lib.hid hlens
        have HY := Lib.hid hy
        have HLO2 := Lib.hid hlo
        have HU := Lib.hid ((u1.trans u2).trans u3)
        have HX3 := Lib.hid (HX.out.up u3)
        have hcell3 := hcell2
        rw [← u3.cell (World.block_lt_of_cell? _ _ hcell2)] at hcell3
        clear hy hlo hlens hcell2
        go_wp2_with fail
        clear hby
        have HC3 := Lib.hid hcell3
        clear hcell3
        go_loopw [94] (fun i wr => LocRel ly.length v3 i wr) (fun i _ => ly.length - (intOf i).toNat)
        case atStart => exact ⟨0, by omega, rfl, Up.refl _⟩
        case round =>
          obtain ⟨k, hk, rfl, hu⟩ := hrel
          have HUR := Lib.hid hu
          by_cases hlt : k < ly.length
          · obtain ⟨gy, cy', hsy, _, _, hcy, hmy⟩ := HY.out.block (by omega)
            simp only [Value.slice.injEq, true_and] at hsy
            obtain ⟨rfl, rfl⟩ := hsy
            unfold maxLen at hmy
            have hik : I + 1 + k < lx.length := by have := HLENS.out; omega
            have e1 := (HY.out.up hu).cell k hlt
            have hx4 := HX3.out.up hu
            have e2 := hx4.cell (I + 1 + k) hik
            have e3 := HC3.out
            rw [← hu.cell (World.block_lt_of_cell? _ _ HC3.out)] at e3
            have hval : lx[I + 1 + k] = X0 + ly[k] := by
              have h5 : (lx.drop (I + 1))[k]? = (ly.map (X0 + ·))[k]? := by rw [HLO2.out]
              rw [List.getElem?_drop, List.getElem?_map, List.getElem?_eq_getElem hik, List.getElem?_eq_getElem hlt] at h5
              simpa using h5
            have hyb : lx[I + 1 + k] ≤ a0.size := by
              have := (HSORT.out _ (List.getElem_mem hik)).2
              rwa [len_ba] at this
            rw [hval] at e2 hyb
            generalize ly[k] = yk at *
            clear hx4 hval hu
            have hw1 : IntKind.i64.wrap ((I : Int) + 1) = (I : Int) + 1 := by
              have := wrap_i64_nat (I + 1) (by omega)
              rwa [show ((I + 1 : Nat) : Int) = (I : Int) + 1 by omega] at this
            have hw2 : IntKind.i64.wrap ((I : Int) + 1 + (k : Int)) = (I : Int) + 1 + (k : Int) := by
              have := wrap_i64_nat (I + 1 + k) (by omega)
              rwa [show ((I + 1 + k : Nat) : Int) = (I : Int) + 1 + (k : Int) by omega] at this
            have hw3 : IntKind.i64.wrap ((yk : Int) + (X0 : Int)) = ((X0 + yk : Nat) : Int) := by
              rw [show (yk : Int) + (X0 : Int) = ((X0 + yk : Nat) : Int) by omega]
              exact wrap_i64_nat _ (by omega)
            have hw4 : ((I : Int) + 1 + (k : Int)).toNat = I + 1 + k := by omega
            go_wp2_with fail
            go_region
            all_goals
              go_wp2_with fail
              go_roundw
              case rel => exact ⟨k + 1, by omega, by go_num, HUR.out.trans (Below.drew (Up.refl _))⟩
              case measure => simp only [intOf]; omega
          · have d : decide (k < ly.length) = false := by rw [decide_eq_false_iff_not]; omega
            go_wp2_with fail
            go_ret
            exact ⟨rfl, HU.out.trans HUR.out⟩
    · refine (ends_arg _ _ _ _ _ hs ha).mono ?_
      rintro e v2 ⟨rfl, rfl⟩
      clear ha
      go_wp2_with fail
      go_ret
      exact ⟨rfl, u1⟩
  · refine (ends_long _ _ _ _ _ (by omega)).mono ?_
    rintro e v2 ⟨rfl, rfl⟩
    go_wp2_with fail
    go_ret
    exact ⟨rfl, u1⟩

/-! ytidofplebkbbmaa# CutAhead -/

theorem endsAhead : ends 1 1 0 (⟨#[97, 98, 99]⟩ : ByteArray).data.toList = [1, 2, 3] := by decide +kernel

theorem app_list (a b : ByteArray) : (a ++ b).data.toList = a.data.toList ++ b.data.toList := by
  rw [ByteArray.data_append, Array.toList_append]

set_option maxRecDepth 100000 in
set_option maxHeartbeats 2000000 in
theorem cutAhead_walk (a0 a1 : ByteArray) (a2 a3 a4 : Int) (w : World) (w0 : a0.size ≤ 140737488351232) (w1 : a1.size ≤ 140737488351232) (_w2 : (Lit.int .i64 a2).wf = true) (_w3 : (Lit.int .i64 a3).wf = true) (_w4 : (Lit.int .i64 a4).wf = true) :
    Calls Try.prog 14 #[.string a0, .string a1, .int .i64 a2, .int .i64 a3, .int .i64 a4] w fun e w' => e = .returned (.bool true) ∧ Up w w' := by
  have HE := Lib.hid endsAhead
  have hadd : ∀ v : World, (Op.stringOp .add a0 a1).run Try.prog v = .ok (.string (a0 ++ a1)) v := fun v => run_string_add_sum v a0 a1 (by omega)
  have hsz : (a0 ++ a1).size = a0.size + a1.size := ByteArray.size_append
  have hal := app_list a0 a1
  generalize a0 ++ a1 = S at *
  have HAL := Lib.hid hal
  have hS0 : a0.size ≤ S.size := by omega
  clear hal hsz
  go_enter Try.func14, Try.ntmps14
  go_wp2_with fail
  refine (ends_ok _ 1 1 0 _ (by decide) (by omega) (by omega) (by omega) (by omega)).mono ?_
  rintro e v1 ⟨v, rfl, hints, u1⟩
  rw [HE.out] at hints
  obtain ⟨o, c, rfl⟩ := hints.shape
  have HINTS := Lib.hid hints
  clear hints
  go_wp2_with fail
  have hlit : Ints (v1.alloc (.cells #[.int .i64 1, .int .i64 2, .int .i64 3] 3)) 0 (.slice (some ⟨v1.heap.size, 0, none⟩) 3 3) [1, 2, 3] :=
    World.ownsRow_lit v1 _ 3 (Nat.zero_le _) (by unfold maxLen; omega) rfl
  refine (equal_yes _ _ _ _ [1, 2, 3] _ (by simp) (HINTS.out.up (Up.alloc _ _)) hlit).mono ?_
  rintro e v2 ⟨rfl, u2⟩
  have HU := Lib.hid ((u1.trans (Up.alloc _ _)).trans u2)
  clear hlit u1 u2 HINTS
  go_wp2_with fail
  by_cases hs : a0.size ≤ 600
  · by_cases ha : 1 ≤ a2 ∧ a2 ≤ a3 ∧ a3 ≤ 600 ∧ 0 ≤ a4 ∧ a4 ≤ 65535
    · obtain ⟨L, rfl⟩ := Int.eq_ofNat_of_zero_le (show 0 ≤ a2 by omega)
      obtain ⟨M, rfl⟩ := Int.eq_ofNat_of_zero_le (show 0 ≤ a3 by omega)
      obtain ⟨K, rfl⟩ := Int.eq_ofNat_of_zero_le (show 0 ≤ a4 by omega)
      have h1 : 1 ≤ L := by omega
      have h2 : L ≤ M := by omega
      have h3 : M ≤ 600 := by omega
      have h4 : K ≤ 65535 := by omega
      clear ha
      refine (ends_ok _ L M K _ hs h1 h2 h3 h4).mono ?_
      rintro e v3 ⟨vx, rfl, hx, u3⟩
      obtain ⟨ox, cx, rfl⟩ := hx.shape
      have HX := Lib.hid hx
      clear hx
      by_cases hS : S.size ≤ 600
      · obtain ⟨pre, more, p1, p2, p3⟩ := ends_ahead L M K h1 h2 a1.data.toList a0.data.toList
        rw [← HAL.out] at p3
        have hnum : (ends L M K a0.data.toList).length - 1 = pre.length ∧ pre.length ≤ (ends L M K a0.data.toList).length ∧ (ends L M K a0.data.toList).take pre.length = pre := by
          by_cases he : a0.data.toList = []
          · rw [p2 he, he, ends_nil]; exact ⟨rfl, Nat.le_refl _, rfl⟩
          · rw [p1 he, List.length_append, List.take_left]; exact ⟨by simp, by simp, rfl⟩
        obtain ⟨n1, n2, n3⟩ := hnum
        have hlx := ends_length L M K h1 h2 a0.data.toList
        rw [len_ba] at hlx
        obtain ⟨hcx, hcx2⟩ := HX.out.cap
        have hxp := HX.out.front pre.length n2
        rw [n3] at hxp
        have HXP := Lib.hid hxp
        generalize (ends L M K a0.data.toList).length = nx at *
        have hmax : ∀ (ts : Array TypeId) (t : TypeId) (W : World), (Builtin.max_ ts t #[.int .i64 0, .int .i64 ((nx : Int) - 1)]).run Try.prog W = .ok (.int .i64 ((pre.length : Nat) : Int)) W := by
          intro ts t W
          simp [Builtin.max_, Builtin.max2]
          split <;> omega
        have HN1 := Lib.hid n1
        have HP3 := Lib.hid p3
        have hpre : pre.length ≤ 600 := by omega
        clear p1 p2 p3 n1 n3 hxp
        go_wp2_with fail
        refine (ends_ok _ L M K _ hS h1 h2 h3 h4).mono ?_
        rintro e v4 ⟨vy, rfl, hy, u4⟩
        rw [HP3.out] at hy
        obtain ⟨oy, cy, rfl⟩ := hy.shape
        obtain ⟨hcy, hcy2⟩ := hy.cap
        have hyp := hy.front pre.length (by simp)
        rw [List.take_left] at hyp
        have HYP := Lib.hid hyp
        have hny : pre.length ≤ (pre ++ more).length := by simp
        clear hy hyp
        generalize (pre ++ more).length = ny at *
        have hge : decide (pre.length ≤ ny) = true := by rw [decide_eq_true_iff]; exact hny
        have hpx : pre.length ≤ cx := by omega
        have hpy : pre.length ≤ cy := by omega
        go_wp2_with fail
        go_region_held3 (fun _ => True) (trivial) (first
          | (go_at_call 30; refine (equal_yes _ _ _ _ pre _ (by omega) (HXP.out.up (u4.trans (Below.drew (Up.refl _)))) (HYP.out.up (Below.drew (Up.refl _)))).mono ?_; rintro e v5 ⟨rfl, u5⟩))
        all_goals
          go_wp2_with fail
          go_ret
          exact ⟨rfl, ((HU.out.trans u3).trans (u4.trans (Below.drew (Up.refl _)))).trans u5⟩
      · go_wp2_with fail
        refine (ends_long _ _ _ _ _ (by omega)).mono ?_
        rintro e v4 ⟨rfl, rfl⟩
        go_wp2_with fail
        go_ret
        exact ⟨rfl, HU.out.trans u3⟩
    · refine (ends_arg _ _ _ _ _ hs ha).mono ?_
      rintro e v3 ⟨rfl, rfl⟩
      clear ha
      go_wp2_with fail
      refine (ends_any _ _ _ _ _).mono ?_
      rintro e v4 ⟨o4, n4, c4, E4, rfl, u4⟩
      go_wp2_with fail
      go_ret
      exact ⟨rfl, HU.out.trans u4⟩
  · refine (ends_long _ _ _ _ _ (by omega)).mono ?_
    rintro e v3 ⟨rfl, rfl⟩
    go_wp2_with fail
    refine (ends_long _ _ _ _ _ (by omega)).mono ?_
    rintro e v4 ⟨rfl, rfl⟩
    go_wp2_with fail
    go_ret
    exact ⟨rfl, HU.out⟩

end Go.Proofs.Ytidofplebkbbmaa
