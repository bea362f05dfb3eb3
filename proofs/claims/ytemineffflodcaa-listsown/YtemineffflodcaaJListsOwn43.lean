/-
  What roomy, marked and spoil (of the laws on memory) do with rows of strings. Conditions: as each says.
-/
import Derived.Test.YtemineffflodcaaJListsOwn41
import Derived.OwnWalk
import Derived.Deep.Upon
namespace Go.Proofs.Ytemineffflodcaa
open Go.RowKit
open Go.Proofs

def RmTRel (L : List Value) (x : Value) (g : Nat) (w : World) (i : Value) (wr : World) : Prop :=
  ∃ k : Nat, k ≤ 3 ∧ i = .int .i64 (k : Int) ∧ Below w.heap.size w wr ∧ ∃ R, RowC wr g 9 (L ++ (List.replicate k x ++ R)) ∧ R.length = 3 - k

/-- what roomy leaves -/
def RmTPost (L : List Value) (n : Nat) (x : Value) (w : World) (e : Ending) (w' : World) : Prop :=
  ∃ g, e = .returned (.slice (some ⟨g, 0, none⟩) n (n + 3)) ∧ w.heap.size ≤ g ∧ RowC w' g 9 (L ++ List.replicate 3 x) ∧ Up w w'

/-- an append of nothing -/
theorem append_noneT {w : World} {base : Option Addr} {sLen sCap c : Nat} (hle : sLen ≤ sCap) (ty : TypeId) :
    (Builtin.append_ #[23, 23] ty #[.slice base sLen sCap, .slice none 0 c]).run Try.prog w = .ok (.slice base sLen sCap) w := by
  obtain ⟨i0, hi, hz0, hz1, hz2⟩ := info_parts strInfoT
  refine run_append_nothing w 23 23 ty 9 i0 Try.underlying23 hi base sLen sCap hle _ ⟨.inl ⟨_, Try.underlying23⟩, fun w' => rfl, ?_, ?_, by simp, by simp⟩
  · rfl
  · rfl

set_option maxRecDepth 100000 in
set_option maxHeartbeats 2000000 in
theorem roomyT_any (a0 : Option Addr) (n cap0 : Nat) (L : List Value) (x : ByteArray) (w : World) (h : Sl w 1 (.slice a0 n cap0) n L) (hL : ∀ u ∈ L, u.oneCell' = true) (hs : cap0 * 16 ≤ 140737488351232) :
    Calls Try.prog 7 #[.slice a0 n cap0, .string x] w (RmTPost L n (.string x) w) := by
  obtain ⟨i0, hi, hz0, hz1, hz2⟩ := info_parts strInfoT
  have HX := Lib.hid h
  obtain ⟨hlL, o', c', hv, hl0, hm0, h4⟩ := h
  simp only [Value.slice.injEq, true_and] at hv
  obtain ⟨rfl, rfl⟩ := hv
  rw [Nat.mul_one] at hlL
  have HLL := Lib.hid hlL
  have hcl : Hid (∀ ad, a0 = some ad → ∀ j u, L[j]? = some u → w.cell? (ad.add j) = some u) := by
    intro ad e j u hu
    subst e
    have hlt : j < L.length := (List.getElem?_eq_some_iff.1 hu).1
    obtain ⟨b, off, e, hc⟩ := Sl.cells HX.out (by omega)
    cases e
    rw [add_offT]
    exact hc j u hu
  have hnn : Hid (a0 = none → n = 0) := by
    intro e
    subst e
    rcases h4 with h4 | ⟨b, off, h5, _⟩
    · exact h4
    · cases h5
  have hw3 : IntKind.i64.wrap ((n : Int) + 3) = (n : Int) + 3 := IntWalk.i64_in _ (by omega)
  clear h4 hlL
  go_enter Try.func7, Try.ntmps7
  go_wp2_with (at_make; refine wpList_make_own _ rfl _ _ 23 rfl w.heap.size 9 i0 _ 1 Try.underlying23 hi hz0 hz1 _ _ _ (n + 3) rfl rfl (by omega) (by rw [hz2]; omega) (by unfold maxLen; omega) (by simp) ?_)
  intro w1 hown1 hgr1
  have hB1 : Below w.heap.size w w1 := Below.grown (Up.refl w) hgr1 (Nat.le_refl _) (by intro j hj; cases hj)
  cases a0 with
  | none =>
    have hn0 : n = 0 := hnn.out rfl
    have hL0 : L = [] := List.eq_nil_of_length_eq_zero (by rw [HLL.out]; exact hn0)
    have HRUN : Hid (∀ ty, (Builtin.append_ #[23, 23] ty #[.slice (some ⟨w.heap.size, 0, none⟩) 0 (n + 3), .slice none n cap0]).run Try.prog w1 = .ok (.slice (some ⟨w.heap.size, 0, none⟩) n (n + 3)) w1) := by
      intro ty
      rw [hn0]
      exact append_noneT (by omega) ty
    have hst : ∃ R, RowC w1 w.heap.size 9 (L ++ (List.replicate 0 (.string x) ++ R)) ∧ R.length = 3 - 0 := by
      rcases own_row hown1 with ⟨e1, _⟩ | ⟨g, cap, sp, e1, _, hr, _, _, hsp⟩
      · cases e1
      · simp only [Value.slice.injEq, Option.some.injEq, Addr.mk.injEq, and_true, true_and] at e1
        obtain ⟨rfl, rfl⟩ := e1
        refine ⟨sp, by rw [hL0]; simpa using hr, by omega⟩
    have HST : Hid (RmTRel L (.string x) w.heap.size w (.int .i64 0) w1) := by
      obtain ⟨R, h1, h2⟩ := hst
      exact ⟨0, by omega, rfl, hB1, R, h1, h2⟩
    clear hn0 hL0 hst hown1 hgr1 hi hz0 hz1 hz2 hB1
    go_wp2_with (at_builtin; refine wpList_appendI rfl _ _ #[23, 23] rfl _ _ _ _ rfl rfl HRUN.out ?_)
    clear HRUN
    go_wp2_with fail
    go_loopw [6, 13] (fun _ i wr => RmTRel L (.string x) w.heap.size w i wr) (fun _ i _ => 3 - (intOf i).toNat)
    case atStart => exact HST.out
    case round =>
      obtain ⟨k, hk, rfl, hB, R, hr, hsl⟩ := hrel
      by_cases hlt2 : k < 3
      · obtain ⟨u, R2, rfl⟩ : ∃ u R2, R = u :: R2 := by
          cases R with
          | nil => simp at hsl; omega
          | cons u R2 => exact ⟨u, R2, rfl⟩
        have c0 : wr.cell? ⟨w.heap.size, n + k, none⟩ = some u := hr.cell (by rw [← List.append_assoc, List.getElem?_append_right (by rw [List.length_append, List.length_replicate, HLL.out]; omega), List.length_append, List.length_replicate, HLL.out, Nat.sub_self]; rfl)
        have f0 := hr.frozen (n + k)
        have hset := hr.set (n + k) (.string x)
        rw [set_mid L (.string x) u R2 k n HLL.out] at hset
        have hB2 : Below w.heap.size w (wr.setCell ⟨w.heap.size, n + k, none⟩ (.string x)) := Below.setCell hB (p := ⟨w.heap.size, n + k, none⟩) (Nat.le_refl _) _
        have HREL : Hid (RmTRel L (.string x) w.heap.size w (.int .i64 ((k + 1 : Nat) : Int)) (wr.setCell ⟨w.heap.size, n + k, none⟩ (.string x))) := ⟨k + 1, by omega, rfl, hB2, R2, hset, by simp at hsl; omega⟩
        have d1 : decide ((k : Int) < 3) = true := by rw [decide_eq_true_iff]; omega
        have p1 : IntKind.i64.wrap ((n : Int) + (k : Int)) = (n : Int) + (k : Int) := IntWalk.i64_in _ (by omega)
        have p2 : (0 : Int) ≤ (n : Int) + (k : Int) := by omega
        have p3 : ((n : Int) + (k : Int)).toNat = n + k := by omega
        have p4 : ((n : Int) + 3).toNat = n + 3 := by omega
        have p5 : (0 : Int) ≤ (n : Int) + 3 := by omega
        have p6 : (n : Int) + (k : Int) < (n : Int) + 3 := by omega
        clear hset hB2 hB hr hsl
        go_wp2_with fail
        go_roundw
        case rel => exact HREL.out
        case measure => simp only [intOf]; omega
      · have hk3 : k = 3 := by omega
        subst hk3
        have d1 : decide ((3 : Int) < 3) = false := by decide
        have hnil : R = [] := List.eq_nil_of_length_eq_zero (by omega)
        subst hnil
        rw [List.append_nil] at hr
        have HR := Lib.hid hr
        have HB := Lib.hid hB
        clear hr hB hsl
        go_wp2_with fail
        go_ret
        exact ⟨w.heap.size, rfl, Nat.le_refl _, HR.out, HB.out⟩
  | some ad =>
    have hcl1 : Hid (∀ j u, L[j]? = some u → w1.cell? (ad.add j) = some u) := fun j u hu => by
      have h1 := hcl.out ad rfl j u hu
      have hlt := World.block_lt_of_cell? w _ h1
      exact (hB1.cell hlt).trans h1
    have hIL : Hid (L.length = n * 1) := by show _ = _; rw [HLL.out, Nat.mul_one]
    go_wp2_with (at_builtin; refine wpList_append_fits _ rfl _ _ 23 rfl w.heap.size 9 i0 1 Try.underlying23 hi hz1 w.heap.size 0 (n + 3) [] rfl hown1 ad n cap0 L rfl hIL.out hcl1.out hL (by omega) ?_)
    intro w2 hown2 hgr2
    have hB2 : Below w.heap.size w w2 := Below.grown hB1 hgr2 hB1.size (by intro j hj; cases hj; exact Nat.le_refl _)
    have hst : ∃ R, RowC w2 w.heap.size 9 (L ++ (List.replicate 0 (.string x) ++ R)) ∧ R.length = 3 - 0 := by
      have hown3 : w2.ownsRow w.heap.size 9 1 (.slice (some ⟨w.heap.size, 0, none⟩) n (n + 3)) n L := by simpa using hown2
      rcases own_row hown3 with ⟨e1, _⟩ | ⟨g, cap, sp, e1, _, hr, _, _, hsp⟩
      · cases e1
      · simp only [Value.slice.injEq, Option.some.injEq, Addr.mk.injEq, and_true, true_and] at e1
        obtain ⟨rfl, rfl⟩ := e1
        refine ⟨sp, by simpa using hr, by omega⟩
    have HST : Hid (RmTRel L (.string x) w.heap.size w (.int .i64 0) w2) := by
      obtain ⟨R, h1, h2⟩ := hst
      exact ⟨0, by omega, rfl, hB2, R, h1, h2⟩
    clear hst hown2 hgr2 hown1 hgr1 hB1 hB2 hcl1 hIL hi hz0 hz1 hz2
    go_wp2_with fail
    go_loopw [6, 13] (fun _ i wr => RmTRel L (.string x) w.heap.size w i wr) (fun _ i _ => 3 - (intOf i).toNat)
    case atStart => exact HST.out
    case round =>
      obtain ⟨k, hk, rfl, hB, R, hr, hsl⟩ := hrel
      by_cases hlt2 : k < 3
      · obtain ⟨u, R2, rfl⟩ : ∃ u R2, R = u :: R2 := by
          cases R with
          | nil => simp at hsl; omega
          | cons u R2 => exact ⟨u, R2, rfl⟩
        have c0 : wr.cell? ⟨w.heap.size, n + k, none⟩ = some u := hr.cell (by rw [← List.append_assoc, List.getElem?_append_right (by rw [List.length_append, List.length_replicate, HLL.out]; omega), List.length_append, List.length_replicate, HLL.out, Nat.sub_self]; rfl)
        have f0 := hr.frozen (n + k)
        have hset := hr.set (n + k) (.string x)
        rw [set_mid L (.string x) u R2 k n HLL.out] at hset
        have hB2 : Below w.heap.size w (wr.setCell ⟨w.heap.size, n + k, none⟩ (.string x)) := Below.setCell hB (p := ⟨w.heap.size, n + k, none⟩) (Nat.le_refl _) _
        have HREL : Hid (RmTRel L (.string x) w.heap.size w (.int .i64 ((k + 1 : Nat) : Int)) (wr.setCell ⟨w.heap.size, n + k, none⟩ (.string x))) := ⟨k + 1, by omega, rfl, hB2, R2, hset, by simp at hsl; omega⟩
        have d1 : decide ((k : Int) < 3) = true := by rw [decide_eq_true_iff]; omega
        have p1 : IntKind.i64.wrap ((n : Int) + (k : Int)) = (n : Int) + (k : Int) := IntWalk.i64_in _ (by omega)
        have p2 : (0 : Int) ≤ (n : Int) + (k : Int) := by omega
        have p3 : ((n : Int) + (k : Int)).toNat = n + k := by omega
        have p4 : ((n : Int) + 3).toNat = n + 3 := by omega
        have p5 : (0 : Int) ≤ (n : Int) + 3 := by omega
        have p6 : (n : Int) + (k : Int) < (n : Int) + 3 := by omega
        clear hset hB2 hB hr hsl
        go_wp2_with fail
        go_roundw
        case rel => exact HREL.out
        case measure => simp only [intOf]; omega
      · have hk3 : k = 3 := by omega
        subst hk3
        have d1 : decide ((3 : Int) < 3) = false := by decide
        have hnil : R = [] := List.eq_nil_of_length_eq_zero (by omega)
        subst hnil
        rw [List.append_nil] at hr
        have HR := Lib.hid hr
        have HB := Lib.hid hB
        clear hr hB hsl
        go_wp2_with fail
        go_ret
        exact ⟨w.heap.size, rfl, Nat.le_refl _, HR.out, HB.out⟩

def MkTRel (w : World) (i : Value) (wr : World) : Prop := ∃ k : Nat, k ≤ 3 ∧ i = .int .i64 (k : Int) ∧ Up w wr

set_option maxRecDepth 100000 in
set_option maxHeartbeats 1000000 in
theorem markedT_any (g n : Nat) (L : List Value) (x : ByteArray) (w : World) (hr : RowC w g 9 (L ++ List.replicate 3 (.string x))) (hlL : L.length = n) (hl : n * 16 ≤ 140737488351232) :
    Calls Try.prog 16 #[.slice (some ⟨g, 0, none⟩) n (n + 3), .string x] w fun e w' => e = .returned (.bool true) ∧ Up w w' := by
  have HR := Lib.hid hr
  have HL := Lib.hid hlL
  have p1 : ¬ n + 3 = n := by omega
  have p2 : n + 3 - n = 3 := by omega
  have p3 : n ≤ n + 3 := by omega
  have se1 : (x.toList == x.toList) = true := by simp
  have se2 : (x.toList != x.toList) = false := by simp
  clear hr hlL
  go_enter Try.func16, Try.ntmps16
  go_wp2_with fail
  go_loopw [14] (fun i wr => MkTRel w i wr) (fun i _ => 3 - (intOf i).toNat)
  case atStart => exact ⟨0, by omega, rfl, Up.refl w⟩
  case round =>
    obtain ⟨k, hk, rfl, hu⟩ := hrel
    have HU := Lib.hid hu
    by_cases hlt : k < 3
    · have c0 : wr.cell? ⟨g, n + k, none⟩ = some (.string x) := (HR.out.up hu).cell (by rw [List.getElem?_append_right (by rw [HL.out]; omega), HL.out, Nat.add_sub_cancel_left, List.getElem?_replicate, if_pos hlt])
      have d1 : decide ((k : Int) < 3) = true := by rw [decide_eq_true_iff]; omega
      clear hu
      go_wp2_with fail
      go_roundw
      case rel => exact ⟨k + 1, by omega, by go_num, HU.out⟩
      case measure => simp only [intOf]; omega
    · have hk3 : k = 3 := by omega
      subst hk3
      have d1 : decide ((3 : Int) < 3) = false := by decide
      clear hu
      go_wp2_with fail
      go_ret
      exact ⟨rfl, HU.out⟩

end Go.Proofs.Ytemineffflodcaa
