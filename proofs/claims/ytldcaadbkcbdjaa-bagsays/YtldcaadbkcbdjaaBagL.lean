/-
  What the helpers of the laws on bags return: two, refs, used, and slices.Equal of two rows of items that read alike. Conditions: as each says.
-/
import Derived.Test.YtldcaadbkcbdjaaBagC
import Derived.Test.YtldcaadbkcbdjaaBagP
namespace Go.Proofs.Ytldcaadbkcbdjaa
open Go.RowKit
open Go.Proofs
open WoolBag

/-- the two blocks -/
def one1 : List Itm := (WoolBag.put FP [] [97]).1
def twoL : List Itm := (WoolBag.put FP one1 [98]).1

theorem one_put : ∃ i, WoolBag.put FP [] [97] = (one1, i, 0) ∧ ∀ x ∈ one1, x.t = [97] := by
  have h := put_new (F := FP) (l := []) (t := [97]) Bag.nil (by simp) (by simp) (by simp)
  refine ⟨idOf (new FP [] [97]), ?_, ?_⟩
  · unfold one1; rw [h]
  · unfold one1; rw [h]
    intro x hx
    rcases mem_ins.1 hx with rfl | hx
    · rfl
    · simp at hx

theorem one_len : one1.length = 1 := by
  obtain ⟨i, h, _⟩ := one_put
  rw [length_put h, if_neg (by simp)]; rfl

theorem two_put : ∃ i, WoolBag.put FP one1 [98] = (twoL, i, 0) := by
  obtain ⟨i, h, ht⟩ := one_put
  have h2 := put_new (F := FP) (l := one1) (t := [98]) (put_spec h).1 (by simp) (fun x hx e => by rw [ht x hx] at e; cases e) (by rw [one_len]; omega)
  exact ⟨idOf (new FP one1 [98]), by unfold twoL; rw [h2]⟩

theorem two_bag : Bag FP twoL := by
  obtain ⟨i, h⟩ := two_put
  exact (put_spec h).1

theorem two_len : twoL.length = 2 := by
  obtain ⟨i, h⟩ := two_put
  obtain ⟨j, h1, ht⟩ := one_put
  rw [length_put h, one_len, if_neg (by rintro ⟨x, hx, e⟩; rw [ht x hx] at e; cases e)]

set_option maxRecDepth 100000 in
set_option maxHeartbeats 1000000 in
theorem two_any (w : World) : Calls Try.prog 19 #[] w (OwnPost w twoL) := by
  have hA := fun W => put_any (.slice none 0 0) [] [97] W (Items.nil W)
  obtain ⟨i1, h1, _⟩ := one_put
  obtain ⟨i2, h2⟩ := two_put
  rw [h1] at hA
  have HA := Lib.hid hA
  have HB : Hid (∀ v W, Items W v one1 → Calls Try.prog 10 #[v, .string (bs [98])] W (PutPost W (twoL, i2, 0))) := fun v W h => by rw [← h2]; exact put_any v one1 [98] W h
  have hs1 : bs [97] = ⟨#[97]⟩ := rfl
  have hs2 : bs [98] = ⟨#[98]⟩ := rfl
  rw [hs1] at HA
  rw [hs2] at HB
  clear hA h1 h2 hs1 hs2
  go_enter Try.func19, Try.ntmps19
  go_wp2_with fail
  refine (HA.out _).mono ?_
  rintro e w1 ⟨v1, rfl, ho1, u1⟩
  obtain ⟨ib, is, iN⟩ := i1
  unfold idV
  simp only at ho1 ⊢
  have HO1 := Lib.hid ho1
  have HU1 := Lib.hid u1
  clear ho1 u1
  go_wp2_with fail
  refine (HB.out v1 _ (HO1.out.items.up (Up.alloc _ _))).mono ?_
  rintro e w2 ⟨v2, rfl, ho2, u2⟩
  obtain ⟨jb, js, jN⟩ := i2
  unfold idV
  simp only at ho2 ⊢
  have HO2 := Lib.hid ho2
  have HU2 : Hid (Up w w2) := HU1.out.trans (Up.after _ _ _ u2)
  have HSZ : Hid (w.heap.size ≤ (w1.alloc (.cells #[.bool ib, .int .i64 is, .int .i64 iN] 24)).heap.size) := Nat.le_trans HU1.out.size (Up.alloc _ _).size
  clear ho2 u2
  go_wp2_with fail
  go_ret
  exact ⟨v2, rfl, HO2.out.base HSZ.out, HU2.out⟩

def EqIRel (N : Nat) (w : World) (i : Value) (wr : World) : Prop := ∃ k : Nat, k ≤ N ∧ i = .int .i64 k ∧ Up w wr

set_option maxRecDepth 100000 in
set_option maxHeartbeats 400000 in
theorem equalI_yes (v1 v2 : Value) (l : List Itm) (w : World) (h1 : Items w v1 l) (h2 : Items w v2 l) :
    Calls Try.prog 16 #[v1, v2] w fun e w' => e = .returned (.bool true) ∧ Up w w' := by
  obtain ⟨o1, c1, rfl, p1, p2, p3⟩ := h1
  obtain ⟨o2, c2, rfl, q1, q2, q3⟩ := h2
  have HP := Lib.hid p3
  have HQ := Lib.hid q3
  unfold maxLen at p2 q2
  clear p3 q3
  go_enter Try.func16, Try.ntmps16
  go_wp2_with fail
  go_loopw [13] (fun i wr => EqIRel l.length w i wr) (fun i _ => l.length - (intOf i).toNat)
  case atStart => exact ⟨0, Nat.zero_le _, rfl, Up.refl w⟩
  case round =>
    obtain ⟨k, hk, rfl, hu⟩ := hrel
    by_cases hlt : k < l.length
    · rcases HP.out with h5 | ⟨b, off, rfl, h5⟩
      · rw [h5] at hlt; simp at hlt
      · rcases HQ.out with h6 | ⟨b', off', rfl, h6⟩
        · rw [h6] at hlt; simp at hlt
        · obtain ⟨e1, e2, e3, e4⟩ := h5 k hlt
          rw [← hu.cell (World.block_lt_of_cell? w _ e1)] at e1
          rw [← hu.cell (World.block_lt_of_cell? w _ e2)] at e2
          rw [← hu.cell (World.block_lt_of_cell? w _ e3)] at e3
          rw [← hu.cell (World.block_lt_of_cell? w _ e4)] at e4
          obtain ⟨f1, f2, f3, f4⟩ := h6 k hlt
          rw [← hu.cell (World.block_lt_of_cell? w _ f1)] at f1
          rw [← hu.cell (World.block_lt_of_cell? w _ f2)] at f2
          rw [← hu.cell (World.block_lt_of_cell? w _ f3)] at f3
          rw [← hu.cell (World.block_lt_of_cell? w _ f4)] at f4
          generalize l[k].s = xs at e1 f1
          generalize l[k].n = xn at e2 f2
          generalize bs l[k].t = xt at e3 f3
          generalize l[k].r = xr at e4 f4
          have HU := Lib.hid hu
          have d1 : decide (k < l.length) = true := decide_eq_true hlt
          clear h5 h6 hu
          go_wp2_with fail
          go_quiet (fail)
          go_wp2_with fail
          go_roundw
          case rel => exact ⟨k + 1, by omega, by go_num, HU.out.trans (Up.drewN _ _)⟩
          case measure => simp only [intOf]; omega
    · have d1 : decide (k < l.length) = false := decide_eq_false hlt
      go_wp2_with fail
      go_ret
      exact ⟨rfl, hu⟩

def RefsRel (l : List Itm) (w : World) (n i : Value) (wr : World) : Prop :=
  ∃ k : Nat, k ≤ l.length ∧ i = .int .i64 k ∧ n = .int .i64 (refs (l.take k)) ∧ Up w wr

set_option maxRecDepth 100000 in
set_option maxHeartbeats 400000 in
theorem refs_any (v : Value) (l : List Itm) (w : World) (h : Items w v l) (hb : Bag FP l) :
    Calls Try.prog 20 #[v] w fun e w' => e = .returned (.int .i64 (refs l)) ∧ Up w w' := by
  obtain ⟨o, c, rfl, h2, h3, h4⟩ := h
  unfold maxLen at h3
  have H4 := Lib.hid h4
  have HB := Lib.hid hb
  clear h4 hb
  go_enter Try.func20, Try.ntmps20
  go_wp2_with fail
  go_loopw [3, 8] (fun n i wr => RefsRel l w n i wr) (fun _ i _ => l.length - (intOf i).toNat)
  case atStart => exact ⟨0, Nat.zero_le _, rfl, rfl, Up.refl w⟩
  case round =>
    obtain ⟨k, hk, rfl, rfl, hu⟩ := hrel
    by_cases hlt : k < l.length
    · rcases H4.out with h5 | ⟨b, off, rfl, h5⟩
      · rw [h5] at hlt; simp at hlt
      · obtain ⟨a1, a2, a3, a4⟩ := h5 k hlt
        rw [← hu.cell (World.block_lt_of_cell? w _ a1)] at a1
        rw [← hu.cell (World.block_lt_of_cell? w _ a2)] at a2
        rw [← hu.cell (World.block_lt_of_cell? w _ a3)] at a3
        rw [← hu.cell (World.block_lt_of_cell? w _ a4)] at a4
        have hr := refs_take HB.out k
        have hok := HB.out.ok _ (List.getElem_mem hlt)
        have r1 := hok.2.2.2.2.1
        have r2 := hok.2.2.2.2.2
        have hs : refs (l.take (k + 1)) = refs (l.take k) + l[k].r := by
          rw [List.take_succ_eq_append_getElem hlt, refs_append, refs_cons]
          show _ + (_ + (0 : Int)) = _
          omega
        have HS := Lib.hid hs
        clear hs hok
        obtain ⟨r, hrr⟩ : ∃ r, l[k].r = r := ⟨_, rfl⟩
        rw [hrr] at a4 r1 r2 HS
        obtain ⟨N, hN⟩ : ∃ N, refs (l.take k) = N := ⟨_, rfl⟩
        rw [hN] at hr HS ⊢
        generalize l[k].s = xs at a1
        generalize l[k].n = xn at a2
        generalize bs l[k].t = xt at a3
        have hw : IntKind.i64.wrap (N + r) = N + r := IntWalk.i64_in _ (by omega)
        have HU := Lib.hid hu
        have d1 : decide (k < l.length) = true := decide_eq_true hlt
        clear h5 hu hrr hN
        go_wp2_with fail
        go_roundw
        case rel => exact ⟨k + 1, by omega, by go_num, by rw [HS.out], HU.out.trans (Up.alloc _ _)⟩
        case measure => simp only [intOf]; omega
    · have d1 : decide (k < l.length) = false := decide_eq_false hlt
      have hte : l.take k = l := List.take_of_length_le (by omega)
      rw [hte]
      clear hte
      go_wp2_with fail
      go_ret
      exact ⟨rfl, hu⟩

def UsedRel (l : List Itm) (u : List UInt8) (w : World) (i : Value) (wr : World) : Prop :=
  ∃ k : Nat, k ≤ l.length ∧ i = .int .i64 k ∧ Up w wr ∧ ∀ j (h : j < l.length), j < k → txtB u l[j] = false

set_option maxRecDepth 100000 in
set_option maxHeartbeats 400000 in
theorem used_any (v : Value) (l : List Itm) (u : List UInt8) (w : World) (h : Items w v l) :
    Calls Try.prog 21 #[v, .string (bs u)] w fun e w' => e = .returned (.int .i64 (used l u)) ∧ Up w w' := by
  obtain ⟨o, c, rfl, h2, h3, h4⟩ := h
  unfold maxLen at h3
  have H4 := Lib.hid h4
  obtain ⟨R, hR⟩ : ∃ R, used l u = R := ⟨_, rfl⟩
  rw [hR]
  unfold used at hR
  have HR := Lib.hid hR
  clear h4 hR
  go_enter Try.func21, Try.ntmps21
  go_wp2_with fail
  go_loopw [9] (fun i wr => UsedRel l u w i wr) (fun i _ => l.length - (intOf i).toNat)
  case atStart => exact ⟨0, Nat.zero_le _, rfl, Up.refl w, fun j _ hj => by omega⟩
  case round =>
    obtain ⟨k, hk, rfl, hu, hno⟩ := hrel
    have HN := Lib.hid hno
    clear hno
    by_cases hlt : k < l.length
    · rcases H4.out with h5 | ⟨b, off, rfl, h5⟩
      · rw [h5] at hlt; simp at hlt
      · obtain ⟨a1, a2, a3, a4⟩ := h5 k hlt
        rw [← hu.cell (World.block_lt_of_cell? w _ a1)] at a1
        rw [← hu.cell (World.block_lt_of_cell? w _ a2)] at a2
        rw [← hu.cell (World.block_lt_of_cell? w _ a3)] at a3
        rw [← hu.cell (World.block_lt_of_cell? w _ a4)] at a4
        have hq := txt_eq l[k].t u
        obtain ⟨P, hP⟩ : ∃ P, txtB u l[k] = P := ⟨_, rfl⟩
        rw [show (l[k].t == u) = txtB u l[k] from rfl, hP] at hq
        have HPP := Lib.hid hP
        obtain ⟨r, hr⟩ : ∃ r, l[k].r = r := ⟨_, rfl⟩
        rw [hr] at a4
        have HRK := Lib.hid hr
        generalize l[k].s = xs at a1
        generalize l[k].n = xn at a2
        generalize bs l[k].t = xt at a3 hq
        have HU := Lib.hid hu
        have d1 : decide (k < l.length) = true := decide_eq_true hlt
        clear h5 hu hP hr
        cases P with
        | true =>
          have HV : Hid (R = r) := by
            show R = r
            rw [← HR.out, idx_of hlt HPP.out (fun j hj => HN.out j (by omega) hj)]
            simp only
            rw [getElem!_pos l k hlt, HRK.out]
          go_wp2_with fail
          go_ret
          exact ⟨by rw [HV.out]; rfl, HU.out.trans (Up.alloc _ _)⟩
        | false =>
          go_wp2_with fail
          go_roundw
          case rel =>
            refine ⟨k + 1, by omega, by go_num, HU.out.trans (Up.alloc _ _), fun j hj hjk => ?_⟩
            by_cases e : j = k
            · subst e; exact HPP.out
            · exact HN.out j hj (by omega)
          case measure => simp only [intOf]; omega
    · have d1 : decide (k < l.length) = false := decide_eq_false hlt
      have HV : Hid (R = 0) := by
        show R = 0
        rw [← HR.out, idx_none.2 (fun x hx => by obtain ⟨i, hi, rfl⟩ := List.getElem_of_mem hx; exact HN.out i hi (by omega))]
      go_wp2_with fail
      go_ret
      exact ⟨by rw [HV.out]; rfl, hu⟩

end Go.Proofs.Ytldcaadbkcbdjaa
