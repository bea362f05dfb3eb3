/-
  The texts Diff1, Diff2, one behind the other; each says below what it holds and on what conditions.
-/
import Derived.Test.YtnmdfdkagkpcaaaJVolOwn21
import Derived.Test.YtnmdfdkagkpcaaaJVolOwn47
import Derived.Test.YtnmdfdkagkpcaaaJVolOwn22
import Derived.Test.YtnmdfdkagkpcaaaJVolOwn01
import Derived.OwnWalk
import Derived.Laws.OwnMore
import Derived.Deep.Cut
import Derived.Deep.QuietTactic
import Derived.BigQuiet
import Derived.Test.YtnmdfdkagkpcaaaJVolOwn41
import Derived.Test.YtnmdfdkagkpcaaaJVolOwn25

/-
  What diff's both and Diff return. Conditions: a state that can be read.
-/
namespace Go.Proofs.Ytnmdfdkagkpcaaa
open Go.RowKit
open Go.Proofs
open WoolBag
open WoolVol

theorem row_newD (w : World) (L : List Value) (t : TypeId) : ∀ j u, L[j]? = some u → (w.alloc (.cells L.toArray t)).cell? ((⟨w.heap.size, 0, none⟩ : Addr).add j) = some u := by
  intro j u hj
  rw [add_off, Nat.zero_add, cell_of_row _ _ j _ _ _ (heap_alloc_new w _), ← hj]
  simp

/-- the blocks of two volumes -/
def bothR (st : Sta) (a b : List UInt8) : List Idn × List Idn × Int :=
  if (blocks FP st a).2 ≠ 0 then ([], [], (blocks FP st a).2) else if (blocks FP st b).2 ≠ 0 then ([], [], (blocks FP st b).2) else ((blocks FP st a).1, (blocks FP st b).1, 0)

def BothPost (w : World) (r : List Idn × List Idn × Int) (e : Ending) (w' : World) : Prop := ∃ v1 v2, e = .returned (.tuple #[v1, v2, .int .i64 r.2.2]) ∧ Ids w' v1 r.1 ∧ Ids w' v2 r.2.1 ∧ Up w w'

set_option maxRecDepth 100000 in
set_option maxHeartbeats 1000000 in
theorem both_any (v : Value) (st : Sta) (a b : List UInt8) (w : World) (h : Stat w v st) (hwf : WfS st) :
    Calls Try.prog 31 #[v, .string (bs a), .string (bs b)] w (BothPost w (bothR st a b)) := by
  have HA := Lib.hid (fun W (hW : Up w W) => blocks_any v st a W (h.up hW) hwf)
  have HB := Lib.hid (fun W (hW : Up w W) => blocks_any v st b W (h.up hW) hwf)
  unfold BlPost at HA HB
  obtain ⟨vb, vv, rfl, hb, hv⟩ := h
  obtain ⟨oB, cB, rfl, _⟩ := hb.slice
  obtain ⟨oV, cV, rfl, _, _⟩ := hv.slice
  clear hb hv hwf
  obtain ⟨RS, hRS⟩ : ∃ RS, bothR st a b = RS := ⟨_, rfl⟩
  rw [hRS]
  unfold bothR at hRS
  obtain ⟨A, hA⟩ : ∃ A, blocks FP st a = A := ⟨_, rfl⟩
  obtain ⟨B, hB⟩ : ∃ B, blocks FP st b = B := ⟨_, rfl⟩
  rw [hA, hB] at hRS
  rw [hA] at HA
  rw [hB] at HB
  have HRS := Lib.hid hRS
  clear hRS hA hB
  generalize st.b.length = M at *
  generalize st.v.length = N at *
  obtain ⟨A1, AE⟩ := A
  obtain ⟨B1, BE⟩ := B
  simp only at HA HB HRS
  have HRA : Hid (RowC (w.alloc (.cells #[.slice oB M cB, .slice oV N cV] 31)) w.heap.size 31 [.slice oB M cB, .slice oV N cV]) := heap_alloc_new w _
  have HW0 : Hid (Up w (w.alloc (.cells #[.slice oB M cB, .slice oV N cV] 31))) := Up.alloc _ _
  go_enter Try.func31, Try.ntmps31
  go_upto_region 1 with (fail)
  generalize (w.alloc (.cells #[.slice oB M cB, .slice oV N cV] 31)) = W0 at HRA HW0 ⊢
  have q0 := HRA.out.cell (j := 0) rfl
  have q1 := HRA.out.cell (j := 1) rfl
  go_wp2_with fail
  refine (HA.out _ HW0.out).mono ?_
  rintro e w1 ⟨v1, rfl, hi1, u1⟩
  obtain ⟨o1, c1, rfl, _, _⟩ := hi1.slice
  have HI1 := Lib.hid hi1
  have HA1 := Lib.hid (HRA.out.up u1)
  have HU1 := Lib.hid (HW0.out.trans u1)
  clear q0 q1 hi1 u1
  by_cases hA0 : AE = 0
  · subst hA0
    have q0 := HA1.out.cell (j := 0) rfl
    have q1 := HA1.out.cell (j := 1) rfl
    go_wp2_with fail
    refine (HB.out _ HU1.out).mono ?_
    rintro e w2 ⟨v2, rfl, hi2, u2⟩
    obtain ⟨o2, c2, rfl, _, _⟩ := hi2.slice
    have HI2 := Lib.hid hi2
    have HI3 := Lib.hid (HI1.out.up u2)
    have HU2 := Lib.hid (HU1.out.trans u2)
    clear q0 q1 hi2 u2
    by_cases hB0 : BE = 0
    · subst hB0
      have HRZ : Hid (RS = (A1, B1, 0)) := by show _ = _; rw [← HRS.out]; rfl
      go_wp2_with fail
      exact bodyPost_ret (v := .tuple #[.slice o1 A1.length c1, .slice o2 B1.length c2, .int .i64 0]) (by simp [results, Try.results31, go_sem]) rfl ⟨_, _, by rw [HRZ.out], by rw [HRZ.out]; exact HI3.out, by rw [HRZ.out]; exact HI2.out, HU2.out⟩
    · have hne : (BE != 0) = true := by rw [bne_iff_ne]; exact hB0
      have HRZ : Hid (RS = ([], [], BE)) := by show _ = _; rw [← HRS.out, if_neg (by simp), if_pos hB0]
      clear hB0
      go_wp2_with fail
      exact bodyPost_ret (v := .tuple #[.slice none 0 0, .slice none 0 0, .int .i64 BE]) (by simp [results, Try.results31, go_sem]) rfl ⟨_, _, by rw [HRZ.out], by rw [HRZ.out]; exact Ids.nil _, by rw [HRZ.out]; exact Ids.nil _, HU2.out⟩
  · have hne : (AE != 0) = true := by rw [bne_iff_ne]; exact hA0
    have HRZ : Hid (RS = ([], [], AE)) := by show _ = _; rw [← HRS.out, if_pos hA0]
    clear hA0
    go_wp2_with fail
    exact bodyPost_ret (v := .tuple #[.slice none 0 0, .slice none 0 0, .int .i64 AE]) (by simp [results, Try.results31, go_sem]) rfl ⟨_, _, by rw [HRZ.out], by rw [HRZ.out]; exact Ids.nil _, by rw [HRZ.out]; exact Ids.nil _, HU1.out⟩

/-- the places at which two rows differ, of the first k -/
def dif (a b : List Idn) (k : Nat) : List Int := ((List.range k).filter (fun i => !(a[i]! == b[i]!))).map (fun i : Nat => (i : Int))

theorem dif_zero (a b : List Idn) : dif a b 0 = [] := rfl
theorem dif_eq {a b : List Idn} {k : Nat} (h : a[k]! = b[k]!) : dif a b (k + 1) = dif a b k := by
  have hc : (!(a[k]! == b[k]!)) = false := by rw [h]; simp
  unfold dif; rw [List.range_succ, List.filter_append, List.filter_cons, hc]; simp
theorem dif_ne {a b : List Idn} {k : Nat} (h : a[k]! ≠ b[k]!) : dif a b (k + 1) = dif a b k ++ [(k : Int)] := by
  have hc : (!(a[k]! == b[k]!)) = true := by simpa [bne_iff_ne] using h
  unfold dif; rw [List.range_succ, List.filter_append, List.filter_cons, hc, List.map_append]; simp
theorem dif_len (a b : List Idn) (k : Nat) : (dif a b k).length ≤ k := by
  unfold dif; rw [List.length_map]; exact Nat.le_trans (List.length_filter_le _ _) (by simp)

theorem OInts.more {w wr w3 : World} {base : Nat} {v v' : Value} {l : List Int} {i : Int} {o : Obj} (hu : Up w wr) (hb : w.heap.size ≤ base) (h : OInts wr base v l)
    (hown : w3.ownsRow base 3 1 v' (l.length + 1) (inL l ++ [.int .i64 i])) (hg : (wr.alloc o).grownBy w3 v.ownBlock) : OInts w3 base v' (l ++ [i]) ∧ Up w w3 := by
  refine ⟨?_, Below.grown (hu.trans (Up.alloc _ _)) hg (hu.trans (Up.alloc _ _)).size (fun k hk => Nat.le_trans hb (World.ownsRow.lt h k hk).1)⟩
  unfold OInts inL
  rw [List.map_append, List.length_append]
  exact hown

/-- what Diff answers -/
def difR (st : Sta) (a b : List UInt8) : List Int × Int :=
  if (bothR st a b).2.2 ≠ 0 then ([], (bothR st a b).2.2) else if (bothR st a b).1.length ≠ (bothR st a b).2.1.length then ([], 11) else (dif (bothR st a b).1 (bothR st a b).2.1 (bothR st a b).1.length, 0)

def DfPost (w : World) (r : List Int × Int) (e : Ending) (w' : World) : Prop := ∃ v', e = .returned (.tuple #[v', .int .i64 r.2]) ∧ OInts w' w.heap.size v' r.1 ∧ Up w w'

def DfRel (a b : List Idn) (base : Nat) (w1 : World) (at_ i : Value) (wr : World) : Prop := ∃ k : Nat, k ≤ a.length ∧ i = .int .i64 k ∧ OInts wr base at_ (dif a b k) ∧ Up w1 wr

theorem bothR_len {st : Sta} {a b : List UInt8} : (bothR st a b).1.length ≤ 32 := by
  unfold bothR
  by_cases h1 : (blocks FP st a).2 ≠ 0
  · rw [if_pos h1]; simp
  · rw [if_neg h1]
    by_cases h2 : (blocks FP st b).2 ≠ 0
    · rw [if_pos h2]; simp
    · rw [if_neg h2]
      have h1' : (vfind FP st a).2 = 0 := by
        apply Classical.byContradiction
        intro hne
        unfold blocks at h1
        rw [if_pos hne] at h1
        exact h1 hne
      obtain ⟨hc, k, hk, hf, _, _⟩ := vfind_ok h1'
      unfold blocks
      rw [hf, if_neg (by simp)]
      show (st.v[k]!).bl.length ≤ 32
      rw [getElem!_pos st.v k hk]
      exact ((chkS_zero.1 hc).vol _ (List.getElem_mem hk)).2.1

set_option maxRecDepth 100000 in
set_option maxHeartbeats 1000000 in
theorem diff_any (v : Value) (st : Sta) (a b : List UInt8) (w : World) (h : Stat w v st) (hwf : WfS st) :
    Calls Try.prog 7 #[v, .string (bs a), .string (bs b)] w (DfPost w (difR st a b)) := by
  have HA := Lib.hid (fun W (hW : Up w W) => both_any v st a b W (h.up hW) hwf)
  unfold BothPost at HA
  obtain ⟨vb, vv, rfl, hb, hv⟩ := h
  obtain ⟨oB, cB, rfl, _⟩ := hb.slice
  obtain ⟨oV, cV, rfl, _, _⟩ := hv.slice
  clear hb hv hwf
  obtain ⟨RS, hRS⟩ : ∃ RS, difR st a b = RS := ⟨_, rfl⟩
  rw [hRS]
  unfold difR at hRS
  have HLN := Lib.hid (bothR_len (st := st) (a := a) (b := b))
  obtain ⟨⟨A, B, E⟩, hA⟩ : ∃ A, bothR st a b = A := ⟨_, rfl⟩
  rw [hA] at hRS HA HLN
  have HRS := Lib.hid hRS
  clear hRS hA
  generalize st.b.length = M at *
  generalize st.v.length = N at *
  simp only at HA HRS HLN
  have HW0 : Hid (Up w (w.alloc (.cells #[.slice oB M cB, .slice oV N cV] 31))) := Up.alloc _ _
  obtain ⟨i0, hi, hz0, hz1, hz2⟩ := inInfo
  have HI := Lib.hid hi
  have HZ0 := Lib.hid hz0
  have HZ1 := Lib.hid hz1
  have HZ2 := Lib.hid hz2
  clear hi hz0 hz1 hz2
  go_enter Try.func7, Try.ntmps7
  go_wp2_with fail
  generalize (w.alloc (.cells #[.slice oB M cB, .slice oV N cV] 31)) = W0 at HW0 ⊢
  refine (HA.out _ HW0.out).mono ?_
  rintro e w1 ⟨v1, v2, rfl, hi1, hi2, u1⟩
  obtain ⟨o1, c1, rfl, hc1, hc1'⟩ := hi1.slice
  obtain ⟨o2, c2, rfl, hc2, hc2'⟩ := hi2.slice
  unfold maxLen at hc1' hc2'
  have HP := Lib.hid hi1
  have HQ := Lib.hid hi2
  have HU1 := Lib.hid (HW0.out.trans u1)
  clear hi1 hi2 u1
  by_cases hE : E = 0
  · subst hE
    have hl32 := HLN.out
    by_cases hlen : A.length = B.length
    · have HRZ : Hid (RS = (dif A B A.length, 0)) := by show _ = _; rw [← HRS.out, if_neg (by simp), if_neg (by simpa using hlen)]
      have HLE := Lib.hid hlen
      rw [← hlen] at hc2 HQ ⊢
      clear hlen
      go_wp2_with fail
      go_loopw [11, 31] (fun at_ i wr => DfRel A B w1.heap.size w1 at_ i wr) (fun _ i _ => A.length - (intOf i).toNat)
      case atStart => exact ⟨0, Nat.zero_le _, rfl, OInts.nil _ _, Up.refl _⟩
      case round =>
        obtain ⟨k, hk, rfl, hown, hu⟩ := hrel
        obtain ⟨oC, cC, hvv, hcC, hcC', _⟩ := hown.shape
        subst hvv
        unfold maxLen at hcC'
        have HO := Lib.hid hown
        have HU := Lib.hid hu
        have hdl := dif_len A B k
        by_cases hlt : k < A.length
        · have hltB : k < B.length := by rw [← HLE.out]; exact hlt
          obtain ⟨b1, off1, rfl, h5⟩ := HP.out.at (by intro e; rw [e] at hlt; simp at hlt)
          obtain ⟨b2, off2, hb2, h6⟩ := HQ.out.at (by intro e; rw [e] at hltB; simp at hltB)
          subst hb2
          obtain ⟨e1, e2, e3⟩ := h5 k hlt
          obtain ⟨f1, f2, f3⟩ := h6 k hltB
          rw [← hu.cell (World.block_lt_of_cell? w1 _ e1)] at e1
          rw [← hu.cell (World.block_lt_of_cell? w1 _ e2)] at e2
          rw [← hu.cell (World.block_lt_of_cell? w1 _ e3)] at e3
          rw [← hu.cell (World.block_lt_of_cell? w1 _ f1)] at f1
          rw [← hu.cell (World.block_lt_of_cell? w1 _ f2)] at f2
          rw [← hu.cell (World.block_lt_of_cell? w1 _ f3)] at f3
          have hax : A[k]! = A[k] := getElem!_pos A k hlt
          have hbx : B[k]! = B[k] := getElem!_pos B k hltB
          obtain ⟨x, hx⟩ : ∃ x, A[k] = x := ⟨_, rfl⟩
          obtain ⟨y, hy⟩ : ∃ y, B[k] = y := ⟨_, rfl⟩
          have HAX : Hid (A[k]! = x) := hax.trans hx
          have HBX : Hid (B[k]! = y) := hbx.trans hy
          rw [hx] at e1 e2 e3
          rw [hy] at f1 f2 f3
          obtain ⟨xb, xs, xn⟩ := x
          obtain ⟨yb, ys, yn⟩ := y
          simp only at e1 e2 e3 f1 f2 f3
          have d1 : decide (k < A.length) = true := decide_eq_true hlt
          clear h5 h6 hax hbx hx hy hown hu
          by_cases hxy : ((xb, xs, xn) : Idn) = (yb, ys, yn)
          · simp only [Prod.mk.injEq] at hxy
            obtain ⟨rfl, rfl, rfl⟩ := hxy
            have HDE := Lib.hid (dif_eq (HAX.out.trans HBX.out.symm))
            go_wp2_with fail
            go_quiet (fail)
            go_wp2_with fail
            go_roundw
            case rel => exact ⟨k + 1, by omega, by go_num, by rw [HDE.out]; exact HO.out.up (Up.drewN _ _), HU.out.trans (Up.drewN _ _)⟩
            case measure => simp only [intOf]; omega
          · have HDN := Lib.hid (dif_ne (a := A) (b := B) (k := k) (by rw [HAX.out, HBX.out]; exact hxy))
            have hc : (xb ≠ yb) ∨ (xb = yb ∧ (xs == ys) = false) ∨ (xb = yb ∧ xs = ys ∧ (xn == yn) = false) := by
              simp only [Prod.mk.injEq] at hxy
              by_cases h1 : xb = yb
              · by_cases h2 : xs = ys
                · exact .inr (.inr ⟨h1, h2, by simpa using fun h3 => hxy ⟨h1, h2, h3⟩⟩)
                · exact .inr (.inl ⟨h1, by simpa using h2⟩)
              · exact .inl h1
            clear hxy
            go_wp2_with fail
            rcases hc with hc | ⟨rfl, hc⟩ | ⟨rfl, rfl, hc⟩
            · have hc2 : (xb == yb) = false := by simpa using hc
              clear hc
              go_quiet (fail)
              have hu5 : Up wr (wr.drewN nq) := Up.drewN _ _
              have HO5 := Lib.hid (HO.out.up hu5)
              have HU5 := Lib.hid (HU.out.trans hu5)
              clear hu5 e1 e2 e3 f1 f2 f3
              generalize wr.drewN nq = W5 at HO5 HU5 ⊢
              have hws := HU5.out.size
              go_wp2_with (at_builtin; refine wpList_append_own _ rfl _ _ 24 rfl w1.heap.size 3 i0 (.int .i64 0) 1 8 Try.underlying24 HI.out HZ0.out HZ1.out HZ2.out rfl (by decide) _ _ _ rfl (World.ownsRow.alloc HO5.out _) ⟨W5.heap.size, 0, none⟩ 1 1 [.int .i64 (k : Int)] rfl rfl (row_newD _ _ _) (by simp [Value.oneCell']) (by unfold maxLen; omega) (by omega) (by simp; omega) ?_; intro v7 w7 hown hgrow _; obtain ⟨hm1, hm2⟩ := OInts.more HU5.out (Nat.le_refl _) HO5.out hown hgrow)
              go_roundw
              case rel => exact ⟨k + 1, by omega, by go_num, by rw [HDN.out]; exact hm1, hm2⟩
              case measure => simp only [intOf]; omega
            · go_quiet (fail)
              have hu5 : Up wr (wr.drewN nq) := Up.drewN _ _
              have HO5 := Lib.hid (HO.out.up hu5)
              have HU5 := Lib.hid (HU.out.trans hu5)
              clear hu5 e1 e2 e3 f1 f2 f3
              generalize wr.drewN nq = W5 at HO5 HU5 ⊢
              have hws := HU5.out.size
              go_wp2_with (at_builtin; refine wpList_append_own _ rfl _ _ 24 rfl w1.heap.size 3 i0 (.int .i64 0) 1 8 Try.underlying24 HI.out HZ0.out HZ1.out HZ2.out rfl (by decide) _ _ _ rfl (World.ownsRow.alloc HO5.out _) ⟨W5.heap.size, 0, none⟩ 1 1 [.int .i64 (k : Int)] rfl rfl (row_newD _ _ _) (by simp [Value.oneCell']) (by unfold maxLen; omega) (by omega) (by simp; omega) ?_; intro v7 w7 hown hgrow _; obtain ⟨hm1, hm2⟩ := OInts.more HU5.out (Nat.le_refl _) HO5.out hown hgrow)
              go_roundw
              case rel => exact ⟨k + 1, by omega, by go_num, by rw [HDN.out]; exact hm1, hm2⟩
              case measure => simp only [intOf]; omega
            · go_quiet (fail)
              have hu5 : Up wr (wr.drewN nq) := Up.drewN _ _
              have HO5 := Lib.hid (HO.out.up hu5)
              have HU5 := Lib.hid (HU.out.trans hu5)
              clear hu5 e1 e2 e3 f1 f2 f3
              generalize wr.drewN nq = W5 at HO5 HU5 ⊢
              have hws := HU5.out.size
              go_wp2_with (at_builtin; refine wpList_append_own _ rfl _ _ 24 rfl w1.heap.size 3 i0 (.int .i64 0) 1 8 Try.underlying24 HI.out HZ0.out HZ1.out HZ2.out rfl (by decide) _ _ _ rfl (World.ownsRow.alloc HO5.out _) ⟨W5.heap.size, 0, none⟩ 1 1 [.int .i64 (k : Int)] rfl rfl (row_newD _ _ _) (by simp [Value.oneCell']) (by unfold maxLen; omega) (by omega) (by simp; omega) ?_; intro v7 w7 hown hgrow _; obtain ⟨hm1, hm2⟩ := OInts.more HU5.out (Nat.le_refl _) HO5.out hown hgrow)
              go_roundw
              case rel => exact ⟨k + 1, by omega, by go_num, by rw [HDN.out]; exact hm1, hm2⟩
              case measure => simp only [intOf]; omega
        · have d1 : decide (k < A.length) = false := decide_eq_false hlt
          have hkA : k = A.length := by omega
          subst hkA
          clear hown hu
          go_wp2_with fail
          have HU2 := Lib.hid (HU1.out.trans HU.out)
          exact bodyPost_ret (v := .tuple #[.slice oC (dif A B A.length).length cC, .int .i64 0]) (by simp [results, Try.results7, go_sem]) rfl ⟨_, by rw [HRZ.out], by rw [HRZ.out]; exact own_base HO.out (HU1.out.size), HU2.out⟩
    · have HRZ : Hid (RS = ([], 11)) := by show _ = _; rw [← HRS.out, if_neg (by simp), if_pos hlen]
      have hne : (((A.length : Nat) : Int) != ((B.length : Nat) : Int)) = true := by rw [bne_iff_ne]; omega
      clear hlen
      go_wp2_with fail
      exact bodyPost_ret (v := .tuple #[.slice none 0 0, .int .i64 11]) (by simp [results, Try.results7, go_sem]) rfl ⟨_, by rw [HRZ.out], by rw [HRZ.out]; exact OInts.nil _ _, HU1.out⟩
  · have hne : (E != 0) = true := by rw [bne_iff_ne]; exact hE
    have HRZ : Hid (RS = ([], E)) := by show _ = _; rw [← HRS.out, if_pos hE]
    clear hE
    go_wp2_with fail
    exact bodyPost_ret (v := .tuple #[.slice none 0 0, .int .i64 E]) (by simp [results, Try.results7, go_sem]) rfl ⟨_, by rw [HRZ.out], by rw [HRZ.out]; exact OInts.nil _ _, HU1.out⟩

end Go.Proofs.Ytnmdfdkagkpcaaa

/-
  What diff's copyBlock and Copy return. Conditions: a state that can be read.
-/
namespace Go.Proofs.Ytnmdfdkagkpcaaa
open Go.RowKit
open Go.Proofs
open WoolBag
open WoolVol

set_option maxRecDepth 100000 in
set_option maxHeartbeats 1000000 in
theorem copyBlock_own (v : Value) (st0 cur : Sta) (kf j : Nat) (a b : List UInt8) (w : World) (h : Stat w v cur) (hI : CpI st0 kf cur) (g0 : WoolVol.Good FP st0) (hx : vix (nmB a) st0.v = some kf) (hk : kf < st0.v.length) (hj : j < st0.v[kf].bl.length) :
    Calls Try.prog 34 #[v, .string (bs a), .string (bs b), .int .i64 (j : Int), .bool st0.v[kf].bl[j].1] w (StEPost w (cpStep st0 kf b cur (j : Int))) := by
  have hwf := good_wf hI.good
  have HRD := Lib.hid (fun W (hW : Up w W) => read_any v cur a (j : Int) W (h.up hW) hwf)
  have HTR := Lib.hid (fun W (hW : Up w W) => trim_any v cur b (j : Int) W (h.up hW) hwf)
  have HWR := Lib.hid (fun t W (hW : Up w W) => write_any v cur b t (j : Int) W (h.up hW) hwf)
  unfold readVR at HRD
  rw [hI.read hx hk hj] at HRD
  have his := tx_is g0 hk hj
  obtain ⟨RS, hRS⟩ : ∃ RS, cpStep st0 kf b cur (j : Int) = RS := ⟨_, rfl⟩
  rw [hRS]
  unfold cpStep at hRS
  rw [Int.toNat_natCast] at hRS
  unfold StEPost at HTR HWR
  obtain ⟨vb, vv, rfl, hb, hv⟩ := h
  obtain ⟨oB, cB, rfl, _⟩ := hb.slice
  obtain ⟨oV, cV, rfl, _, _⟩ := hv.slice
  clear hb hv hwf hI g0 hx
  generalize cur.b.length = M at *
  generalize cur.v.length = N at *
  have HR : Hid (RowC ((w.alloc (.cells #[.slice oB M cB, .slice oV N cV] 31)).alloc (.cells #[.slice none 0 0, .slice none 0 0] 31)) (w.heap.size + 1) 31 [.slice none 0 0, .slice none 0 0]) := box_new w _ _ _ _
  have HA : Hid (RowC ((w.alloc (.cells #[.slice oB M cB, .slice oV N cV] 31)).alloc (.cells #[.slice none 0 0, .slice none 0 0] 31)) w.heap.size 31 [.slice oB M cB, .slice oV N cV]) := RowC.up (heap_alloc_new w _) (Up.alloc _ _)
  have HW0 : Hid (Up w ((w.alloc (.cells #[.slice oB M cB, .slice oV N cV] 31)).alloc (.cells #[.slice none 0 0, .slice none 0 0] 31))) := (Up.alloc _ _).trans (Up.alloc _ _)
  cases ht : txAt st0 kf j with
  | none =>
    rw [ht] at his hRS
    have hfalse : st0.v[kf].bl[j].1 = false := his.symm
    rw [hfalse]
    simp only at hRS
    rw [hRS] at HTR
    clear hRS his ht hfalse HRD HWR
    go_enter Try.func34, Try.ntmps34
    go_wp2_with fail
    generalize ((w.alloc (.cells #[.slice oB M cB, .slice oV N cV] 31)).alloc (.cells #[.slice none 0 0, .slice none 0 0] 31)) = W0 at HR HA HW0 ⊢
    refine (HTR.out _ HW0.out).mono ?_
    rintro e w5 ⟨v5, rfl, ho5, u5⟩
    have HS5 := Lib.hid ho5
    obtain ⟨o5, c5, o6, c6, rfl, _, _, _⟩ := ho5.slices
    have HR5 := Lib.hid (HR.out.up u5)
    have HU5 := Lib.hid (HW0.out.trans u5)
    have r0 := HR5.out.frozen 0
    have r1 := HR5.out.frozen 1
    have r2 := HR5.out.cell (j := 0) rfl
    have r3 := HR5.out.cell (j := 1) rfl
    clear u5 ho5
    go_wp2_with fail
    have hz := (HR5.out.set 0 (.slice o5 RS.1.b.length c5)).set 1 (.slice o6 RS.1.v.length c6)
    have z0 := hz.cell (j := 0) rfl
    have z1 := hz.cell (j := 1) rfl
    have HSZ := Lib.hid (OSt.base (OSt.boxed HS5.out HR5.out) HW0.out.size)
    have HUZ : Hid (Up w ((w5.setCell ⟨w.heap.size + 1, 0, none⟩ (.slice o5 RS.1.b.length c5)).setCell ⟨w.heap.size + 1, 1, none⟩ (.slice o6 RS.1.v.length c6))) := up2 HU5.out (by omega)
    generalize (w5.setCell ⟨w.heap.size + 1, 0, none⟩ (.slice o5 RS.1.b.length c5)).setCell ⟨w.heap.size + 1, 1, none⟩ (.slice o6 RS.1.v.length c6) = WZ at z0 z1 HSZ HUZ ⊢
    exact bodyPost_ret (v := .tuple #[.agg #[.slice o5 RS.1.b.length c5, .slice o6 RS.1.v.length c6], .int .i64 RS.2]) (by simp [results, Try.results34, go_sem, z0, z1]) rfl ⟨_, rfl, HSZ.out, HUZ.out⟩
  | some t =>
    rw [ht] at his hRS HRD
    have htrue : st0.v[kf].bl[j].1 = true := his.symm
    rw [htrue]
    simp only [Option.getD_some] at hRS HRD
    have HWT := Lib.hid (HWR.out t)
    rw [hRS] at HWT
    clear hRS his ht htrue HTR HWR
    go_enter Try.func34, Try.ntmps34
    go_wp2_with fail
    generalize ((w.alloc (.cells #[.slice oB M cB, .slice oV N cV] 31)).alloc (.cells #[.slice none 0 0, .slice none 0 0] 31)) = W0 at HR HA HW0 ⊢
    refine (HRD.out _ HW0.out).mono ?_
    rintro e w1 ⟨rfl, u1⟩
    have HA1 := Lib.hid (HA.out.up u1)
    have HR1 := Lib.hid (HR.out.up u1)
    have HU1 := Lib.hid (HW0.out.trans u1)
    have q0 := HA1.out.cell (j := 0) rfl
    have q1 := HA1.out.cell (j := 1) rfl
    clear u1
    go_wp2_with fail
    refine (HWT.out _ HU1.out).mono ?_
    rintro e w5 ⟨v5, rfl, ho5, u5⟩
    have HS5 := Lib.hid ho5
    obtain ⟨o5, c5, o6, c6, rfl, _, _, _⟩ := ho5.slices
    have HR5 := Lib.hid (HR1.out.up u5)
    have HU5 := Lib.hid (HU1.out.trans u5)
    have r0 := HR5.out.frozen 0
    have r1 := HR5.out.frozen 1
    have r2 := HR5.out.cell (j := 0) rfl
    have r3 := HR5.out.cell (j := 1) rfl
    clear u5 ho5 q0 q1
    go_wp2_with fail
    have hz := (HR5.out.set 0 (.slice o5 RS.1.b.length c5)).set 1 (.slice o6 RS.1.v.length c6)
    have z0 := hz.cell (j := 0) rfl
    have z1 := hz.cell (j := 1) rfl
    have HSZ := Lib.hid (OSt.base (OSt.boxed HS5.out HR5.out) HU1.out.size)
    have HUZ : Hid (Up w ((w5.setCell ⟨w.heap.size + 1, 0, none⟩ (.slice o5 RS.1.b.length c5)).setCell ⟨w.heap.size + 1, 1, none⟩ (.slice o6 RS.1.v.length c6))) := up2 HU5.out (by omega)
    generalize (w5.setCell ⟨w.heap.size + 1, 0, none⟩ (.slice o5 RS.1.b.length c5)).setCell ⟨w.heap.size + 1, 1, none⟩ (.slice o6 RS.1.v.length c6) = WZ at z0 z1 HSZ HUZ ⊢
    exact bodyPost_ret (v := .tuple #[.agg #[.slice o5 RS.1.b.length c5, .slice o6 RS.1.v.length c6], .int .i64 RS.2]) (by simp [results, Try.results34, go_sem, z0, z1]) rfl ⟨_, rfl, HSZ.out, HUZ.out⟩

end Go.Proofs.Ytnmdfdkagkpcaaa
