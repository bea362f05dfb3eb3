/-
  What vol's retain leaves: a reference more for each of the blocks. Conditions: a bag of the call's own, blocks that are in it.
-/
import Derived.Test.YtnmdfdkagkpcaaaJVolOwn37
namespace Go.Proofs.Ytnmdfdkagkpcaaa
open Go.RowKit
open Go.Proofs
open Go.Maps
open WoolBag
open WoolVol

def R1Rel (l : List Itm) (bl : List Idn) (w : World) (B : Nat) (i : Value) (wr : World) : Prop :=
  ∃ k : Nat, k ≤ bl.length ∧ i = .int .i64 k ∧ Uses wr B (l.length + k) l (bl.take k) ∧ w.grownBy wr (some B)

/-- the bag, of which the first k have their references -/
def rtl (l : List Itm) (bl : List Idn) (k : Nat) : List Itm := ret (l.take k) bl ++ l.drop k

theorem rtl_zero (l : List Itm) (bl : List Idn) : rtl l bl 0 = l := by unfold rtl ret; simp
theorem rtl_all (l : List Itm) (bl : List Idn) : rtl l bl l.length = ret l bl := by unfold rtl; simp
theorem rtl_len (l : List Itm) (bl : List Idn) (k : Nat) : (rtl l bl k).length = l.length := by unfold rtl; rw [List.length_append, ret_len, List.length_take, List.length_drop]; omega
theorem rtl_at {l : List Itm} {bl : List Idn} {k : Nat} (hk : k < l.length) (h : k < (rtl l bl k).length) : (rtl l bl k)[k] = l[k] := by
  have hr : (ret (l.take k) bl).length = k := by rw [ret_len, List.length_take]; omega
  have e : ∀ (m : List Itm) (_ : m = ret (l.take k) bl ++ l.drop k) (hm : k < m.length), m[k] = l[k] := by
    rintro m rfl hm
    rw [List.getElem_append_right (by omega), List.getElem_drop]
    congr 1
    omega
  exact e _ rfl h
theorem rtl_step {l : List Itm} {bl : List Idn} {k : Nat} (hk : k < l.length) : (rtl l bl k).set k (more l[k] (cnt bl (idOf l[k]))) = rtl l bl (k + 1) := by
  have hr : (ret (l.take k) bl).length = k := by rw [ret_len, List.length_take]; omega
  unfold rtl
  rw [List.set_append_right _ _ (by omega), hr, Nat.sub_self, List.drop_eq_getElem_cons hk, List.set_cons_zero, List.take_succ_eq_append_getElem hk]
  have e : ret (l.take k ++ [l[k]]) bl = ret (l.take k) bl ++ [more l[k] (cnt bl (idOf l[k]))] := by unfold ret; rw [List.map_append]; rfl
  rw [e, List.append_assoc]
  rfl

def R2Rel (l : List Itm) (bl : List Idn) (w : World) (base B n : Nat) (v i : Value) (wr : World) : Prop :=
  ∃ k : Nat, k ≤ l.length ∧ i = .int .i64 k ∧ OItems wr base v (rtl l bl k) ∧ Uses wr B n l bl ∧ w.grownBy wr v.ownBlock

def RtPost (w : World) (base : Nat) (v : Value) (l : List Itm) (e : Ending) (w' : World) : Prop := e = .returned (.tuple #[]) ∧ OItems w' base v l ∧ w.grownBy w' v.ownBlock

/-- what is in the bag, or a hole, is one that fits -/
theorem wf_err {l : List Itm} (hb : Bag FP l) {i : Idn} (h : errB l i = 0) : WfI i := by
  cases hi : i.1 with
  | true =>
    obtain ⟨x, hx, rfl⟩ := errB_in h hi
    obtain ⟨k, hk, rfl⟩ := List.getElem_of_mem hx
    exact wf_id hb k hk
  | false => rw [errB_hole h hi]; exact ⟨rfl, rfl⟩

set_option maxRecDepth 100000 in
set_option maxHeartbeats 2000000 in
theorem retain_any (v vd : Value) (l : List Itm) (bl : List Idn) (base : Nat) (w : World) (h : OItems w base v l) (hb : Bag FP l) (hd : Ids w vd bl) (hin : ∀ i ∈ bl, errB l i = 0) (h32 : bl.length ≤ 32) :
    Calls Try.prog 41 #[v, vd] w (RtPost w base v (ret l bl)) := by
  obtain ⟨oD, cD, rfl, hD1, hD2⟩ := hd.slice
  unfold maxLen at hD2
  have HD := Lib.hid hd
  have HB := Lib.hid hb
  have HO := Lib.hid h
  have HIN := Lib.hid hin
  have hl64 := hb.len
  have HUN := Lib.hid (fun W (hW : Up w W) => unused_any v l W (h.items.up hW) hb)
  unfold UnPost at HUN
  obtain ⟨oB, cB, hvb⟩ := own_slice h
  subst hvb
  obtain ⟨M, hM⟩ : ∃ M, l.length = M := ⟨_, rfl⟩
  obtain ⟨D, hDl⟩ : ∃ D, bl.length = D := ⟨_, rfl⟩
  have HM := Lib.hid hM
  have HDL := Lib.hid hDl
  rw [hM] at HUN HO hl64 ⊢
  rw [hDl] at HD h32 hD1 ⊢
  have hcB : M ≤ cB ∧ cB ≤ 9223372036854775807 := by
    obtain ⟨o, c, h1, h2, h3, _⟩ := HO.out.items
    cases h1
    unfold maxLen at h3
    rw [hM] at h2
    exact ⟨h2, by omega⟩
  obtain ⟨hc1, hc2⟩ := hcB
  clear h hb hd hin hM hDl
  go_enter Try.func41, Try.ntmps41
  go_wp2_with fail
  refine (HUN.out _ (Up.refl _)).mono ?_
  rintro e w1 ⟨B, rfl, hB, hus, u1⟩
  have HU1 := Lib.hid u1
  have HUS := Lib.hid hus
  have HBB := Lib.hid hB
  clear hus u1 hB
  go_wp2_with fail
  go_loopw [13] (fun i wr => R1Rel l bl w1 B i wr) (fun i _ => D - (intOf i).toNat)
  case atStart => exact ⟨0, Nat.zero_le _, rfl, by have := HUS.out; rw [List.take_zero, HM.out]; exact this, grown_refl _ _⟩
  case round =>
    obtain ⟨k, hk, rfl, hus, hg⟩ := hrel
    rw [HDL.out] at hk
    by_cases hlt : k < D
    · have hkl : k < bl.length := by rw [HDL.out]; exact hlt
      obtain ⟨b, off, rfl, h5⟩ := HD.out.at (by intro e; rw [e] at hkl; simp at hkl)
      obtain ⟨a1, a2, a3⟩ := h5 k hkl
      have c1 := (HU1.out.cell (World.block_lt_of_cell? w _ a1)).trans a1
      have c2 := (HU1.out.cell (World.block_lt_of_cell? w _ a2)).trans a2
      have c3 := (HU1.out.cell (World.block_lt_of_cell? w _ a3)).trans a3
      have hbB : b ≠ B := HUS.out.apart c1
      have e1 := grown_cell hg c1 hbB
      have e2 := grown_cell hg c2 hbB
      have e3 := grown_cell hg c3 hbB
      have he := HIN.out _ (List.getElem_mem hkl)
      have hw1 := wf_err HB.out he
      have HT : Hid (bl.take (k + 1) = bl.take k ++ [bl[k]]) := List.take_succ_eq_append_getElem hkl
      have HCC : Hid (∀ W, Uses W B (l.length + k) l (bl.take k) → Calls Try.prog 65 #[.agg #[.bool bl[k].1, .int .i64 bl[k].2.1, .int .i64 bl[k].2.2], .map (some B)] W fun e w' => e = .returned (.tuple #[]) ∧ Uses w' B (l.length + k + 1) l (bl.take k ++ [bl[k]]) ∧ W.grownBy w' (some B)) := fun W hW =>
        count_any bl[k] B _ l _ W hW (by rw [HM.out]; unfold maxLen; omega) hw1 (fun h1 => by
          obtain ⟨x, hx, hi⟩ := errB_in he h1
          rw [List.any_eq_true]
          exact ⟨x, hx, idB_iff.2 hi⟩) (by rw [List.length_take]; omega)
      have HUS1 := Lib.hid hus
      have HG := Lib.hid hg
      generalize bl[k].1 = xb at *
      generalize bl[k].2.1 = xs at *
      generalize bl[k].2.2 = xn at *
      have d1 : decide (k < D) = true := decide_eq_true hlt
      clear h5 a1 a2 a3 c1 c2 c3 hus hg hw1 he
      go_wp2_with fail
      refine (HCC.out _ (HUS1.out.up (Up.alloc _ _))).mono ?_
      rintro e w3 ⟨rfl, hus3, hg3⟩
      have HUS3 := Lib.hid hus3
      have HG3 : Hid (w1.grownBy w3 (some B)) := (HG.out.trans (World.grownBy_alloc wr _ _)).trans hg3
      clear hus3 hg3
      go_wp2_with fail
      go_roundw
      case rel => exact ⟨k + 1, by rw [HDL.out]; omega, by go_num, by rw [HT.out]; exact HUS3.out, HG3.out⟩
      case measure => simp only [intOf]; omega
    · have d1 : decide (k < D) = false := decide_eq_false hlt
      have hkD : k = bl.length := by rw [HDL.out]; omega
      subst hkD
      rw [List.take_length] at hus
      have hgw : w.grownBy wr (Value.slice oB M cB).ownBlock := by
        have h1 := grown_up HU1.out (Value.slice oB M cB).ownBlock
        refine ⟨hg.os.trans h1.os, hg.tape.trans h1.tape, hg.output.trans h1.output, Nat.le_trans h1.size hg.size, fun q hq hne => ?_⟩
        have hqB : some q ≠ some B := by
          intro e; cases e
          have := HBB.out
          omega
        exact (hg.block q (Nat.lt_of_lt_of_le hq h1.size) hqB).trans (h1.block q hq hne)
      have HST : Hid (R2Rel l bl w base B (l.length + bl.length) (.slice oB M cB) (.int .i64 0) wr) := by
        refine ⟨0, Nat.zero_le _, rfl, ?_, hus, hgw⟩
        rw [rtl_zero]
        have ho := own_up HO.out HU1.out
        refine World.ownsRow.kept ho hg ?_
        cases hq : (Value.slice oB M cB).ownBlock with
        | none => exact .inl rfl
        | some q =>
          refine .inr ?_
          intro e; cases e
          have := (World.ownsRow.lt HO.out B hq).2
          have := HBB.out
          omega
      clear hus hg hgw
      go_wp2_with fail
      go_loopw [23] (fun i wr => R2Rel l bl w base B (l.length + bl.length) (.slice oB M cB) i wr) (fun i _ => M - (intOf i).toNat)
      case atStart => exact HST.out
      case round =>
        obtain ⟨k, hk, rfl, ho, hus, hg⟩ := hrel
        rw [HM.out] at hk
        by_cases hlt : k < M
        · have hkl : k < l.length := by rw [HM.out]; exact hlt
          have hkr : k < (rtl l bl k).length := by rw [rtl_len]; exact hkl
          rcases ho.row with ⟨_, hn⟩ | ⟨g, cap, sp, hvv, hgb, hrow, hr1, hr2, hr3⟩
          · rw [hn] at hkr; simp at hkr
          simp only [Value.slice.injEq] at hvv
          obtain ⟨rfl, hMk, rfl⟩ := hvv
          rw [rtl_len] at hr1 hr3
          rw [HM.out] at hr1 hr3
          clear hMk
          obtain ⟨b1, b2, b3, b4⟩ := itL_get (rtl l bl k) k hkr
          rw [rtl_at hkl hkr] at b1 b2 b3 b4
          have a1 := hrow.cell (get_appV (sp := sp) b1)
          have a2 := hrow.cell (get_appV (sp := sp) b2)
          have a3 := hrow.cell (get_appV (sp := sp) b3)
          have a4 := hrow.cell (get_appV (sp := sp) b4)
          have hgB : g ≠ B := hus.apart a1
          have hok := (HB.out.ok _ (List.getElem_mem hkl)).2.2.2.2
          have HWF := Lib.hid (wf_id HB.out k hkl)
          have HID : Hid (∀ W, Calls Try.prog 62 #[.agg #[.int .i64 l[k].s, .int .i64 l[k].n, .string (bs l[k].t), .int .i64 l[k].r]] W fun e w' => e = .returned (idV (idOf l[k])) ∧ Up W w') := fun W => identifier_any l[k] W
          have hus2 : useU l bl (idOf l[k]) = cnt bl (idOf l[k]) := by
            unfold useU
            rw [if_pos]
            rw [List.any_eq_true]
            exact ⟨_, List.getElem_mem hkl, idB_iff.2 rfl⟩
          have hset := rtl_step (bl := bl) hkl
          have hsetR := itL_setR (rtl l bl k) k hkr (cnt bl (idOf l[k]))
          rw [rtl_at hkl hkr, hset] at hsetR
          have hcn0 := cnt_nonneg bl (idOf l[k])
          have hcn1 := cnt_le bl (idOf l[k])
          rw [HDL.out] at hcn1
          obtain ⟨z, hz⟩ : ∃ z, cnt bl (idOf l[k]) = z := ⟨_, rfl⟩
          rw [hz] at hus2 hsetR hcn0 hcn1
          have HUU := Lib.hid hus2
          have HSET := Lib.hid hsetR
          have HROW := Lib.hid hrow
          have HUS2 := Lib.hid hus
          have HG := Lib.hid hg
          have HGB := Lib.hid hgb
          have d1 : decide (k < M) = true := decide_eq_true hlt
          generalize l[k] = x at *
          obtain ⟨xs, xn, xt, xr⟩ := x
          simp only at a1 a2 a3 a4 HID HSET hok
          have hwr : IntKind.i64.wrap (xr + z) = xr + z := IntWalk.i64_in _ (by omega)
          clear b1 b2 b3 b4 hset hsetR hus2 hz hrow hus hg ho hgb
          generalize bs xt = xT at *
          go_upto_region 9 with (fail)
          have q0 := World.cell?_alloc_new wr #[.int .i64 xs, .int .i64 xn, .string xT, .int .i64 xr] 60 0
          have q1 := World.cell?_alloc_new wr #[.int .i64 xs, .int .i64 xn, .string xT, .int .i64 xr] 60 1
          have q2 := World.cell?_alloc_new wr #[.int .i64 xs, .int .i64 xn, .string xT, .int .i64 xr] 60 2
          have q3 := World.cell?_alloc_new wr #[.int .i64 xs, .int .i64 xn, .string xT, .int .i64 xr] 60 3
          have HU5 : Hid (Up wr (wr.alloc (.cells #[.int .i64 xs, .int .i64 xn, .string xT, .int .i64 xr] 60))) := Up.alloc _ _
          have c4 := (HU5.out.cell (World.block_lt_of_cell? wr _ a4)).trans a4
          clear a1 a2 a3 a4
          generalize wr.alloc (.cells #[.int .i64 xs, .int .i64 xn, .string xT, .int .i64 xr] 60) = W5 at q0 q1 q2 q3 HU5 c4 ⊢
          have hR5 := HROW.out.up HU5.out
          have g4 := hR5.lt
          have c5 := hR5.frozen (k * 4 + 3)
          clear hR5
          go_region_with ((go_at_call 62; ((with_reducible refine (HID.out _).mono ?_); rintro e w4 ⟨rfl, u4⟩; have h4 : Up W5 w4 := (Up.drew _).trans u4; have x4 := (Below.cell h4 (p := ⟨g, k * 4 + 3, none⟩) g4).trans c4; have x5 := (Below.frozen h4 (p := ⟨g, k * 4 + 3, none⟩) g4).trans c5; have hlk := MapF.look (HUS2.out.up (HU5.out.trans h4)) _ HWF.out; rw [HUU.out] at hlk)))
          all_goals
            have h5 := HU5.out.trans h4
            have hS := (HROW.out.up h5).set (k * 4 + 3) (.int .i64 (xr + z))
            rw [List.set_append_left _ _ (by rw [itL_length, rtl_len, HM.out]; omega), HSET.out] at hS
            have HO6 : Hid (OItems (w4.setCell ⟨g, k * 4 + 3, none⟩ (.int .i64 (xr + z))) base (.slice (some ⟨g, 0, none⟩) M cB) (rtl l bl (k + 1))) := by
              have h6 := OItems.mk HGB.out hS (by rw [rtl_len, HM.out]; exact hr1) hr2 (by rw [rtl_len, HM.out]; exact hr3)
              rw [rtl_len, HM.out] at h6
              exact h6
            have HUS6 : Hid (Uses (w4.setCell ⟨g, k * 4 + 3, none⟩ (.int .i64 (xr + z))) B (l.length + bl.length) l bl) := MapF.kept (HUS2.out.up h5) (grown_set w4 g _ _) (by simpa using Ne.symm hgB)
            have HG6 : Hid (w.grownBy (w4.setCell ⟨g, k * 4 + 3, none⟩ (.int .i64 (xr + z))) (some g)) := (HG.out.trans (grown_up h5 _)).trans (grown_set w4 g _ _)
            clear h5 hS h4 u4 x4 x5 hlk q0 q1 q2 q3 c4 c5 g4
            generalize w4.setCell ⟨g, k * 4 + 3, none⟩ (.int .i64 (xr + z)) = W6 at HO6 HUS6 HG6 ⊢
            go_wp2_with fail
            go_roundw
            case rel => exact ⟨k + 1, by rw [HM.out]; omega, by go_num, HO6.out, HUS6.out, HG6.out⟩
            case measure => simp only [intOf]; omega
        · have d1 : decide (k < M) = false := decide_eq_false hlt
          have hkM : k = l.length := by rw [HM.out]; omega
          subst hkM
          rw [rtl_all] at ho
          have HO9 := Lib.hid ho
          have HG9 := Lib.hid hg
          clear ho hus hg
          go_wp2_with fail
          exact bodyPost_ret (v := .tuple #[]) (by simp [results, Try.results41, go_sem]) rfl ⟨rfl, HO9.out, HG9.out⟩

end Go.Proofs.Ytnmdfdkagkpcaaa
