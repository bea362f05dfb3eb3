/-
  The texts VolW, VolCl, one behind the other; each says below what it holds and on what conditions.
-/
import Derived.Test.YtakbmbiebkgkiaaGreatDoorJB24

/-
  What vol's retain leaves: a reference more for each of the blocks. Conditions: a bag of the call's own, blocks that are in it.
-/
namespace Go.Proofs.YtakbmbiebkgkiaaGreatDoor
open Go.RowKit
open Go.Proofs
open Go.Maps
open WoolBag
open WoolVol

def R1Rel (l : List Itm) (bl : List Idn) (w : World) (B : Nat) (i : Value) (wr : World) : Prop :=
  ∃ k : Nat, k ≤ bl.length ∧ i = .int .i64 k ∧ Uses wr B (l.length + k) l (bl.take k) ∧ w.grownBy wr (some B)

/-- the bag, of which the first k have their references -/
def rtl (l : List Itm) (bl : List Idn) (k : Nat) : List Itm := ret (l.take k) bl ++ l.drop k

theorem rtl_zero (l : List Itm) (bl : List Idn) : rtl l bl 0 = l := by unfold rtl ret; simp
theorem rtl_all (l : List Itm) (bl : List Idn) : rtl l bl l.length = ret l bl := by unfold rtl; simp
theorem rtl_len (l : List Itm) (bl : List Idn) (k : Nat) : (rtl l bl k).length = l.length := by unfold rtl; rw [List.length_append, ret_len, List.length_take, List.length_drop]; omega
theorem rtl_at {l : List Itm} {bl : List Idn} {k : Nat} (hk : k < l.length) (h : k < (rtl l bl k).length) : (rtl l bl k)[k] = l[k] := by
  have hr : (ret (l.take k) bl).length = k := by rw [ret_len, List.length_take]; omega
  have e : ∀ (m : List Itm) (_ : m = ret (l.take k) bl ++ l.drop k) (hm : k < m.length), m[k] = l[k] := by
    rintro m rfl hm
    rw [List.getElem_append_right (by omega), List.getElem_drop]
    congr 1
    omega
  exact e _ rfl h
theorem rtl_step {l : List Itm} {bl : List Idn} {k : Nat} (hk : k < l.length) : (rtl l bl k).set k (more l[k] (cnt bl (idOf l[k]))) = rtl l bl (k + 1) := by
  have hr : (ret (l.take k) bl).length = k := by rw [ret_len, List.length_take]; omega
  unfold rtl
  rw [List.set_append_right _ _ (by omega), hr, Nat.sub_self, List.drop_eq_getElem_cons hk, List.set_cons_zero, List.take_succ_eq_append_getElem hk]
  have e : ret (l.take k ++ [l[k]]) bl = ret (l.take k) bl ++ [more l[k] (cnt bl (idOf l[k]))] := by unfold ret; rw [List.map_append]; rfl
  rw [e, List.append_assoc]
  rfl

def R2Rel (l : List Itm) (bl : List Idn) (w : World) (base B n : Nat) (v i : Value) (wr : World) : Prop :=
  ∃ k : Nat, k ≤ l.length ∧ i = .int .i64 k ∧ OItems wr base v (rtl l bl k) ∧ Uses wr B n l bl ∧ w.grownBy wr v.ownBlock

def RtPost (w : World) (base : Nat) (v : Value) (l : List Itm) (e : Ending) (w' : World) : Prop := e = .returned (.tuple #[]) ∧ OItems w' base v l ∧ w.grownBy w' v.ownBlock

/-- what is in the bag, or a hole, is one that fits -/
theorem wf_err {l : List Itm} (hb : Bag FP l) {i : Idn} (h : errB l i = 0) : WfI i := by
  cases hi : i.1 with
  | true =>
    obtain ⟨x, hx, rfl⟩ := errB_in h hi
    obtain ⟨k, hk, rfl⟩ := List.getElem_of_mem hx
    exact wf_id hb k hk
  | false => rw [errB_hole h hi]; exact ⟨rfl, rfl⟩

set_option maxRecDepth 100000 in
set_option maxHeartbeats 2000000 in
theorem retain_any (v vd : Value) (l : List Itm) (bl : List Idn) (base : Nat) (w : World) (h : OItems w base v l) (hb : Bag FP l) (hd : Ids w vd bl) (hin : ∀ i ∈ bl, errB l i = 0) (h32 : bl.length ≤ 32) :
    Calls Tryz.prog 55 #[v, vd] w (RtPost w base v (ret l bl)) := by
  obtain ⟨oD, cD, rfl, hD1, hD2⟩ := hd.slice
  unfold maxLen at hD2
  have HD := Lib.hid hd
  have HB := Lib.hid hb
  have HO := Lib.hid h
  have HIN := Lib.hid hin
  have hl64 := hb.len
  have HUN := Lib.hid (fun W (hW : Up w W) => unused_any v l W (h.items.up hW) hb)
  unfold UnPost at HUN
  obtain ⟨oB, cB, hvb⟩ := own_slice h
  subst hvb
  obtain ⟨M, hM⟩ : ∃ M, l.length = M := ⟨_, rfl⟩
  obtain ⟨D, hDl⟩ : ∃ D, bl.length = D := ⟨_, rfl⟩
  have HM := Lib.hid hM
  have HDL := Lib.hid hDl
  rw [hM] at HUN HO hl64 ⊢
  rw [hDl] at HD h32 hD1 ⊢
  have hcB : M ≤ cB ∧ cB ≤ 9223372036854775807 := by
    obtain ⟨o, c, h1, h2, h3, _⟩ := HO.out.items
    cases h1
    unfold maxLen at h3
    rw [hM] at h2
    exact ⟨h2, by omega⟩
  obtain ⟨hc1, hc2⟩ := hcB
  clear h hb hd hin hM hDl
  go_enter Tryz.func55, Tryz.ntmps55
  go_wp2_with fail
  refine (HUN.out _ (Up.refl _)).mono ?_
  rintro e w1 ⟨B, rfl, hB, hus, u1⟩
  have HU1 := Lib.hid u1
  have HUS := Lib.hid hus
  have HBB := Lib.hid hB
  clear hus u1 hB
  go_wp2_with fail
  go_loopw [13] (fun i wr => R1Rel l bl w1 B i wr) (fun i _ => D - (intOf i).toNat)
  case atStart => exact ⟨0, Nat.zero_le _, rfl, by have := HUS.out; rw [List.take_zero, HM.out]; exact this, grown_refl _ _⟩
  case round =>
    obtain ⟨k, hk, rfl, hus, hg⟩ := hrel
    rw [HDL.out] at hk
    by_cases hlt : k < D
    · have hkl : k < bl.length := by rw [HDL.out]; exact hlt
      obtain ⟨b, off, rfl, h5⟩ := HD.out.at (by intro e; rw [e] at hkl; simp at hkl)
      obtain ⟨a1, a2, a3⟩ := h5 k hkl
      have c1 := (HU1.out.cell (World.block_lt_of_cell? w _ a1)).trans a1
      have c2 := (HU1.out.cell (World.block_lt_of_cell? w _ a2)).trans a2
      have c3 := (HU1.out.cell (World.block_lt_of_cell? w _ a3)).trans a3
      have hbB : b ≠ B := HUS.out.apart c1
      have e1 := grown_cell hg c1 hbB
      have e2 := grown_cell hg c2 hbB
      have e3 := grown_cell hg c3 hbB
      have he := HIN.out _ (List.getElem_mem hkl)
      have hw1 := wf_err HB.out he
      have HT : Hid (bl.take (k + 1) = bl.take k ++ [bl[k]]) := List.take_succ_eq_append_getElem hkl
      have HCC : Hid (∀ W, Uses W B (l.length + k) l (bl.take k) → Calls Tryz.prog 94 #[.agg #[.bool bl[k].1, .int .i64 bl[k].2.1, .int .i64 bl[k].2.2], .map (some B)] W fun e w' => e = .returned (.tuple #[]) ∧ Uses w' B (l.length + k + 1) l (bl.take k ++ [bl[k]]) ∧ W.grownBy w' (some B)) := fun W hW =>
        count_any bl[k] B _ l _ W hW (by rw [HM.out]; unfold maxLen; omega) hw1 (fun h1 => by
          obtain ⟨x, hx, hi⟩ := errB_in he h1
          rw [List.any_eq_true]
          exact ⟨x, hx, idB_iff.2 hi⟩) (by rw [List.length_take]; omega)
      have HUS1 := Lib.hid hus
      have HG := Lib.hid hg
      generalize bl[k].1 = xb at *
      generalize bl[k].2.1 = xs at *
      generalize bl[k].2.2 = xn at *
      have d1 : decide (k < D) = true := decide_eq_true hlt
      clear h5 a1 a2 a3 c1 c2 c3 hus hg hw1 he
      go_wp2_with fail
      refine (HCC.out _ (HUS1.out.up (Up.alloc _ _))).mono ?_
      rintro e w3 ⟨rfl, hus3, hg3⟩
      have HUS3 := Lib.hid hus3
      have HG3 : Hid (w1.grownBy w3 (some B)) := (HG.out.trans (World.grownBy_alloc wr _ _)).trans hg3
      clear hus3 hg3
      go_wp2_with fail
      go_roundw
      case rel => exact ⟨k + 1, by rw [HDL.out]; omega, by go_num, by rw [HT.out]; exact HUS3.out, HG3.out⟩
      case measure => simp only [intOf]; omega
    · have d1 : decide (k < D) = false := decide_eq_false hlt
      have hkD : k = bl.length := by rw [HDL.out]; omega
      subst hkD
      rw [List.take_length] at hus
      have hgw : w.grownBy wr (Value.slice oB M cB).ownBlock := by
        have h1 := grown_up HU1.out (Value.slice oB M cB).ownBlock
        refine ⟨hg.os.trans h1.os, hg.tape.trans h1.tape, hg.output.trans h1.output, Nat.le_trans h1.size hg.size, fun q hq hne => ?_⟩
        have hqB : some q ≠ some B := by
          intro e; cases e
          have := HBB.out
          omega
        exact (hg.block q (Nat.lt_of_lt_of_le hq h1.size) hqB).trans (h1.block q hq hne)
      have HST : Hid (R2Rel l bl w base B (l.length + bl.length) (.slice oB M cB) (.int .i64 0) wr) := by
        refine ⟨0, Nat.zero_le _, rfl, ?_, hus, hgw⟩
        rw [rtl_zero]
        have ho := own_up HO.out HU1.out
        refine World.ownsRow.kept ho hg ?_
        cases hq : (Value.slice oB M cB).ownBlock with
        | none => exact .inl rfl
        | some q =>
          refine .inr ?_
          intro e; cases e
          have := (World.ownsRow.lt HO.out B hq).2
          have := HBB.out
          omega
      clear hus hg hgw
      go_wp2_with fail
      go_loopw [23] (fun i wr => R2Rel l bl w base B (l.length + bl.length) (.slice oB M cB) i wr) (fun i _ => M - (intOf i).toNat)
      case atStart => exact HST.out
      case round =>
        obtain ⟨k, hk, rfl, ho, hus, hg⟩ := hrel
        rw [HM.out] at hk
        by_cases hlt : k < M
        · have hkl : k < l.length := by rw [HM.out]; exact hlt
          have hkr : k < (rtl l bl k).length := by rw [rtl_len]; exact hkl
          rcases ho.row with ⟨_, hn⟩ | ⟨g, cap, sp, hvv, hgb, hrow, hr1, hr2, hr3⟩
          · rw [hn] at hkr; simp at hkr
          simp only [Value.slice.injEq] at hvv
          obtain ⟨rfl, hMk, rfl⟩ := hvv
          rw [rtl_len] at hr1 hr3
          rw [HM.out] at hr1 hr3
          clear hMk
          obtain ⟨b1, b2, b3, b4⟩ := itL_get (rtl l bl k) k hkr
          rw [rtl_at hkl hkr] at b1 b2 b3 b4
          have a1 := hrow.cell (get_appV (sp := sp) b1)
          have a2 := hrow.cell (get_appV (sp := sp) b2)
          have a3 := hrow.cell (get_appV (sp := sp) b3)
          have a4 := hrow.cell (get_appV (sp := sp) b4)
          have hgB : g ≠ B := hus.apart a1
          have hok := (HB.out.ok _ (List.getElem_mem hkl)).2.2.2.2
          have HWF := Lib.hid (wf_id HB.out k hkl)
          have HID : Hid (∀ W, Calls Tryz.prog 95 #[.agg #[.int .i64 l[k].s, .int .i64 l[k].n, .string (bs l[k].t), .int .i64 l[k].r]] W fun e w' => e = .returned (idV (idOf l[k])) ∧ Up W w') := fun W => identifier_any l[k] W
          have hus2 : useU l bl (idOf l[k]) = cnt bl (idOf l[k]) := by
            unfold useU
            rw [if_pos]
            rw [List.any_eq_true]
            exact ⟨_, List.getElem_mem hkl, idB_iff.2 rfl⟩
          have hset := rtl_step (bl := bl) hkl
          have hsetR := itL_setR (rtl l bl k) k hkr (cnt bl (idOf l[k]))
          rw [rtl_at hkl hkr, hset] at hsetR
          have hcn0 := cnt_nonneg bl (idOf l[k])
          have hcn1 := cnt_le bl (idOf l[k])
          rw [HDL.out] at hcn1
          obtain ⟨z, hz⟩ : ∃ z, cnt bl (idOf l[k]) = z := ⟨_, rfl⟩
          rw [hz] at hus2 hsetR hcn0 hcn1
          have HUU := Lib.hid hus2
          have HSET := Lib.hid hsetR
          have HROW := Lib.hid hrow
          have HUS2 := Lib.hid hus
          have HG := Lib.hid hg
          have HGB := Lib.hid hgb
          have d1 : decide (k < M) = true := decide_eq_true hlt
          generalize l[k] = x at *
          obtain ⟨xs, xn, xt, xr⟩ := x
          simp only at a1 a2 a3 a4 HID HSET hok
          have hwr : IntKind.i64.wrap (xr + z) = xr + z := IntWalk.i64_in _ (by omega)
          clear b1 b2 b3 b4 hset hsetR hus2 hz hrow hus hg ho hgb
          generalize bs xt = xT at *
          go_upto_region 9 with (fail)
          have q0 := World.cell?_alloc_new wr #[.int .i64 xs, .int .i64 xn, .string xT, .int .i64 xr] 66 0
          have q1 := World.cell?_alloc_new wr #[.int .i64 xs, .int .i64 xn, .string xT, .int .i64 xr] 66 1
          have q2 := World.cell?_alloc_new wr #[.int .i64 xs, .int .i64 xn, .string xT, .int .i64 xr] 66 2
          have q3 := World.cell?_alloc_new wr #[.int .i64 xs, .int .i64 xn, .string xT, .int .i64 xr] 66 3
          have HU5 : Hid (Up wr (wr.alloc (.cells #[.int .i64 xs, .int .i64 xn, .string xT, .int .i64 xr] 66))) := Up.alloc _ _
          have c4 := (HU5.out.cell (World.block_lt_of_cell? wr _ a4)).trans a4
          clear a1 a2 a3 a4
          generalize wr.alloc (.cells #[.int .i64 xs, .int .i64 xn, .string xT, .int .i64 xr] 66) = W5 at q0 q1 q2 q3 HU5 c4 ⊢
          have hR5 := HROW.out.up HU5.out
          have g4 := hR5.lt
          have c5 := hR5.frozen (k * 4 + 3)
          clear hR5
          go_region_with ((go_at_call 95; ((with_reducible refine (HID.out _).mono ?_); rintro e w4 ⟨rfl, u4⟩; have h4 : Up W5 w4 := (Up.drew _).trans u4; have x4 := (Below.cell h4 (p := ⟨g, k * 4 + 3, none⟩) g4).trans c4; have x5 := (Below.frozen h4 (p := ⟨g, k * 4 + 3, none⟩) g4).trans c5; have hlk := MapF.look (HUS2.out.up (HU5.out.trans h4)) _ HWF.out; rw [HUU.out] at hlk)))
          all_goals
            have h5 := HU5.out.trans h4
            have hS := (HROW.out.up h5).set (k * 4 + 3) (.int .i64 (xr + z))
            rw [List.set_append_left _ _ (by rw [itL_length, rtl_len, HM.out]; omega), HSET.out] at hS
            have HO6 : Hid (OItems (w4.setCell ⟨g, k * 4 + 3, none⟩ (.int .i64 (xr + z))) base (.slice (some ⟨g, 0, none⟩) M cB) (rtl l bl (k + 1))) := by
              have h6 := OItems.mk HGB.out hS (by rw [rtl_len, HM.out]; exact hr1) hr2 (by rw [rtl_len, HM.out]; exact hr3)
              rw [rtl_len, HM.out] at h6
              exact h6
            have HUS6 : Hid (Uses (w4.setCell ⟨g, k * 4 + 3, none⟩ (.int .i64 (xr + z))) B (l.length + bl.length) l bl) := MapF.kept (HUS2.out.up h5) (grown_set w4 g _ _) (by simpa using Ne.symm hgB)
            have HG6 : Hid (w.grownBy (w4.setCell ⟨g, k * 4 + 3, none⟩ (.int .i64 (xr + z))) (some g)) := (HG.out.trans (grown_up h5 _)).trans (grown_set w4 g _ _)
            clear h5 hS h4 u4 x4 x5 hlk q0 q1 q2 q3 c4 c5 g4
            generalize w4.setCell ⟨g, k * 4 + 3, none⟩ (.int .i64 (xr + z)) = W6 at HO6 HUS6 HG6 ⊢
            go_wp2_with fail
            go_roundw
            case rel => exact ⟨k + 1, by rw [HM.out]; omega, by go_num, HO6.out, HUS6.out, HG6.out⟩
            case measure => simp only [intOf]; omega
        · have d1 : decide (k < M) = false := decide_eq_false hlt
          have hkM : k = l.length := by rw [HM.out]; omega
          subst hkM
          rw [rtl_all] at ho
          have HO9 := Lib.hid ho
          have HG9 := Lib.hid hg
          clear ho hus hg
          go_wp2_with fail
          exact bodyPost_ret (v := .tuple #[]) (by simp [results, Tryz.results55, go_sem]) rfl ⟨rfl, HO9.out, HG9.out⟩

end Go.Proofs.YtakbmbiebkgkiaaGreatDoor

/-
  What vol's Clone returns. Conditions: a state that can be read.
-/
namespace Go.Proofs.YtakbmbiebkgkiaaGreatDoor
open Go.RowKit
open Go.Proofs
open WoolBag
open WoolVol

theorem kept_apart {w w' : World} {base T m n T' n' m' : Nat} {v u : Value} {L L' : List Value} (h : w.ownsRow base T m v n L) (hu : w.ownsRow base T' m' u n' L') (hT : T ≠ T') (hg : w.grownBy w' u.ownBlock) : w'.ownsRow base T m v n L := by
  refine World.ownsRow.kept h hg ?_
  rcases own_row hu with ⟨rfl, _, _⟩ | ⟨g, cap, sp, rfl, _, h2, _⟩
  · cases hv : v.ownBlock with
    | none => exact .inl rfl
    | some q => exact .inr (by simp [Value.ownBlock])
  · exact .inr (own_apart h h2 hT)

/-- a bag that was changed in its own row, beside volumes of the call's own -/
theorem OSt.bag {w w' : World} {base : Nat} {vb vv : Value} {st : Sta} {b' : List Itm} (h : OSt w base (.agg #[vb, vv]) st) (hg : w.grownBy w' vb.ownBlock) (hb : OItems w' base vb b') : OSt w' base (.agg #[vb, vv]) ⟨b', st.v⟩ := by
  obtain ⟨vb2, vv2, e, h1, C, h2, h3⟩ := h
  simp at e
  obtain ⟨rfl, rfl⟩ := e
  exact ⟨_, _, rfl, hb, C, kept_apart h2 h1 (Ne.symm itVol) hg, ⟨h3.len, h3.nm, fun k hk => kept_apart (h3.bl k hk) h1 (by decide) hg, h3.apart⟩⟩

theorem OFr.bag {w w' : World} {base : Nat} {vb vv vd : Value} {st : Sta} {b' : List Itm} (h : OFr w base (.agg #[vb, vv]) st vd) (hg : w.grownBy w' vb.ownBlock) (hb : OItems w' base vb b') : OFr w' base (.agg #[vb, vv]) ⟨b', st.v⟩ vd := by
  obtain ⟨vb2, vv2, e, h1, C, h2, h3, h4⟩ := h
  simp at e
  obtain ⟨rfl, rfl⟩ := e
  exact ⟨_, _, rfl, hb, C, kept_apart h2 h1 (Ne.symm itVol) hg, ⟨h3.len, h3.nm, fun k hk => kept_apart (h3.bl k hk) h1 (by decide) hg, h3.apart⟩, h4⟩

set_option maxRecDepth 100000 in
set_option maxHeartbeats 2000000 in
theorem vclone_own (v : Value) (st : Sta) (s t : List UInt8) (w : World) (h : Stat w v st) (hwf : WfS st) (ht : t.length ≤ 9223372036854775807) :
    Calls Tryz.prog 19 #[v, .string (bs s), .string (bs t)] w (StEPost w (clone FP st s t)) := by
  have HF := Lib.hid (fun W (hW : Up w W) => vfind_any v st s W (h.up hW) hwf)
  have HCN := Lib.hid (fun W (hW : Up w W) => checkNew_any v st t W (h.up hW) ht)
  have HSC := Lib.hid (fun (hg : WoolVol.Good FP st) W (hW : Up w W) => stclone_any v st W (h.up hW) hg)
  unfold StPost at HSC
  unfold findVR at HF
  obtain ⟨vb, vv, rfl, hb, hv⟩ := h
  obtain ⟨oB, cB, rfl, _⟩ := hb.slice
  obtain ⟨oV, cV, rfl, hV1, hV2⟩ := hv.slice
  unfold maxLen at hV2
  have HVI := Lib.hid hv
  clear hb hv hwf ht
  obtain ⟨RS, hRS⟩ : ∃ RS, clone FP st s t = RS := ⟨_, rfl⟩
  rw [hRS]
  unfold clone at hRS
  obtain ⟨NE, hNE⟩ : ∃ NE, newE st t = NE := ⟨_, rfl⟩
  rw [hNE] at hRS HCN
  have HNE0 := Lib.hid hNE
  have HRS := Lib.hid hRS
  clear hRS hNE
  obtain ⟨M, hM⟩ : ∃ M, st.b.length = M := ⟨_, rfl⟩
  obtain ⟨N, hN⟩ : ∃ N, st.v.length = N := ⟨_, rfl⟩
  have HN := Lib.hid hN
  have HM := Lib.hid hM
  rw [hM, hN] at HF HSC HCN ⊢
  rw [hN] at HVI hV1
  clear hM hN
  have HR : Hid (RowC ((w.alloc (.cells #[.slice oB M cB, .slice oV N cV] 25)).alloc (.cells #[.slice none 0 0, .slice none 0 0] 25)) (w.heap.size + 1) 25 [.slice none 0 0, .slice none 0 0]) := box_new w _ _ _ _
  have HA : Hid (RowC ((w.alloc (.cells #[.slice oB M cB, .slice oV N cV] 25)).alloc (.cells #[.slice none 0 0, .slice none 0 0] 25)) w.heap.size 25 [.slice oB M cB, .slice oV N cV]) := RowC.up (rowN_at [.slice oB M cB, .slice oV N cV] _ rfl) (Up.alloc _ _)
  have HW0 : Hid (Up w ((w.alloc (.cells #[.slice oB M cB, .slice oV N cV] 25)).alloc (.cells #[.slice none 0 0, .slice none 0 0] 25))) := (Up.alloc _ _).trans (Up.alloc _ _)
  by_cases h0 : (vfind FP st s).2 = 0
  · obtain ⟨hck, k, hk, hf, _, _⟩ := vfind_ok h0
    have hgood := chkS_zero.1 hck
    have HGD := Lib.hid hgood
    rw [hf] at HF HRS
    simp only at HF HRS
    rw [if_neg (by simp), getElem!_pos st.v k hk] at HRS
    have HSC2 := Lib.hid (HSC.out hgood)
    have hN6 : N ≤ 6 := by rw [← HN.out]; exact hgood.len
    have hkN : k < N := by rw [← HN.out]; exact hk
    have hvol := hgood.vol _ (List.getElem_mem hk)
    obtain ⟨b, off, rfl, h5⟩ := HVI.out.at (by intro e; rw [e] at hk; simp at hk)
    obtain ⟨_, uf, af, hidf⟩ := h5 k hk
    obtain ⟨bl, hbl⟩ : ∃ bl, st.v[k].bl = bl := ⟨_, rfl⟩
    rw [hbl] at hvol hidf HRS
    obtain ⟨of, cf, rfl, hcf, hcf'⟩ := hidf.slice
    have HCD := Lib.hid (fun W (hW : Up w W) => cloneD_any _ bl W (hidf.up hW) hvol.2.1)
    unfold IdsPost at HCD
    have HVOL := Lib.hid hvol
    have HAF := Lib.hid af
    obtain ⟨L, hL⟩ : ∃ L, bl.length = L := ⟨_, rfl⟩
    have HL := Lib.hid hL
    rw [hL] at HCD HAF
    clear HSC h0 hf hgood hck h5 hvol hidf hbl af hL
    go_enter Tryz.func19, Tryz.ntmps19
    go_upto_region 1 with (fail)
    generalize (w.alloc (.cells #[.slice oB M cB, .slice (some ⟨b, off, none⟩) N cV] 25)).alloc (.cells #[.slice none 0 0, .slice none 0 0] 25) = W0 at HA HR HW0 ⊢
    have a0 := HA.out.cell (j := 0) rfl
    have a1 := HA.out.cell (j := 1) rfl
    go_wp2_with fail
    refine (HF.out _ HW0.out).mono ?_
    rintro e w1 ⟨rfl, u1⟩
    have HUw1 := Lib.hid (HW0.out.trans u1)
    have HRw1 := Lib.hid (HR.out.up u1)
    have HAw1 := Lib.hid (HA.out.up u1)
    clear a0 a1 u1
    have a0 := HAw1.out.cell (j := 0) rfl
    have a1 := HAw1.out.cell (j := 1) rfl
    go_wp2_with fail
    refine (HCN.out _ HUw1.out).mono ?_
    rintro e w2 ⟨rfl, u2⟩
    have HUw2 := Lib.hid (HUw1.out.trans u2)
    have HRw2 := Lib.hid (HRw1.out.up u2)
    have HAw2 := Lib.hid (HAw1.out.up u2)
    clear a0 a1 u2
    by_cases hE : NE = 0
    · subst hE
      obtain ⟨hnm, hno, h6⟩ := newE_zero HNE0.out
      have ht12 : t.length ≤ 12 := by unfold nameB at hnm; simp at hnm; omega
      have HRZ : Hid (RS = (⟨ret st.b bl, vins ⟨t, bl⟩ st.v⟩, 0)) := by show _ = _; rw [← HRS.out, if_neg (by simp)]
      have a0 := HAw2.out.cell (j := 0) rfl
      have a1 := HAw2.out.cell (j := 1) rfl
      clear hnm hno h6 HCN HF
      go_wp2_with fail
      refine (HSC2.out _ HUw2.out).mono ?_
      rintro e w3 ⟨v3, rfl, ho3, u3⟩
      obtain ⟨vb3, vv3, rfl, hob, C, hvc, hrd⟩ := ho3
      have hCl : C.length = N := hrd.len.trans HN.out
      obtain ⟨ob, cb, hvb⟩ := own_slice hob
      obtain ⟨ov, cv, hvv⟩ := own_slice hvc
      subst hvb hvv
      rw [HM.out] at hob ⊢
      rw [hCl] at hvc ⊢
      have HOS3 : Hid (OSt w3 w2.heap.size (.agg #[.slice ob M cb, .slice ov N cv]) st) := ⟨_, _, rfl, hob, C, hvc, hrd⟩
      clear hob hvc hrd hCl a0 a1
      go_upto_region 8 with (fail)
      have hal := Up.alloc w3 (.cells #[.slice ob M cb, .slice ov N cv] 25)
      have HX4 : Hid (RowC (w3.alloc (.cells #[.slice ob M cb, .slice ov N cv] 25)) w3.heap.size 25 [.slice ob M cb, .slice ov N cv]) := heap_alloc_new w3 _
      have HU4 := Lib.hid (u3.trans hal)
      have HOS4 := Lib.hid (HOS3.out.up hal)
      generalize (w3.alloc (.cells #[.slice ob M cb, .slice ov N cv] 25)) = W4 at HX4 HU4 HOS4 ⊢
      obtain ⟨X, hX⟩ : ∃ X, w3.heap.size = X := ⟨_, rfl⟩
      have hXB : w2.heap.size ≤ X := by rw [← hX]; exact u3.size
      rw [hX] at HX4 ⊢
      clear hX u3 hal
      have a1 := (HAw2.out.up HU4.out).cell (j := 1) rfl
      have af := ((HUw2.out.trans HU4.out).cell (World.block_lt_of_cell? w _ HAF.out)).trans HAF.out
      go_wp2_with fail
      refine (HCD.out _ (HUw2.out.trans HU4.out)).mono ?_
      rintro e w5 ⟨v5, rfl, ho5, u5⟩
      obtain ⟨o5, c5, hv5⟩ := own_slice ho5
      subst hv5
      have HFR5 : Hid (OFr w5 w2.heap.size (.agg #[.slice ob M cb, .slice ov N cv]) st (.slice o5 bl.length c5)) := OFr.later HOS4.out u5 (fun g hg => (World.ownsRow.lt ho5 g hg).1)
      have HO5 : Hid (OIds w5 w2.heap.size (.slice o5 bl.length c5) bl) := own_base ho5 HU4.out.size
      have HOS5 := Lib.hid (HOS4.out.up u5)
      have HX5 := Lib.hid (HX4.out.up u5)
      have HU5 := Lib.hid (HU4.out.trans u5)
      rw [HL.out] at HO5 HFR5 ⊢
      clear ho5 u5 a1 af
      have x0 := HX5.out.cell (j := 0) rfl
      have HRT : Hid (Calls Tryz.prog 55 #[.slice ob M cb, .slice o5 L c5] w5 (RtPost w5 w2.heap.size (.slice ob M cb) (ret st.b bl))) := by
        obtain ⟨vb6, vv6, e, h1, _⟩ := HOS5.out
        simp at e
        obtain ⟨rfl, rfl⟩ := e
        exact retain_any _ _ st.b bl w2.heap.size w5 h1 HGD.out.bag HO5.out.ids HVOL.out.2.2 HVOL.out.2.1
      unfold RtPost at HRT
      go_wp2_with fail
      refine HRT.out.mono ?_
      rintro e w6 ⟨rfl, ho6, hg6⟩
      have hbe : ∀ q, (Value.slice ob M cb).ownBlock = some q → w2.heap.size ≤ q := fun q hq => (World.ownsRow.lt ho6 q hq).1
      have HFR6 := Lib.hid (HFR5.out.bag hg6 ho6)
      have HO6 : Hid (OIds w6 w2.heap.size (.slice o5 L c5) bl) := by
        obtain ⟨vb6, vv6, e, h1, _⟩ := HOS5.out
        simp at e
        obtain ⟨rfl, rfl⟩ := e
        exact kept_apart HO5.out h1 (by decide) hg6
      have HX6 : Hid (RowC w6 X 25 [.slice ob M cb, .slice ov N cv]) := by
        obtain ⟨vb6, vv6, e, h1, _⟩ := HOS5.out
        simp at e
        obtain ⟨rfl, rfl⟩ := e
        exact HX5.out.kept hg6 (own_apart h1 HX5.out itState)
      have HU6 : Hid (Up w2 w6) := Below.grown HU5.out hg6 HU5.out.size hbe
      have HADD := Lib.hid (add_any _ ⟨ret st.b bl, st.v⟩ t _ bl w2.heap.size w6 HFR6.out HO6.out (by show st.v.length ≤ 6; rw [HN.out]; exact hN6) ht12 HU6.out.size)
      unfold AddPost at HADD
      clear ho6 hg6 hbe x0
      have x0 := HX6.out.cell (j := 0) rfl
      have x1 := HX6.out.cell (j := 1) rfl
      go_wp2_with fail
      refine HADD.out.mono ?_
      rintro e w7 ⟨v7, rfl, hs7, hb7⟩
      have h27 := Up.trans' HU6.out hb7
      obtain ⟨o4, c4, o8, c8, hv4⟩ := hs7.stat.shape
      subst hv4
      have HS4 := Lib.hid hs7
      have HZ4 := Lib.hid (HRw2.out.up h27)
      have HU7 := Lib.hid (HUw2.out.trans h27)
      obtain ⟨L5, hL5⟩ : ∃ L5, (vins ⟨t, bl⟩ st.v).length = L5 := ⟨_, rfl⟩
      obtain ⟨L6, hL6⟩ : ∃ L6, (ret st.b bl).length = L6 := ⟨_, rfl⟩
      rw [hL5, hL6] at HS4 ⊢
      clear hs7 hb7 h27 x0 x1 hL5 hL6
      have r0 := HZ4.out.frozen 0
      have r1 := HZ4.out.frozen 1
      have r2 := HZ4.out.cell (j := 0) rfl
      have r3 := HZ4.out.cell (j := 1) rfl
      go_wp2_with fail
      have hz := (HZ4.out.set 0 (.slice o4 L6 c4)).set 1 (.slice o8 L5 c8)
      have z0 := hz.cell (j := 0) rfl
      have z1 := hz.cell (j := 1) rfl
      have HOZ := Lib.hid (OSt.base (OSt.boxed HS4.out HZ4.out) HUw2.out.size)
      have HUZ := Lib.hid (up2 (x := .slice o4 L6 c4) (y := .slice o8 L5 c8) HU7.out (Nat.le_succ w.heap.size))
      generalize (w7.setCell ⟨w.heap.size + 1, 0, none⟩ (.slice o4 L6 c4)).setCell ⟨w.heap.size + 1, 1, none⟩ (.slice o8 L5 c8) = WZ at z0 z1 HOZ HUZ ⊢
      exact bodyPost_ret (v := .tuple #[.agg #[.slice o4 L6 c4, .slice o8 L5 c8], .int .i64 0]) (by simp [results, Tryz.results19, go_sem, z0, z1]) rfl ⟨_, by rw [HRZ.out], by rw [HRZ.out]; exact HOZ.out, HUZ.out⟩
    · have hne : (NE != 0) = true := by rw [bne_iff_ne]; exact hE
      have HRZ : Hid (RS = (zeroS, NE)) := by show _ = _; rw [← HRS.out, if_pos hE]
      clear hE
      have r0 := HRw2.out.frozen 0
      have r1 := HRw2.out.frozen 1
      have r2 := HRw2.out.cell (j := 0) rfl
      have r3 := HRw2.out.cell (j := 1) rfl
      go_wp2_with fail
      have hz := (HRw2.out.set 0 (.slice none 0 0)).set 1 (.slice none 0 0)
      have z0 := hz.cell (j := 0) rfl
      have z1 := hz.cell (j := 1) rfl
      have HUZ := Lib.hid (up2 (x := .slice none 0 0) (y := .slice none 0 0) HUw2.out (Nat.le_succ w.heap.size))
      generalize (w2.setCell ⟨w.heap.size + 1, 0, none⟩ (.slice none 0 0)).setCell ⟨w.heap.size + 1, 1, none⟩ (.slice none 0 0) = WZ at z0 z1 HUZ ⊢
      exact bodyPost_ret (v := .tuple #[zeroV, .int .i64 NE]) (by simp [results, Tryz.results19, go_sem, z0, z1, zeroV]) rfl ⟨_, by rw [HRZ.out], by rw [HRZ.out]; exact OSt.zero _ _, HUZ.out⟩
  · obtain ⟨E, hE⟩ : ∃ E, (vfind FP st s).2 = E := ⟨_, rfl⟩
    have hz := vfind_no h0
    have HRZ : Hid (RS = (zeroS, E)) := by show _ = _; rw [← HRS.out, if_pos h0, hE]
    rw [hE, hz] at HF
    rw [hE] at h0
    have hne : (E != 0) = true := by rw [bne_iff_ne]; exact h0
    clear hE hz h0 HSC HRS
    go_enter Tryz.func19, Tryz.ntmps19
    go_upto_region 1 with (fail)
    generalize (w.alloc (.cells #[.slice oB M cB, .slice oV N cV] 25)).alloc (.cells #[.slice none 0 0, .slice none 0 0] 25) = W0 at HA HR HW0 ⊢
    have a0 := HA.out.cell (j := 0) rfl
    have a1 := HA.out.cell (j := 1) rfl
    go_wp2_with fail
    refine (HF.out _ HW0.out).mono ?_
    rintro e w1 ⟨rfl, u1⟩
    have HUw1 := Lib.hid (HW0.out.trans u1)
    have HRw1 := Lib.hid (HR.out.up u1)
    clear a0 a1 u1
    have r0 := HRw1.out.frozen 0
    have r1 := HRw1.out.frozen 1
    have r2 := HRw1.out.cell (j := 0) rfl
    have r3 := HRw1.out.cell (j := 1) rfl
    go_wp2_with fail
    have hz := (HRw1.out.set 0 (.slice none 0 0)).set 1 (.slice none 0 0)
    have z0 := hz.cell (j := 0) rfl
    have z1 := hz.cell (j := 1) rfl
    have HUZ := Lib.hid (up2 (x := .slice none 0 0) (y := .slice none 0 0) HUw1.out (Nat.le_succ w.heap.size))
    generalize (w1.setCell ⟨w.heap.size + 1, 0, none⟩ (.slice none 0 0)).setCell ⟨w.heap.size + 1, 1, none⟩ (.slice none 0 0) = WZ at z0 z1 HUZ ⊢
    exact bodyPost_ret (v := .tuple #[zeroV, .int .i64 E]) (by simp [results, Tryz.results19, go_sem, z0, z1, zeroV]) rfl ⟨_, by rw [HRZ.out], by rw [HRZ.out]; exact OSt.zero _ _, HUZ.out⟩

theorem vclone_any (v : Value) (st : Sta) (s t : List UInt8) (w : World) (h : Stat w v st) (hwf : WfS st) (ht : t.length ≤ 9223372036854775807) :
    Calls Tryz.prog 19 #[v, .string (bs s), .string (bs t)] w (RdEPost w (clone FP st s t)) := by
  refine (vclone_own v st s t w h hwf ht).mono ?_
  rintro e w' ⟨v', h1, h2, h3⟩
  exact ⟨v', h1, h2.stat, h3⟩

end Go.Proofs.YtakbmbiebkgkiaaGreatDoor
