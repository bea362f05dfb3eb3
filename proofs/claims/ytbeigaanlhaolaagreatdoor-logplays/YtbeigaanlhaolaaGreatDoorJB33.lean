/-
  The texts RefVol6, BagQ, BagO, BagR, one behind the other; each says below what it holds and on what conditions.
-/
import Derived.Test.YtbeigaanlhaolaaGreatDoorJB32
import Derived.Test.YtbeigaanlhaolaaGreatDoorJB17
import Derived.Deep.Cut
import Derived.Test.YtbeigaanlhaolaaGreatDoorJB04
import Derived.Test.YtbeigaanlhaolaaGreatDoorJB31
import Derived.OwnWalk
import Derived.Deep.Upon

/-
  What the reference's set returns. Conditions: the place is there; a valid state's sizes.
-/
namespace Go.Proofs.YtbeigaanlhaolaaGreatDoor
open Go.RowKit
open Go.Proofs
open WoolBag
open WoolVol

/-- what a call leaves that answers a state to read -/
def RdPost (w : World) (st : Sta) (e : Ending) (w' : World) : Prop := ∃ v', e = .returned v' ∧ Stat w' v' st ∧ Up w w'

/-- sizes of a state -/
def Small (st : Sta) : Prop := st.v.length ≤ 6 ∧ ∀ x ∈ st.v, x.bl.length ≤ 32

theorem setB_blk {l : List Vo} {k a q : Nat} {x : Idn} (hk : k < l.length) (hq : q < l.length) : ((setB l k a x)[q]'(by rw [setB_len]; exact hq)).bl = if k = q then l[k].bl.set a x else l[q].bl := by
  rw [setB_get hk q hq]; split <;> rfl
theorem setB_nm {l : List Vo} {k a q : Nat} {x : Idn} (hk : k < l.length) (hq : q < l.length) : ((setB l k a x)[q]'(by rw [setB_len]; exact hq)).nm = l[q].nm := by
  rw [setB_get hk q hq]
  split
  · rename_i e; subst e; rfl
  · rfl

theorem row5 {w1 w5 : World} {base O : Nat} {bag vv : Value} {C : List VC} {Z : Obj} (hr1 : RowC w1 O 36 [bag, vv]) (hown1 : OVC w1 base vv C) (hg : (w1.alloc Z).grownBy w5 vv.ownBlock) : RowC w5 O 36 [bag, vv] := by
  refine (hr1.up (Up.alloc w1 Z)).kept hg ?_
  intro e
  rcases own_row hown1 with ⟨e2, _, _⟩ | ⟨gv, cap, sp, e2, _, hrv, _⟩
  · rw [e2] at e; cases e
  · rw [e2] at e
    cases e
    exact RowC.apart hrv hr1 voState rfl

theorem row_at {U : World} {n : Nat} (h : U.heap.size = n) (L : List Value) (T : TypeId) : RowC (U.alloc (.cells L.toArray T)) n T L := by
  subst h
  exact heap_alloc_new U _

/-- an identifier laid in a row of the call's own -/
theorem OIds.laidSelf {w : World} {base g cap j : Nat} {bl : List Idn} {x : Idn} {sp : List Value} (hg : base ≤ g) (hr : RowC w g 86 (fl idC bl ++ sp)) (hj : j < bl.length) (h4 : bl.length ≤ cap) (h5 : cap ≤ maxLen) (h6 : bl.length * 3 + sp.length = cap * 3) :
    OIds (layId w g j x) base (.slice (some ⟨g, 0, none⟩) bl.length cap) (bl.set j x) := by
  have hr' : RowC (layId w g j x) g 86 (fl idC (bl.set j x) ++ sp) := by
    have := ((hr.set (j * 3) (.bool x.1)).set (j * 3 + 1) (.int .i64 x.2.1)).set (j * 3 + 2) (.int .i64 x.2.2)
    rw [id_set bl j hj x sp] at this
    exact this
  have := own_mk (m := 3) (n := (bl.set j x).length) hg hr' (by rw [fl_length idC_len]) (by rw [List.length_set]; exact h4) h5 (by rw [List.length_set]; exact h6)
  rw [List.length_set] at this
  unfold OIds
  rw [List.length_set]
  exact this

set_option maxRecDepth 100000 in
set_option maxHeartbeats 4000000 in
theorem refSet_any (v : Value) (st : Sta) (k j : Nat) (x : Idn) (w : World) (h : Stat w v st) (hs : Small st) (hk : k < st.v.length) (hj : j < st.v[k].bl.length) :
    Calls Tryz.prog 76 #[v, .int .i64 (k : Int), .int .i64 (j : Int), idV x] w (RdPost w ⟨st.b, setB st.v k j x⟩) := by
  obtain ⟨i0, hi, hz0, hz1, hz2⟩ := volInfo'
  have HI := Lib.hid hi
  have HZ0 := Lib.hid hz0
  have HZ1 := Lib.hid hz1
  have HZ2 := Lib.hid hz2
  obtain ⟨vb, vv, rfl, hb, hv⟩ := h
  obtain ⟨oB, cB, rfl, _⟩ := hb.slice
  obtain ⟨oV, cV, rfl, hV1, hV2⟩ := hv.slice
  unfold maxLen at hV2
  have HBI := Lib.hid hb
  have HVI := Lib.hid hv
  obtain ⟨hs1, hs2⟩ := hs
  clear hb hv hi hz0 hz1 hz2
  obtain ⟨N, hN⟩ : ∃ N, st.v.length = N := ⟨_, rfl⟩
  have HN := Lib.hid hN
  rw [hN] at hV1 HVI hs1 ⊢
  obtain ⟨M, hM⟩ : ∃ M, st.b.length = M := ⟨_, rfl⟩
  rw [hM] at HBI ⊢
  clear hN hM
  obtain ⟨xb, xs, xn⟩ := x
  unfold idV
  simp only
  go_enter Tryz.func76, Tryz.ntmps76
  go_wp2_with fail
  have HRI : Hid (RowC ((((w.alloc (.cells #[.slice oB M cB, .slice oV N cV] 36)).alloc (.cells #[.bool xb, .int .i64 xs, .int .i64 xn] 86)).alloc (.cells #[.slice none 0 0, .slice none 0 0] 36)).alloc (.cells #[.slice oB M cB, .slice none 0 0] 36)) (w.heap.size + 1) 86 [.bool xb, .int .i64 xs, .int .i64 xn]) := ((row_at (by simp) [.bool xb, .int .i64 xs, .int .i64 xn] 86).up (Up.alloc _ _)).up (Up.alloc _ _)
  have HRR : Hid (RowC ((((w.alloc (.cells #[.slice oB M cB, .slice oV N cV] 36)).alloc (.cells #[.bool xb, .int .i64 xs, .int .i64 xn] 86)).alloc (.cells #[.slice none 0 0, .slice none 0 0] 36)).alloc (.cells #[.slice oB M cB, .slice none 0 0] 36)) (w.heap.size + 1 + 1) 36 [.slice none 0 0, .slice none 0 0]) := (row_at (by simp) [.slice none 0 0, .slice none 0 0] 36).up (Up.alloc _ _)
  have HRO : Hid (RowC ((((w.alloc (.cells #[.slice oB M cB, .slice oV N cV] 36)).alloc (.cells #[.bool xb, .int .i64 xs, .int .i64 xn] 86)).alloc (.cells #[.slice none 0 0, .slice none 0 0] 36)).alloc (.cells #[.slice oB M cB, .slice none 0 0] 36)) (w.heap.size + 1 + 1 + 1) 36 [.slice oB M cB, .slice none 0 0]) := row_at (by simp) [.slice oB M cB, .slice none 0 0] 36
  have HW0 : Hid (Up w ((((w.alloc (.cells #[.slice oB M cB, .slice oV N cV] 36)).alloc (.cells #[.bool xb, .int .i64 xs, .int .i64 xn] 86)).alloc (.cells #[.slice none 0 0, .slice none 0 0] 36)).alloc (.cells #[.slice oB M cB, .slice none 0 0] 36))) := (((Up.alloc _ _).trans (Up.alloc _ _)).trans (Up.alloc _ _)).trans (Up.alloc _ _)
  have HSZ : Hid (((((w.alloc (.cells #[.slice oB M cB, .slice oV N cV] 36)).alloc (.cells #[.bool xb, .int .i64 xs, .int .i64 xn] 86)).alloc (.cells #[.slice none 0 0, .slice none 0 0] 36)).alloc (.cells #[.slice oB M cB, .slice none 0 0] 36)).heap.size = w.heap.size + 1 + 1 + 1 + 1) := by show _ = _; simp
  generalize ((((w.alloc (.cells #[.slice oB M cB, .slice oV N cV] 36)).alloc (.cells #[.bool xb, .int .i64 xs, .int .i64 xn] 86)).alloc (.cells #[.slice none 0 0, .slice none 0 0] 36)).alloc (.cells #[.slice oB M cB, .slice none 0 0] 36)) = W0 at HRI HRR HRO HW0 HSZ ⊢
  obtain ⟨O, hO⟩ : ∃ O, w.heap.size + 1 + 1 + 1 = O := ⟨_, rfl⟩
  have HO3 := Lib.hid hO
  rw [hO] at HRO HSZ ⊢
  clear hO
  have HST : Hid (SetRel (setB st.v k j (xb, xs, xn)) O W0.heap.size O (.slice oB M cB) W0 (.int .i64 0) W0) := ⟨0, .slice none 0 0, [], Nat.zero_le _, rfl, ⟨rfl, HRO.out, World.ownsRow_nil _ _ _ _, fun q _ hq => absurd hq (by simp), fun q _ hq => absurd hq (by simp), Below.refl _ _⟩⟩
  go_loopw [18] (fun i wr => SetRel (setB st.v k j (xb, xs, xn)) O W0.heap.size O (.slice oB M cB) W0 i wr) (fun i _ => N - (intOf i).toNat)
  case atStart => exact HST.out
  case round =>
    obtain ⟨m, vv, C, hm, rfl, hI⟩ := hrel
    rw [setB_len, HN.out] at hm
    have HI0 := Lib.hid hI
    have hwO : w.heap.size ≤ O := by have := HO3.out; omega
    obtain ⟨oC, cC, hvv, hcC1, hcC2⟩ := Sl.slice hI.own.vcs
    subst hvv
    unfold maxLen at hcC2
    have HCl : Hid (C.length = m) := hI.len
    have hC6 : C.length ≤ 6 := by rw [hI.len]; omega
    have HUw : Hid (Up w wr) := HW0.out.trans' (hI.low.mono (show w.heap.size ≤ O from hwO))
    clear hI
    by_cases hlt : m < N
    · have hml : m < st.v.length := by rw [HN.out]; exact hlt
      obtain ⟨b, off, rfl, h5⟩ := HVI.out.at (by intro e; rw [e] at hml; simp at hml)
      obtain ⟨a1, u0, a2, hids⟩ := h5 m hml
      have e1 := (HUw.out.cell (World.block_lt_of_cell? w _ a1)).trans a1
      have e2 := (HUw.out.cell (World.block_lt_of_cell? w _ a2)).trans a2
      have HCD := Lib.hid (fun W (hW : Up w W) => cloneD_any u0 st.v[m].bl W (hids.up hW) (hs2 _ (List.getElem_mem hml)))
      obtain ⟨o', c', hsl, _, _⟩ := hids.slice
      subst hsl
      obtain ⟨nm, hnm⟩ : ∃ nm, st.v[m].nm = nm := ⟨_, rfl⟩
      have HNM := Lib.hid hnm
      rw [hnm] at e1
      obtain ⟨bl, hbl⟩ : ∃ bl, st.v[m].bl = bl := ⟨_, rfl⟩
      have HBL := Lib.hid hbl
      rw [hbl] at e2 HCD
      obtain ⟨L, hL⟩ : ∃ L, bl.length = L := ⟨_, rfl⟩
      have HLL := Lib.hid hL
      rw [hL] at e2 HCD
      have d1 : decide (m < N) = true := decide_eq_true hlt
      clear h5 a1 a2 hids hnm hbl hL
      go_wp2_with fail
      have HV3 : Hid (RowC (wr.alloc (.cells #[.string (bs nm), .slice o' L c'] 81)) wr.heap.size 81 [.string (bs nm), .slice o' L c']) := heap_alloc_new wr _
      have HU3 : Hid (Up wr (wr.alloc (.cells #[.string (bs nm), .slice o' L c'] 81))) := Up.alloc _ _
      generalize (wr.alloc (.cells #[.string (bs nm), .slice o' L c'] 81)) = W3 at HV3 HU3 ⊢
      refine (HCD.out _ (HUw.out.trans HU3.out)).mono ?_
      rintro e w1 ⟨u, rfl, hou, u1⟩
      obtain ⟨oU, cU, hue, hU1, hU2⟩ := hou.ids.slice
      rw [HLL.out] at hue hU1
      subst hue
      have hUr : Up wr w1 := HU3.out.trans u1
      have hV1 := HV3.out.up u1
      have v0 := hV1.cell (j := 1) rfl
      have v1 := hV1.frozen 1
      have hO1 := HI0.out.row.up hUr
      have hC1 := own_up HI0.out.own hUr
      have hVO : wr.heap.size ≠ O := by have := HI0.out.row.lt; omega
      have hvb : (Value.slice oC C.length cC).ownBlock ≠ some wr.heap.size := fun e => Nat.lt_irrefl _ (World.ownsRow.lt HI0.out.own _ e).2
      have HV2 := Lib.hid (hV1.set 1 (.slice oU L cU))
      have HO2 := Lib.hid (hO1.other (Ne.symm hVO) 1 (.slice oU L cU) (g' := wr.heap.size))
      have HC2 : Hid (OVC (w1.setCell ⟨wr.heap.size, 1, none⟩ (.slice oU L cU)) W0.heap.size (.slice oC C.length cC) C) := own_set hC1 hvb
      have HQ2 : Hid (∀ q (hq : q < C.length) (hql : q < (setB st.v k j (xb, xs, xn)).length), OIds (w1.setCell ⟨wr.heap.size, 1, none⟩ (.slice oU L cU)) W0.heap.size C[q].sl (setB st.v k j (xb, xs, xn))[q].bl) := fun q hq hql =>
        own_set (own_up (HI0.out.bl q hql hq) hUr) (own_apart (own_up (HI0.out.bl q hql hq) hUr) hV1 idVol)
      have HUU : Hid (OIds (w1.setCell ⟨wr.heap.size, 1, none⟩ (.slice oU L cU)) wr.heap.size (.slice oU L cU) bl) := own_set (own_base hou HU3.out.size) (own_apart hou hV1 idVol)
      have HL2 : Hid (Below O W0 (w1.setCell ⟨wr.heap.size, 1, none⟩ (.slice oU L cU))) := Below.setCell (HI0.out.low.trans (hUr.mono (Nat.le_of_lt HI0.out.row.lt))) (p := ⟨wr.heap.size, 1, none⟩) (Nat.le_of_lt HI0.out.row.lt) _
      have HSS : Hid ((w1.setCell ⟨wr.heap.size, 1, none⟩ (.slice oU L cU)).heap.size = w1.heap.size) := by show _ = _; simp
      have hUsz := hUr.size
      clear hou u1 hUr hV1 hO1 hC1
      go_upto_region 6 with (fail)
      generalize w1.setCell ⟨wr.heap.size, 1, none⟩ (.slice oU L cU) = W4 at HV2 HO2 HC2 HQ2 HUU HL2 HSS ⊢
      clear v0 v1
      by_cases hmk : m = k
      · subst hmk
        have hjb : j < bl.length := by rw [← HBL.out]; exact hj
        have hjL : j < L := by rw [← HLL.out]; exact hjb
        rcases own_row HUU.out with ⟨_, hu0, _⟩ | ⟨g, cap, sp, hue, hgb, hrow, hr4, hr5, hr6⟩
        · omega
        have hcap : cap = cU := by cases hue; rfl
        have hoU : oU = some ⟨g, 0, none⟩ := by cases hue; rfl
        subst hcap hoU
        have hg3 := fun i hi => fl_get idC_len bl j hjb i hi
        have p0 : W4.cell? ⟨g, j * 3, none⟩ = some (.bool bl[j].1) := hrow.cell (by rw [List.getElem?_append_left (by rw [fl_length idC_len]; omega)]; exact hg3 0 (by omega))
        have p1 : W4.cell? ⟨g, j * 3 + 1, none⟩ = some (.int .i64 bl[j].2.1) := hrow.cell (by rw [List.getElem?_append_left (by rw [fl_length idC_len]; omega)]; exact hg3 1 (by omega))
        have p2 : W4.cell? ⟨g, j * 3 + 2, none⟩ = some (.int .i64 bl[j].2.2) := hrow.cell (by rw [List.getElem?_append_left (by rw [fl_length idC_len]; omega)]; exact hg3 2 (by omega))
        have p3 := hrow.frozen (j * 3)
        have p4 := hrow.frozen (j * 3 + 1)
        have p5 := hrow.frozen (j * 3 + 2)
        have p6 := HV2.out.cell (j := 1) rfl
        have hIW : RowC W4 (w.heap.size + 1) 86 [.bool xb, .int .i64 xs, .int .i64 xn] := HRI.out.below HL2.out (by have := HO3.out; omega)
        have p7 := hIW.cell (j := 0) rfl
        have p8 := hIW.cell (j := 1) rfl
        have p9 := hIW.cell (j := 2) rfl
        have hIg : w.heap.size + 1 ≠ g := by
          have h1 := HI0.out.row.lt
          have h2 := HO3.out
          omega
        have HV5 := Lib.hid (HV2.out.laidId (a := j) (x := (xb, xs, xn)) (Ne.symm (RowC.apart hrow HV2.out idVol)))
        have HO5 := Lib.hid (HO2.out.laidId (a := j) (x := (xb, xs, xn)) (Ne.symm (RowC.apart hrow HO2.out idState)))
        have HC5 : Hid (OVC (layId W4 g j (xb, xs, xn)) W0.heap.size (.slice oC C.length cC) C) := own_layId HC2.out (own_apart HC2.out hrow (Ne.symm idVol))
        have HQ5 : Hid (∀ q (hq : q < C.length) (hql : q < (setB st.v m j (xb, xs, xn)).length), OIds (layId W4 g j (xb, xs, xn)) W0.heap.size C[q].sl (setB st.v m j (xb, xs, xn))[q].bl) := fun q hq hql =>
          own_layId (HQ2.out q hq hql) (fun e => by
            have h1 := (World.ownsRow.lt (HI0.out.bl q hql hq) _ e).2
            omega)
        have hW0wr : W0.heap.size ≤ wr.heap.size := HI0.out.low.size
        have HU5 : Hid (OIds (layId W4 g j (xb, xs, xn)) W0.heap.size (.slice (some ⟨g, 0, none⟩) L cap) ((setB st.v m j (xb, xs, xn))[m]'(by rw [setB_len]; exact hk)).bl) := by
          show OIds _ _ _ _
          rw [setB_blk hk hk, if_pos rfl, HBL.out]
          have := OIds.laidSelf (base := W0.heap.size) (x := (xb, xs, xn)) (Nat.le_trans hW0wr hgb) hrow hjb hr4 hr5 hr6
          rw [HLL.out] at this
          exact this
        have HL5 : Hid (Below O W0 (layId W4 g j (xb, xs, xn))) := below_layId HL2.out (by have h1 := HI0.out.row.lt; omega)
        have HB5 : Hid (W0.heap.size ≤ (layId W4 g j (xb, xs, xn)).heap.size) := HL5.out.size
        have hlay : layId W4 g j (xb, xs, xn) = ((W4.setCell ⟨g, j * 3, none⟩ (.bool xb)).setCell ⟨g, j * 3 + 1, none⟩ (.int .i64 xs)).setCell ⟨g, j * 3 + 2, none⟩ (.int .i64 xn) := rfl
        clear hg3 hue
        go_upto_region 8 with (fail)
        clear p0 p1 p2 p3 p4 p5 p6 p7 p8 p9 hrow hIW
        rw [← hlay]
        clear hlay
        generalize layId W4 g j (xb, xs, xn) = W6 at HV5 HO5 HC5 HQ5 HU5 HL5 HB5 ⊢
        have HNX : Hid (∀ vv' w5 Z, w5.ownsRow W0.heap.size 81 2 vv' (C.length + 1) (fl vcC C ++ [.string (bs nm), .slice (some ⟨g, 0, none⟩) L cap]) → (W6.alloc Z).grownBy w5 (Value.slice oC C.length cC).ownBlock → SetRel (setB st.v m j (xb, xs, xn)) O W0.heap.size O (.slice oB M cB) W0 (.int .i64 ((m + 1 : Nat) : Int)) (w5.setCell ⟨O, 1, none⟩ vv')) := by
          intro vv' w5 Z h1 h2
          refine ⟨m + 1, vv', _, by rw [setB_len, HN.out]; omega, rfl, SetI.step HI0.out (by rw [setB_len, HN.out]; exact hlt) (Nat.le_refl _) HB5.out (by have := HSZ.out; omega) HO5.out HL5.out HC5.out HQ5.out HU5.out ?_ Z h2⟩
          rw [setB_nm hk (by rw [HN.out]; exact hlt), HNM.out]
          exact h1
        have s0 := HO5.out.cell (j := 1) rfl
        have s1 := HO5.out.frozen 1
        have s2 := HV5.out.cell (j := 0) rfl
        have s3 := HV5.out.cell (j := 1) rfl
        have HWB := HB5.out
        go_wp2_with (at_builtin; refine wpList_append_own _ rfl _ _ 34 rfl W0.heap.size 81 i0 (.agg #[.string ⟨#[]⟩, .slice none 0 0]) 2 40 Tryz.underlying34 HI.out HZ0.out HZ1.out HZ2.out rfl (by decide) _ _ _ rfl (World.ownsRow.alloc HC5.out _) ⟨(W6).heap.size, 0, none⟩ 1 1 [.string (bs nm), .slice (some ⟨g, 0, none⟩) L cap] rfl rfl (row_new _ _ _) (by simp [Value.oneCell']) (by unfold maxLen; omega) (by omega) (by simp; omega) ?_; intro vv' w5 hown5 hgrow5 _; obtain ⟨oN, cN, hvN⟩ := own_slice hown5; subst hvN; have hr5 := row5 HO5.out HC5.out hgrow5; have t0 := hr5.cell (j := 1) rfl; have t1 := hr5.frozen 1)
        have hnx := HNX.out _ w5 _ hown5 hgrow5
        generalize w5.setCell ⟨O, 1, none⟩ (.slice oN (C.length + 1) cN) = W9 at hnx ⊢
        have HNX9 := Lib.hid hnx
        clear hnx hown5 hgrow5 hr5 t0 t1 s0 s1 s2 s3
        go_roundw
        case rel => exact HNX9.out
        case measure => simp only [intOf]; omega
      · have hmk2 : (m == k) = false := by simpa using hmk
        have HV5 := HV2
        have HO5 := HO2
        have HC5 := HC2
        have HQ5 := HQ2
        have hW0wr : W0.heap.size ≤ wr.heap.size := HI0.out.low.size
        have HU5 : Hid (OIds W4 W0.heap.size (.slice oU L cU) ((setB st.v k j (xb, xs, xn))[m]'(by rw [setB_len, HN.out]; exact hlt)).bl) := by
          show OIds _ _ _ _
          rw [setB_blk hk (by rw [HN.out]; exact hlt), if_neg (fun e => hmk e.symm), HBL.out]
          exact own_base HUU.out hW0wr
        have HL5 := HL2
        have HB5 : Hid (W0.heap.size ≤ W4.heap.size) := HL5.out.size
        have p6 := HV2.out.cell (j := 1) rfl
        have HNX : Hid (∀ vv' w5 Z, w5.ownsRow W0.heap.size 81 2 vv' (C.length + 1) (fl vcC C ++ [.string (bs nm), .slice oU L cU]) → (W4.alloc Z).grownBy w5 (Value.slice oC C.length cC).ownBlock → SetRel (setB st.v k j (xb, xs, xn)) O W0.heap.size O (.slice oB M cB) W0 (.int .i64 ((m + 1 : Nat) : Int)) (w5.setCell ⟨O, 1, none⟩ vv')) := by
          intro vv' w5 Z h1 h2
          refine ⟨m + 1, vv', _, by rw [setB_len, HN.out]; omega, rfl, SetI.step HI0.out (by rw [setB_len, HN.out]; exact hlt) (Nat.le_refl _) HB5.out (by have := HSZ.out; omega) HO5.out HL5.out HC5.out HQ5.out HU5.out ?_ Z h2⟩
          rw [setB_nm hk (by rw [HN.out]; exact hlt), HNM.out]
          exact h1
        have s0 := HO5.out.cell (j := 1) rfl
        have s1 := HO5.out.frozen 1
        have s2 := HV5.out.cell (j := 0) rfl
        have s3 := HV5.out.cell (j := 1) rfl
        have HWB := HB5.out
        go_wp2_with (at_builtin; refine wpList_append_own _ rfl _ _ 34 rfl W0.heap.size 81 i0 (.agg #[.string ⟨#[]⟩, .slice none 0 0]) 2 40 Tryz.underlying34 HI.out HZ0.out HZ1.out HZ2.out rfl (by decide) _ _ _ rfl (World.ownsRow.alloc HC5.out _) ⟨(W4).heap.size, 0, none⟩ 1 1 [.string (bs nm), .slice oU L cU] rfl rfl (row_new _ _ _) (by simp [Value.oneCell']) (by unfold maxLen; omega) (by omega) (by simp; omega) ?_; intro vv' w5 hown5 hgrow5 _; obtain ⟨oN, cN, hvN⟩ := own_slice hown5; subst hvN; have hr5 := row5 HO5.out HC5.out hgrow5; have t0 := hr5.cell (j := 1) rfl; have t1 := hr5.frozen 1)
        have hnx := HNX.out _ w5 _ hown5 hgrow5
        generalize w5.setCell ⟨O, 1, none⟩ (.slice oN (C.length + 1) cN) = W9 at hnx ⊢
        have HNX9 := Lib.hid hnx
        clear hnx hown5 hgrow5 hr5 t0 t1 s0 s1 s2 s3
        go_roundw
        case rel => exact HNX9.out
        case measure => simp only [intOf]; omega
    · have d1 : decide (m < N) = false := decide_eq_false hlt
      have hme : m = (setB st.v k j (xb, xs, xn)).length := by rw [setB_len, HN.out]; omega
      have hdn := HI0.out
      rw [hme] at hdn
      have HME := Lib.hid hme
      have s0 := HI0.out.row.cell (j := 0) rfl
      have s1 := HI0.out.row.cell (j := 1) rfl
      have hRr : RowC wr (w.heap.size + 1 + 1) 36 [.slice none 0 0, .slice none 0 0] := HRR.out.below HI0.out.low (by have := HO3.out; omega)
      have t0 := hRr.frozen 0
      have t1 := hRr.frozen 1
      have t2 := hRr.cell (j := 0) rfl
      have t3 := hRr.cell (j := 1) rfl
      have HRR2 := Lib.hid hRr
      clear hdn hme hRr
      go_wp2_with fail
      have hz := (HRR2.out.set 0 (.slice oB M cB)).set 1 (.slice oC C.length cC)
      have z0 := hz.cell (j := 0) rfl
      have z1 := hz.cell (j := 1) rfl
      have hneR : ∀ g : Nat, W0.heap.size ≤ g → w.heap.size + 1 + 1 ≠ g := by intro g hg; have h1 := HSZ.out; have h2 := HO3.out; omega
      have HUZ : Hid (Up w ((wr.setCell ⟨w.heap.size + 1 + 1, 0, none⟩ (.slice oB M cB)).setCell ⟨w.heap.size + 1 + 1, 1, none⟩ (.slice oC C.length cC))) := (Below.setCell (show Below w.heap.size w wr from HUw.out) (p := ⟨w.heap.size + 1 + 1, 0, none⟩) (by show w.heap.size ≤ w.heap.size + 1 + 1; omega) _).setCell (p := ⟨w.heap.size + 1 + 1, 1, none⟩) (by show w.heap.size ≤ w.heap.size + 1 + 1; omega) _
      have HVZ : Hid (Vols ((wr.setCell ⟨w.heap.size + 1 + 1, 0, none⟩ (.slice oB M cB)).setCell ⟨w.heap.size + 1 + 1, 1, none⟩ (.slice oC C.length cC)) (.slice oC C.length cC) (setB st.v k j (xb, xs, xn))) := by
        have hI1 := HI0.out
        rw [HME.out] at hI1
        have hv1 := own_set (i := 0) (x := .slice oB M cB) hI1.own (own_apart hI1.own HRR2.out voState)
        refine ⟨C, OVC.vcs (own_set hv1 (own_apart hv1 (HRR2.out.set 0 _) voState)), ⟨hI1.len, fun q hq => hI1.nm q hq (by rw [hI1.len]; exact hq), fun q hq => ?_⟩⟩
        have hb := hI1.bl q hq (by rw [hI1.len]; exact hq)
        have h1 := own_set (i := 0) (x := .slice oB M cB) hb (own_apart hb HRR2.out idState)
        exact OIds.ids (own_set h1 (own_apart h1 (HRR2.out.set 0 _) idState))
      generalize (wr.setCell ⟨w.heap.size + 1 + 1, 0, none⟩ (.slice oB M cB)).setCell ⟨w.heap.size + 1 + 1, 1, none⟩ (.slice oC C.length cC) = WZ at z0 z1 HUZ HVZ ⊢
      exact bodyPost_ret (v := .agg #[.slice oB M cB, .slice oC C.length cC]) (by simp [results, Tryz.results76, go_sem, z0, z1]) rfl ⟨_, rfl, ⟨_, _, rfl, HBI.out.up HUZ.out, HVZ.out⟩, HUZ.out⟩

end Go.Proofs.YtbeigaanlhaolaaGreatDoor

/-
  Bags as lists, against the reference: what is sorted is the inserted; which numbers are in use; what is struck. Conditions: as each says.
-/
namespace WoolBag

variable {F : List UInt8 → Int}

theorem ins_perm (x : Itm) (l : List Itm) : (ins x l).Perm (l ++ [x]) := by
  unfold ins
  have h1 : (l.take (place x l) ++ x :: l.drop (place x l)).Perm (x :: (l.take (place x l) ++ l.drop (place x l))) := List.perm_middle
  rw [List.take_append_drop] at h1
  exact h1.trans (List.perm_append_singleton x l).symm

theorem sort_ins {l d : List Itm} {x : Itm} (hb : Bag F (ins x l)) (hp : d.Perm (l ++ [x])) (hs : d.Pairwise (fun a b => behB b a = false)) : d = ins x l := by
  have hpp := hp.trans (ins_perm x l).symm
  refine List.Perm.eq_of_pairwise (le := fun a b => behB b a = false) ?_ hs ?_ hpp
  · intro a b ha hb' h1 h2
    have ha' : a ∈ ins x l := hpp.subset ha
    refine hb.id_mem ha' hb' (id_eq.2 ?_)
    rw [Bool.eq_false_iff, Ne, beh_iff] at h1 h2
    unfold Beh at h1 h2
    omega
  · refine hb.beh.imp ?_
    intro a b h
    rw [Bool.eq_false_iff, Ne, beh_iff]
    exact fun h' => h.asymm h'

/-- the numbers in use among those of a sum -/
def nums (l : List Itm) (σ : Int) : List Int := (l.filter fun y => y.s == σ).map (·.n)

theorem nums_contains (l : List Itm) (σ k : Int) : (nums l σ).contains k = l.any (idB (true, σ, k)) := by
  rw [Bool.eq_iff_iff, List.contains_iff_mem, List.any_eq_true]
  unfold nums
  simp only [List.mem_map, List.mem_filter, beq_iff_eq]
  constructor
  · rintro ⟨y, ⟨hy, hs⟩, hn⟩
    exact ⟨y, hy, by unfold idB; simp [hs, hn]⟩
  · rintro ⟨y, hy, e⟩
    unfold idB at e
    simp at e
    exact ⟨y, ⟨hy, e.1⟩, e.2⟩

theorem nums_length (l : List Itm) (σ : Int) : (nums l σ).length ≤ l.length := by
  unfold nums
  rw [List.length_map]
  exact List.length_filter_le _ _

theorem nums_hit {l : List Itm} {k : Nat} (hk : k < l.length) {σ : Int} (e : l[k].s = σ) : nums (l.take (k + 1)) σ = nums (l.take k) σ ++ [l[k].n] := by
  unfold nums
  rw [List.take_succ_eq_append_getElem hk, List.filter_append, List.map_append]
  simp [e]

theorem nums_miss {l : List Itm} {k : Nat} (hk : k < l.length) {σ : Int} (e : l[k].s ≠ σ) : nums (l.take (k + 1)) σ = nums (l.take k) σ := by
  unfold nums
  rw [List.take_succ_eq_append_getElem hk, List.filter_append, List.map_append]
  simp [e]

/-- one that is used once less, by striking what is not used -/
theorem less_filter {l : List Itm} (hb : Bag F l) {k : Nat} (hk : k < l.length) : ((l.set k (more l[k] (-1))).filter fun x => !(x.r == 0)) = less l k := by
  unfold less
  rw [getElem!_pos l k hk]
  have hpos : ∀ x ∈ l, (!(x.r == 0)) = true := fun x hx => by
    have := (hb.ok x hx).2.2.2.2.1
    simp; omega
  have hfl : ∀ m : List Itm, (∀ x ∈ m, (!(x.r == 0)) = true) → m.filter (fun x => !(x.r == 0)) = m := fun m hm => List.filter_eq_self.2 hm
  have hset : l.set k (more l[k] (-1)) = l.take k ++ more l[k] (-1) :: l.drop (k + 1) := by rw [List.set_eq_take_append_cons_drop, if_pos hk]
  rw [hset, List.filter_append, List.filter_cons, hfl _ (fun x hx => hpos x (List.mem_of_mem_take hx)), hfl _ (fun x hx => hpos x (List.mem_of_mem_drop hx))]
  have hmr : (more l[k] (-1)).r = l[k].r + -1 := rfl
  by_cases h1 : l[k].r = 1
  · rw [if_pos h1, if_neg (by rw [hmr, h1]; simp), List.eraseIdx_eq_take_drop_succ]
  · rw [if_neg h1, if_pos (by rw [hmr]; simp; omega)]

end WoolBag

/-
  What Put, Get, Drop, Check and two return, in the form that the laws' walks take. Conditions: as each says.
-/
namespace Go.Proofs.YtbeigaanlhaolaaGreatDoor
open Go.RowKit
open Go.Proofs
open WoolBag

end Go.Proofs.YtbeigaanlhaolaaGreatDoor

/-
  What roomy, marked and spoil (of the laws on memory) do with rows of items. Conditions: as each says.
-/
namespace Go.Proofs.YtbeigaanlhaolaaGreatDoor
open Go.RowKit
open Go.Proofs
open WoolBag

theorem set4 (A R : List Value) (u0 u1 u2 u3 v0 v1 v2 v3 : Value) (a : Nat) (h : A.length = a) :
    ((((A ++ (u0 :: u1 :: u2 :: u3 :: R)).set a v0).set (a + 1) v1).set (a + 2) v2).set (a + 3) v3 = A ++ (v0 :: v1 :: v2 :: v3 :: R) := by
  subst h
  rw [List.set_append_right _ _ (Nat.le_refl _), List.set_append_right _ _ (by omega), List.set_append_right _ _ (by omega), List.set_append_right _ _ (by omega)]
  simp [show A.length + 1 - A.length = 1 by omega, show A.length + 2 - A.length = 2 by omega, show A.length + 3 - A.length = 3 by omega]

theorem cells4 {w : World} {g a : Nat} {A R : List Value} {u0 u1 u2 u3 : Value} (h : RowI w g (A ++ (u0 :: u1 :: u2 :: u3 :: R))) (ha : A.length = a) :
    w.cell? ⟨g, a, none⟩ = some u0 ∧ w.cell? ⟨g, a + 1, none⟩ = some u1 ∧ w.cell? ⟨g, a + 2, none⟩ = some u2 ∧ w.cell? ⟨g, a + 3, none⟩ = some u3 := by
  subst ha
  refine ⟨h.cell ?_, h.cell ?_, h.cell ?_, h.cell ?_⟩ <;> rw [List.getElem?_append_right (by omega)]
  · simp
  · simp [show A.length + 1 - A.length = 1 by omega]
  · simp [show A.length + 2 - A.length = 2 by omega]
  · simp [show A.length + 3 - A.length = 3 by omega]

theorem RowI.set4 {w : World} {g a : Nat} {A R : List Value} {u0 u1 u2 u3 : Value} (h : RowI w g (A ++ (u0 :: u1 :: u2 :: u3 :: R))) (ha : A.length = a) (v0 v1 v2 v3 : Value) :
    RowI ((((w.setCell ⟨g, a, none⟩ v0).setCell ⟨g, a + 1, none⟩ v1).setCell ⟨g, a + 2, none⟩ v2).setCell ⟨g, a + 3, none⟩ v3) g (A ++ (v0 :: v1 :: v2 :: v3 :: R)) := by
  have := (((h.set a v0).set (a + 1) v1).set (a + 2) v2).set (a + 3) v3
  rw [Go.Proofs.YtbeigaanlhaolaaGreatDoor.set4 A R u0 u1 u2 u3 v0 v1 v2 v3 a ha] at this
  exact this

/-- stores into one block -/
theorem grown_set4 {w w' : World} {g a : Nat} (h : w.grownBy w' (some g)) (v0 v1 v2 v3 : Value) :
    w.grownBy ((((w'.setCell ⟨g, a, none⟩ v0).setCell ⟨g, a + 1, none⟩ v1).setCell ⟨g, a + 2, none⟩ v2).setCell ⟨g, a + 3, none⟩ v3) (some g) := by
  have one : ∀ (W : World) (j : Nat) (v : Value), w.grownBy W (some g) → w.grownBy (W.setCell ⟨g, j, none⟩ v) (some g) := fun W j v hW =>
    ⟨hW.os, hW.tape, hW.output, by simpa [World.setCell] using hW.size, fun k hk hne => by
      have hkg : g ≠ k := fun e => hne (by rw [e])
      simp [World.setCell, Array.getElem?_modify, hkg]
      simpa using hW.block k hk hne⟩
  exact one _ _ _ (one _ _ _ (one _ _ _ (one _ _ _ h)))

/-! ytbeigaanlhaolaagreatdoor# spoil -/

end Go.Proofs.YtbeigaanlhaolaaGreatDoor
