/-
  What the reference's Texts returns, of a valid state. Conditions: a valid state.
-/
import Derived.Test.YtcbppfndlagodaaGreatDoorJDiffSays38
namespace Go.Proofs.YtcbppfndlagodaaGreatDoor
open Go.RowKit
open Go.Proofs
open WoolBag
open WoolVol

def TxtPost (st : Sta) (w : World) (e : Ending) (w' : World) : Prop := ∃ B, e = .returned (.map (some B)) ∧ TMap w' B st.v.length st ∧ Up w w'

def TXRel (st : Sta) (B : Nat) (W0 : World) (i : Value) (wr : World) : Prop := ∃ k : Nat, k ≤ st.v.length ∧ i = .int .i64 k ∧ TMap wr B k st ∧ Up W0 wr

def TIRel (x : Vo) (l : List Itm) (g : Nat) (W1 : World) (i : Value) (wr : World) : Prop :=
  ∃ j : Nat, j ≤ x.bl.length ∧ i = .int .i64 j ∧ RowC wr g 9 (fl txR ((x.bl.take j).map (txt l)) ++ List.replicate (x.bl.length - j) (.string ⟨#[]⟩)) ∧ Up W1 wr

theorem TMap.up {w w' : World} {B k : Nat} {st : Sta} (h : TMap w B k st) (hu : Up w w') : TMap w' B k st := by
  obtain ⟨D, h1, h2⟩ := h
  refine ⟨D, h1.kept (grown_up hu none) (by simp), fun j hj hk => ?_⟩
  obtain ⟨v, hv, hv2⟩ := h2 j hj hk
  exact ⟨v, hv, hv2.up hu⟩

theorem strInfoR : (Tryz.prog.info? 9).map (fun i => (i.zero, i.size, i.bytes)) = some (some (.string ⟨#[]⟩), 1, 16) := by kernel_rfl

theorem made_row (w : World) (n : Nat) : RowC (w.alloc (.cells (madeCells #[.string ⟨#[]⟩] n) 9)) w.heap.size 9 (List.replicate n (.string ⟨#[]⟩)) := by
  unfold RowC
  rw [heap_alloc_new, ← toList_madeCells_one]

set_option maxRecDepth 100000 in
set_option maxHeartbeats 4000000 in
theorem refTexts_any (v : Value) (st : Sta) (w : World) (h : Stat w v st) (hg : WoolVol.Good FP st) :
    Calls Tryz.prog 19 #[v] w (TxtPost st w) := by
  obtain ⟨vb, vv, rfl, hb, hv⟩ := h
  have HIT := Lib.hid (fun ib is iN W (hW : Up w W) => refItem_any vb st.b ib is iN W (hb.up hW))
  obtain ⟨oB, cB, rfl, hcB⟩ := hb.slice
  obtain ⟨oV, cV, rfl, hV1, hV2⟩ := hv.slice
  unfold maxLen at hcB hV2
  have HBI := Lib.hid hb
  have HVI := Lib.hid hv
  have HG := Lib.hid hg
  have hlv := hg.len
  have hlb := hg.bag.len
  clear hb hv hg
  obtain ⟨N, hN⟩ : ∃ N, st.v.length = N := ⟨_, rfl⟩
  have HN := Lib.hid hN
  rw [hN] at hV1 HVI hlv ⊢
  obtain ⟨M, hM⟩ : ∃ M, st.b.length = M := ⟨_, rfl⟩
  have HM := Lib.hid hM
  rw [hM] at HBI HIT hlb ⊢
  clear hN hM
  have hmm := @run_makeMap Tryz.prog
  have hmk := fun n (h1 : 16 * n ≤ 281474976710656) (h2 : n ≤ 9223372036854775807) W => run_make_row' (P := Tryz.prog) 51 9 (.string ⟨#[]⟩) 16 Tryz.underlying51 strInfoR rfl .i64 .i64 n h1 h2 W
  have HMK := Lib.hid hmk
  clear hmk
  go_enter Tryz.func19, Tryz.ntmps19
  go_wp2_with fail
  clear hmm
  have HC : Hid ((w.alloc (.cells #[.slice oB M cB, .slice oV N cV] 25)).cell? ⟨w.heap.size, 0, none⟩ = some (.slice oB M cB) ∧ (w.alloc (.cells #[.slice oB M cB, .slice oV N cV] 25)).cell? ⟨w.heap.size, 1, none⟩ = some (.slice oV N cV)) := ⟨World.cell?_alloc_new w _ _ 0, World.cell?_alloc_new w _ _ 1⟩
  have HW0 : Hid (Up w (w.alloc (.cells #[.slice oB M cB, .slice oV N cV] 25))) := Up.alloc _ _
  have HSZ : Hid (w.heap.size < (w.alloc (.cells #[.slice oB M cB, .slice oV N cV] 25)).heap.size) := by show _ < _; simp
  have hB : (w.alloc (.cells #[.slice oB M cB, .slice oV N cV] 25)).heap.size = w.heap.size + 1 := by simp
  have HST : Hid (TMap ((w.alloc (.cells #[.slice oB M cB, .slice oV N cV] 25)).alloc (.map #[] 0)) (w.heap.size + 1) 0 st ∧ Up (w.alloc (.cells #[.slice oB M cB, .slice oV N cV] 25)) ((w.alloc (.cells #[.slice oB M cB, .slice oV N cV] 25)).alloc (.map #[] 0))) := by
    rw [← hB]
    exact ⟨⟨.map [], World.ownsMap_made _ _ _ _, fun j _ hj => by omega⟩, Up.alloc _ _⟩
  have HBB : Hid ((w.alloc (.cells #[.slice oB M cB, .slice oV N cV] 25)).heap.size ≤ w.heap.size + 1) := Nat.le_of_eq hB
  clear hB
  generalize w.alloc (.cells #[.slice oB M cB, .slice oV N cV] 25) = W0 at HC HW0 HSZ HST HBB ⊢
  obtain ⟨B, hBe⟩ : ∃ B, w.heap.size + 1 = B := ⟨_, rfl⟩
  rw [hBe] at HST HBB
  rw [hBe]
  clear hBe
  go_loopw [13] (fun i wr => TXRel st B W0 i wr) (fun i _ => N - (intOf i).toNat)
  case atStart => exact ⟨0, Nat.zero_le _, rfl, HST.out.1, HST.out.2⟩
  case round =>
    obtain ⟨k, hk, rfl, htm, hu⟩ := hrel
    rw [HN.out] at hk
    have HTM := Lib.hid htm
    have HU := Lib.hid hu
    clear htm hu
    by_cases hlt : k < N
    · have hkl : k < st.v.length := by rw [HN.out]; exact hlt
      obtain ⟨b, off, rfl, h5⟩ := HVI.out.at (by intro e; rw [e] at hkl; simp at hkl)
      obtain ⟨a1, u, a2, hids⟩ := h5 k hkl
      have HUw : Hid (Up w wr) := HW0.out.trans HU.out
      have e1 := (HUw.out.cell (World.block_lt_of_cell? w _ a1)).trans a1
      have e2 := (HUw.out.cell (World.block_lt_of_cell? w _ a2)).trans a2
      obtain ⟨hnb, hbl, herr⟩ := HG.out.vol _ (List.getElem_mem hkl)
      have HERR := Lib.hid herr
      have hn12 : st.v[k].nm.length ≤ 12 := by unfold nameB at hnb; simp at hnb; omega
      have HKEY := Lib.hid (key_nm hn12)
      obtain ⟨o', c', hu', hc1, hc2⟩ := hids.slice
      unfold maxLen at hc2
      subst hu'
      have HID := Lib.hid hids
      obtain ⟨x, hx⟩ : ∃ x, st.v[k] = x := ⟨_, rfl⟩
      rw [hx] at e1 e2 HID HKEY hc1 HERR hbl
      have HX := Lib.hid hx
      have d1 : decide (k < N) = true := decide_eq_true hlt
      obtain ⟨nm, hnm⟩ : ∃ nm, bs x.nm = nm := ⟨_, rfl⟩
      rw [hnm] at e1 HKEY
      obtain ⟨L, hL⟩ : ∃ L, x.bl.length = L := ⟨_, rfl⟩
      have HL := Lib.hid hL
      rw [hL] at e2 hc1 HID hbl
      have hmk := HMK.out L (by omega) (by omega)
      clear h5 a1 a2 hids hx hnb herr hn12 hnm hL
      go_wp2_with fail
      have hg1 : (wr.alloc (.cells #[.string nm, .slice o' L c'] 47)).heap.size = wr.heap.size + 1 := by simp
      have HROW : Hid (RowC ((wr.alloc (.cells #[.string nm, .slice o' L c'] 47)).alloc (.cells (madeCells #[.string ⟨#[]⟩] L) 9)) (wr.heap.size + 1) 9 (List.replicate L (.string ⟨#[]⟩))) := by rw [← hg1]; exact made_row _ _
      have HNB : Hid ((wr.alloc (.cells #[.string nm, .slice o' L c'] 47)).cell? ⟨wr.heap.size, 0, none⟩ = some (.string nm)) := World.cell?_alloc_new wr _ _ 0
      have HSZ1 : Hid (wr.heap.size < (wr.alloc (.cells #[.string nm, .slice o' L c'] 47)).heap.size) := by show _ < _; simp
      have HU1 : Hid (Up wr (wr.alloc (.cells #[.string nm, .slice o' L c'] 47))) := Up.alloc _ _
      have HG1 : Hid ((wr.alloc (.cells #[.string nm, .slice o' L c'] 47)).heap.size = wr.heap.size + 1) := hg1
      have HUm : Hid (Up (wr.alloc (.cells #[.string nm, .slice o' L c'] 47)) ((wr.alloc (.cells #[.string nm, .slice o' L c'] 47)).alloc (.cells (madeCells #[.string ⟨#[]⟩] L) 9))) := Up.alloc _ _
      clear hg1 hmk e1 e2
      generalize (wr.alloc (.cells #[.string nm, .slice o' L c'] 47)) = W1 at HROW HNB HSZ1 HU1 HG1 HUm ⊢
      generalize W1.alloc (.cells (madeCells #[.string ⟨#[]⟩] L) 9) = W2 at HROW HUm ⊢
      have HTM1 := Lib.hid (HTM.out.up HU1.out)
      have HUW1 : Hid (Up W0 W1) := HU.out.trans HU1.out
      obtain ⟨g, hge⟩ : ∃ g, wr.heap.size + 1 = g := ⟨_, rfl⟩
      rw [hge] at HROW HG1 ⊢
      obtain ⟨O1, hO1⟩ : ∃ O1, wr.heap.size = O1 := ⟨_, rfl⟩
      rw [hO1] at HNB HSZ1 ⊢
      clear hge hO1
      go_loopw [24] (fun i wr => TIRel x st.b g W1 i wr) (fun i _ => L - (intOf i).toNat)
      case atStart => exact ⟨0, Nat.zero_le _, rfl, by simpa [fl, HL.out] using HROW.out, HUm.out⟩
      case round =>
        obtain ⟨j, hj, rfl, hrow, hur⟩ := hrel
        rw [HL.out] at hj hrow
        have HUr := Lib.hid hur
        have HRr := Lib.hid hrow
        have HUwr : Hid (Up w wr) := HW0.out.trans (HUW1.out.trans hur)
        have hlj : j < L ∨ ¬ j < L := Classical.em _
        clear hur hrow
        rcases hlj with hlj | hlj
        · have hjl : j < x.bl.length := by rw [HL.out]; exact hlj
          obtain ⟨b', off', rfl, h6⟩ := HID.out.at (by intro e; rw [e] at hjl; simp at hjl)
          obtain ⟨a1, a2, a3⟩ := h6 j hjl
          have g1 := (HUwr.out.cell (World.block_lt_of_cell? w _ a1)).trans a1
          have g2 := (HUwr.out.cell (World.block_lt_of_cell? w _ a2)).trans a2
          have g3 := (HUwr.out.cell (World.block_lt_of_cell? w _ a3)).trans a3
          have hal : (fl txR ((x.bl.take j).map (txt st.b))).length = j := by rw [fl_length txR_len, List.length_map, List.length_take]; omega
          have hgl : g < wr.heap.size := HRr.out.lt
          have HTJ : Hid (x.bl.take (j + 1) = x.bl.take j ++ [x.bl[j]]) := List.take_succ_eq_append_getElem hjl
          have HSTEP : Hid (∀ t, (fl txR ((x.bl.take j).map (txt st.b)) ++ List.replicate (L - j) (Value.string ⟨#[]⟩)).set j (.string (bs t)) = fl txR ((x.bl.take j).map (txt st.b) ++ [t]) ++ List.replicate (L - (j + 1)) (Value.string ⟨#[]⟩)) := by
            intro t
            rw [show L - j = (L - (j + 1)) + 1 by omega, List.replicate_succ]
            conv => lhs; rw [List.set_append_right _ _ (by rw [hal]; exact Nat.le_refl _), hal, Nat.sub_self, List.set_cons_zero]
            rw [fl_append, List.append_assoc]
            rfl
          have hcell : (fl txR ((x.bl.take j).map (txt st.b)) ++ List.replicate (L - j) (Value.string ⟨#[]⟩))[j]? = some (.string ⟨#[]⟩) := by
            rw [List.getElem?_append_right (by rw [hal]; exact Nat.le_refl _), hal, Nat.sub_self, show L - j = (L - (j + 1)) + 1 by omega, List.replicate_succ]
            rfl
          have herr := HERR.out _ (List.getElem_mem hjl)
          obtain ⟨xi, hxi⟩ : ∃ xi, x.bl[j] = xi := ⟨_, rfl⟩
          rw [hxi] at g1 g2 g3 HTJ herr
          obtain ⟨xb, xs, xn⟩ := xi
          simp only at g1 g2 g3
          have hrow1 := HRr.out.up (Up.alloc wr (.cells #[.bool xb, .int .i64 xs, .int .i64 xn] 49))
          have r1 := hrow1.cell hcell
          have r2 := hrow1.frozen j
          have hne : g ≠ wr.heap.size := by omega
          have hne2 : wr.heap.size ≠ g := by omega
          have d2 : decide (j < L) = true := decide_eq_true hlj
          have HR1 := Lib.hid ((HRr.out.set j (.string ⟨#[45]⟩)).up (Up.alloc _ (.cells #[.bool xb, .int .i64 xs, .int .i64 xn] 49)))
          have HUr1 : Hid (Up W1 ((wr.setCell ⟨g, j, none⟩ (.string ⟨#[45]⟩)).alloc (.cells #[.bool xb, .int .i64 xs, .int .i64 xn] 49))) := (show Up W1 _ from Below.setCell HUr.out (p := ⟨g, j, none⟩) (Nat.le_of_eq HG1.out) _).trans (Up.alloc _ _)
          have HCJ : Hid (((fl txR ((x.bl.take j).map (txt st.b)) ++ List.replicate (L - j) (Value.string ⟨#[]⟩)).set j (.string ⟨#[45]⟩))[j]? = some (Value.string ⟨#[45]⟩)) := by
            show _ = _
            rw [List.getElem?_set_self ((List.getElem?_eq_some_iff.1 hcell).1)]
          clear h6 a1 a2 a3 hxi hal hcell hrow1
          cases xb with
          | false =>
            have HR2 : Hid (RowC ((wr.setCell ⟨g, j, none⟩ (.string ⟨#[45]⟩)).alloc (.cells #[.bool false, .int .i64 xs, .int .i64 xn] 49)) g 9 (fl txR ((x.bl.take (j + 1)).map (txt st.b)) ++ List.replicate (L - (j + 1)) (.string ⟨#[]⟩))) := by
              rw [HTJ.out, List.map_append]
              have := HR1.out
              rw [show (.string ⟨#[45]⟩ : Value) = .string (bs [45]) from rfl, HSTEP.out [45]] at this
              exact this
            clear HSTEP HR1 HCJ
            go_wp2_with fail
            go_roundw
            case rel => exact ⟨j + 1, by rw [HL.out]; omega, by go_num, by rw [HL.out]; exact HR2.out, HUr1.out⟩
            case measure => simp only [intOf]; omega
          | true =>
            obtain ⟨y, hy, hye⟩ := errB_in herr rfl
            have HIT2 := Lib.hid (fun W hW => HIT.out true xs xn W hW)
            obtain ⟨m, hm, hyx⟩ := List.getElem_of_mem hy
            have hidx : idx (idB (true, xs, xn)) st.b = some m := by rw [hye, ← hyx]; exact HG.out.bag.idx_id hm
            have hix : ixI (idB (true, xs, xn)) st.b = (m : Int) := by unfold ixI; rw [hidx]
            have HTX : Hid (txt st.b (true, xs, xn) = 43 :: st.b[m].t) := by
              show _ = _
              unfold txt
              rw [if_pos rfl, hidx]
              show 43 :: (st.b[m]!).t = _
              rw [getElem!_pos st.b m hm]
            rw [hix] at HIT2
            obtain ⟨bb, bo, rfl, h7⟩ := HBI.out.at (by intro e; rw [e] at hm; simp at hm)
            obtain ⟨_, _, t3, _⟩ := h7 m hm
            have htl := (HG.out.bag.ok _ (List.getElem_mem hm)).1
            rw [HM.out] at hm
            obtain ⟨t, ht⟩ : ∃ t, st.b[m]'(by rw [HM.out]; exact hm) = t := ⟨_, rfl⟩
            rw [ht] at t3 HTX htl
            have hadd := add_bs [43] t.t (by simp; omega)
            rw [show bs [43] = ⟨#[43]⟩ from rfl] at hadd
            have HUS0 : Hid (Up W0 ((wr.setCell ⟨g, j, none⟩ (.string ⟨#[45]⟩)).alloc (.cells #[.bool true, .int .i64 xs, .int .i64 xn] 49))) := HUW1.out.trans HUr1.out
            have HUSw : Hid (Up w ((wr.setCell ⟨g, j, none⟩ (.string ⟨#[45]⟩)).alloc (.cells #[.bool true, .int .i64 xs, .int .i64 xn] 49))) := HW0.out.trans HUS0.out
            have p0 := (HUS0.out.cell (p := ⟨w.heap.size, 0, none⟩) HSZ.out).trans HC.out.1
            have hss : (wr.setCell ⟨g, j, none⟩ (.string ⟨#[45]⟩)).heap.size = wr.heap.size := by simp
            have p1 : ((wr.setCell ⟨g, j, none⟩ (.string ⟨#[45]⟩)).alloc (.cells #[.bool true, .int .i64 xs, .int .i64 xn] 49)).cell? ⟨wr.heap.size, 0, none⟩ = some (.bool true) := by rw [← hss]; exact World.cell?_alloc_new _ _ _ 0
            have p2 : ((wr.setCell ⟨g, j, none⟩ (.string ⟨#[45]⟩)).alloc (.cells #[.bool true, .int .i64 xs, .int .i64 xn] 49)).cell? ⟨wr.heap.size, 1, none⟩ = some (.int .i64 xs) := by rw [← hss]; exact World.cell?_alloc_new _ _ _ 1
            have p3 : ((wr.setCell ⟨g, j, none⟩ (.string ⟨#[45]⟩)).alloc (.cells #[.bool true, .int .i64 xs, .int .i64 xn] 49)).cell? ⟨wr.heap.size, 2, none⟩ = some (.int .i64 xn) := by rw [← hss]; exact World.cell?_alloc_new _ _ _ 2
            have p4 : ((wr.setCell ⟨g, j, none⟩ (.string ⟨#[45]⟩)).alloc (.cells #[.bool true, .int .i64 xs, .int .i64 xn] 49)).cell? ⟨bb, bo + m * 4 + 2, none⟩ = some (.string (bs t.t)) := (HUSw.out.cell (World.block_lt_of_cell? w _ t3)).trans t3
            have p5 := HR1.out.cell HCJ.out
            have p6 := HR1.out.frozen j
            have HP := Lib.hid (And.intro p0 (And.intro p1 (And.intro p2 (And.intro p3 (And.intro p4 (And.intro p5 p6))))))
            have hn3 : bb ≠ g := by have h1 := World.block_lt_of_cell? w _ t3; have h2 := HUW1.out.size; have h3 := HSZ.out; have h4 := HG1.out; simp only at h1; omega
            have hn1 : w.heap.size ≠ g := by have h2 := HUW1.out.size; have h3 := HSZ.out; have h4 := HG1.out; omega
            clear p0 p1 p2 p3 p4 p5 p6 hss h7 t3 hidx hix hy hye hyx herr ht
            go_wp2_with fail
            obtain ⟨p0, p1, p2, p3, p4, p5, p6⟩ := HP.out
            clear g1 g2 g3 r1 r2
            generalize ((wr.setCell ⟨g, j, none⟩ (.string ⟨#[45]⟩)).alloc (.cells #[.bool true, .int .i64 xs, .int .i64 xn] 49)) = W6 at HUS0 HUSw HUr1 HR1 p0 p1 p2 p3 p4 p5 p6 ⊢
            have s0 := World.block_lt_of_cell? W6 _ p0
            have s1 := World.block_lt_of_cell? W6 _ p1
            have s4 := World.block_lt_of_cell? W6 _ p4
            have s5 := World.block_lt_of_cell? W6 _ p5
            simp only at s0 s1 s4 s5
            clear hgl hne
            generalize wr.heap.size = O2 at p1 p2 p3 s1 hne2 ⊢
            go_region_held3 (fun U => U.cell? ⟨w.heap.size, 0, none⟩ = some (.slice (some ⟨bb, bo, none⟩) M cB) ∧ U.cell? ⟨O2, 0, none⟩ = some (.bool true) ∧ U.cell? ⟨O2, 1, none⟩ = some (.int .i64 xs) ∧ U.cell? ⟨O2, 2, none⟩ = some (.int .i64 xn) ∧ U.cell? ⟨bb, bo + m * 4 + 2, none⟩ = some (.string (bs t.t))) (first | go_keep | (exact ⟨(World.cell?_setCell_far _ _ _ _ (Ne.symm hn1)).trans x0, (World.cell?_setCell_far _ _ _ _ (Ne.symm hne2)).trans x1, (World.cell?_setCell_far _ _ _ _ (Ne.symm hne2)).trans x2, (World.cell?_setCell_far _ _ _ _ (Ne.symm hne2)).trans x3, (World.cell?_setCell_far _ _ _ _ (Ne.symm hn3)).trans x4⟩))
              ((go_at_call 35; ((with_reducible refine (HIT2.out _ (HUSw.out.trans (Up.drew _))).mono ?_); rintro e w7 ⟨rfl, u7⟩; have x0 := (Below.cell u7 (p := ⟨w.heap.size, 0, none⟩) s0).trans p0; have x1 := (Below.cell u7 (p := ⟨O2, 0, none⟩) s1).trans p1; have x2 := (Below.cell u7 (p := ⟨O2, 1, none⟩) s1).trans p2; have x3 := (Below.cell u7 (p := ⟨O2, 2, none⟩) s1).trans p3; have x4 := (Below.cell u7 (p := ⟨bb, bo + m * 4 + 2, none⟩) s4).trans p4; have x5 := (Below.cell u7 (p := ⟨g, j, none⟩) s5).trans p5; have x6 := (Below.frozen u7 (p := ⟨g, j, none⟩) s5).trans p6)))
            all_goals
              have hu7 : Up W6 w7 := (Up.drew _).trans u7
              have HR7 : Hid (RowC (w7.setCell ⟨g, j, none⟩ (.string (bs (43 :: t.t)))) g 9 (fl txR ((x.bl.take (j + 1)).map (txt st.b)) ++ List.replicate (L - (j + 1)) (.string ⟨#[]⟩))) := by
                rw [HTJ.out, List.map_append]
                have h := (HR1.out.up hu7).set j (.string (bs (43 :: t.t)))
                rw [List.set_set, HSTEP.out (43 :: t.t)] at h
                show RowC _ _ _ (fl txR (_ ++ [txt st.b (true, xs, xn)]) ++ _)
                rw [HTX.out]
                exact h
              have HU7 : Hid (Up W1 (w7.setCell ⟨g, j, none⟩ (.string (bs (43 :: t.t))))) := Below.setCell (HUr1.out.trans hu7) (p := ⟨g, j, none⟩) (Nat.le_of_eq HG1.out) _
              clear x0 x1 x2 x3 x4 x5 x6 p0 p1 p2 p3 p4 p5 p6 u7 hu7 hadd HSTEP
              generalize w7.setCell ⟨g, j, none⟩ (.string (bs (43 :: t.t))) = W8 at HR7 HU7 ⊢
              go_wp2_with fail
              go_roundw
              case rel => exact ⟨j + 1, by rw [HL.out]; omega, by go_num, by rw [HL.out]; exact HR7.out, HU7.out⟩
              case measure => simp only [intOf]; omega
        · have d2 : decide (j < L) = false := decide_eq_false hlj
          have hje : j = L := by omega
          subst hje
          have hrr := HRr.out
          rw [Nat.sub_self, List.replicate_zero, List.append_nil, List.take_of_length_le (by rw [HL.out]; exact Nat.le_refl _)] at hrr
          have HTXS : Hid (TxsR wr (.slice (some ⟨g, 0, none⟩) j j) (x.bl.map (txt st.b))) := ⟨g, by rw [List.length_map, HL.out], hrr⟩
          have HTM2 := Lib.hid (HTM1.out.up HUr.out)
          have n0 : wr.cell? ⟨O1, 0, none⟩ = some (.string nm) := (HUr.out.cell (p := ⟨O1, 0, none⟩) HSZ1.out).trans HNB.out
          clear hrr
          obtain ⟨D, hown, hD⟩ := HTM2.out
          have HOW := Lib.hid hown
          have HDD := Lib.hid hD
          clear hown hD
          go_wp2_with (at_mapUpdate; refine wpList_mapUpdate_own _ rfl _ _ _ 52 rfl 9 51 strLaw Tryz.underlying52 Rh B k D rfl HOW.out (by unfold maxLen; omega) _ _ _ rfl rfl HKEY.out (.held (.slice (some ⟨g, 0, none⟩) j j)) [] rfl ?_; intro w9 hown9 hgrow9)
          have HM9 : Hid (TMap w9 B (k + 1) st) := by
            refine ⟨_, hown9, fun i hi hik => ?_⟩
            have hkeep : ∀ {v : Value} {T : List (List UInt8)}, TxsR wr v T → TxsR w9 v T := by
              rintro v T ⟨g', rfl, hr'⟩
              refine ⟨g', rfl, hr'.kept hgrow9 ?_⟩
              intro e
              cases e
              obtain ⟨es, clock, hb9, _⟩ := HOW.out
              unfold RowC at hr'
              rw [hr'] at hb9
              cases hb9
            by_cases e : i = k
            · subst e
              refine ⟨_, ?_, hkeep (by rw [HX.out]; exact HTXS.out)⟩
              rw [HX.out]
              exact Go.Maps.atKey_put_same HOW.out.isMap (show WideAt.IsKeyLit (.string x.nm) from trivial) _ _
            · obtain ⟨v, hv1, hv2⟩ := HDD.out i hi (by omega)
              refine ⟨v, ?_, hkeep hv2⟩
              have hne : Lit.string st.v[i].nm ≠ Lit.string x.nm := by
                intro he
                rw [← HX.out] at he
                simp only [Lit.string.injEq] at he
                exact e (HG.out.nm_inj hi hkl he)
              rw [Go.Maps.atKey_put_other hne]
              exact hv1
          have HU9 : Hid (Up W0 w9) := Below.grown (HUW1.out.trans HUr.out) hgrow9 (HUW1.out.trans HUr.out).size (fun i hi => by cases hi; exact HBB.out)
          clear hown9 hgrow9
          go_roundw
          case rel => exact ⟨k + 1, by rw [HN.out]; omega, by go_num, HM9.out, HU9.out⟩
          case measure => simp only [intOf]; omega
    · have d1 : decide (k < N) = false := decide_eq_false hlt
      have hke : k = st.v.length := by rw [HN.out]; omega
      have HTM2 := HTM.out
      rw [hke] at HTM2
      have HTM3 := Lib.hid HTM2
      clear HTM2 hke
      go_wp2_with fail
      go_ret
      exact ⟨B, rfl, HTM3.out, HW0.out.trans HU.out⟩

end Go.Proofs.YtcbppfndlagodaaGreatDoor
