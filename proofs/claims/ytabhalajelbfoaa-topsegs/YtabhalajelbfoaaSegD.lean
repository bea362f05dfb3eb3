/-
  What clone of package seg returns: segments of the call's own. Condition: right segments.
-/
import Derived.Test.YtabhalajelbfoaaSegC
namespace Go.Proofs.Ytabhalajelbfoaa
open Go.RowKit
open Go.Proofs
open WoolBag
open WoolSeg

def ScRel (l : List (List Rc)) (C : List Value) (W0 : World) (g : Nat) (sp : List Value) (k m : Nat) (C' : List Value) (i : Value) (wr : World) : Prop :=
  ∃ j : Nat, j ≤ m ∧ i = .int .i64 (j : Int) ∧ SgI l C W0 g sp (k + 1) C' wr

set_option maxRecDepth 100000 in
set_option maxHeartbeats 4000000 in
theorem cloneSg_any (v : Value) (l : List (List Rc)) (w : World) (h : Sgs w v l) (hr : Right l) : Calls Try.prog 23 #[v] w (SgPost w l) := by
  obtain ⟨C, hsl, hrd⟩ := h
  have hlC := hrd.len
  have HCL := Lib.hid (cloneL_any v C w hsl hrd.one (by have := hr.len; omega))
  obtain ⟨oV, cV, rfl, _, _⟩ := Sl.slice hsl
  have HRD := Lib.hid hrd
  have HR := Lib.hid hr
  have hl16 := hr.len
  clear hsl hrd hr
  obtain ⟨N, hN⟩ : ∃ N, l.length = N := ⟨_, rfl⟩
  rw [hN] at hlC hl16
  rw [hlC] at HCL ⊢
  have HN := Lib.hid hN
  have HCN := Lib.hid hlC
  clear hN hlC
  go_enter Try.func23, Try.ntmps23
  go_wp2_with fail
  refine HCL.out.mono ?_
  rintro e w1 ⟨v1, rfl, ho1, u1⟩
  have HST := Lib.hid (SgRel.start (l := l) (by rw [HN.out, HCN.out]) ho1 u1)
  obtain ⟨o1, c1, hv1, hc1, hc2⟩ := Sl.slice ho1.sl
  subst hv1
  rw [HCN.out] at HST hc1 ⊢
  unfold maxLen at hc2
  clear ho1 u1
  go_wp2_with fail
  go_loopw [11] (fun i wr => SgRel l C w (.slice o1 N c1) i wr) (fun i _ => N - (intOf i).toNat)
  case atStart => exact HST.out
  case round =>
    obtain ⟨k, hk, rfl, hu, hdone, hgo⟩ := hrel
    rw [HN.out] at hk
    have HU := Lib.hid hu
    by_cases hlt : k < N
    · have hkl : k < l.length := by rw [HN.out]; exact hlt
      obtain ⟨C', g, cap, sp, hrw, hsci⟩ := hgo hkl
      obtain ⟨hve, hgb, hr3, hr4, hr5⟩ := hrw
      rw [HN.out] at hve
      cases hve
      have HRW : Hid (SgRow (.slice (some ⟨g, 0, none⟩) N c1) l.length w.heap.size g c1 sp) := ⟨by rw [HN.out], hgb, hr3, hr4, hr5⟩
      have HSC := Lib.hid hsci
      have HGB : Hid (w.heap.size ≤ g) := hgb
      have hlC' : C'.length = N := by rw [hsci.len]; exact HN.out
      have hkC : k < C.length := by rw [HCN.out]; exact hlt
      have hCk : C'[k]'(by omega) = C[k] := by
        have := hsci.rest k hkl (Nat.le_refl _)
        rw [List.getElem?_eq_getElem (by omega), List.getElem?_eq_getElem hkC] at this
        exact Option.some.inj this
      have hrec := HRD.out.rd k hkl
      have hseg := HR.out.seg _ (List.getElem_mem hkl)
      have hlen25 : l[k].length ≤ 25 := by have := takes_len l[k]; have := hseg.room; omega
      have e1 : wr.cell? ⟨g, k, none⟩ = some C[k] := by
        refine hsci.row.cell ?_
        rw [List.getElem?_append_left (by omega), List.getElem?_eq_getElem (by omega), hCk]
      have HCD := Lib.hid (fun W (hW : Up w W) => cloneR_any C[k] l[k] W (hrec.up hW) (by omega))
      have HNEXT : Hid (∀ wF u, Up wr wF → ORecs wF wr.heap.size u l[k] → SgI l C w g sp (k + 1) (C'.set k u) (wF.setCell ⟨g, k, none⟩ u)) := fun wF u hF hu => hsci.step hkl hgb hF hu
      have HREC := Lib.hid hrec
      have HSEG := Lib.hid hseg
      obtain ⟨s, hs⟩ : ∃ s, l[k] = s := ⟨_, rfl⟩
      have HS := Lib.hid hs
      rw [hs] at hrec HCD HNEXT HREC HSEG hlen25
      obtain ⟨os, cs, hsl, hcs1, hcs2⟩ := hrec.slice
      obtain ⟨m, hm⟩ : ∃ m, s.length = m := ⟨_, rfl⟩
      have HM := Lib.hid hm
      rw [hm] at hsl hlen25 hcs1
      rw [hsl] at e1 HCD HREC
      unfold maxLen at hcs2
      have hrow := hsci.row
      have hgl : g < wr.heap.size := hrow.lt
      have HROW := Lib.hid hrow
      have d1 : decide (k < N) = true := decide_eq_true hlt
      clear hgo hdone hsci hr3 hr4 hr5 hCk hrec hseg hrow hsl hs hm hu hgb
      go_wp2_with fail
      refine (HCD.out _ HU.out).mono ?_
      rintro e w2 ⟨u, rfl, ho2, u2⟩
      have hr2 := HROW.out.up u2
      have z0 := hr2.frozen k
      have e2 := (u2.cell (p := ⟨g, k, none⟩) hgl).trans e1
      obtain ⟨o2, c2, hv2, hc21, hc22⟩ := ho2.recs.slice
      rw [HM.out] at hv2 hc21
      unfold maxLen at hc22
      have hnx := HNEXT.out w2 u u2 ho2
      have hrw2 := own_row ho2
      subst hv2
      have HNX := Lib.hid hnx
      have HHR := Lib.hid hrw2
      clear ho2 u2 hr2 hnx hrw2
      go_wp2_with fail
      go_loopw [6, 23] (fun _ i wx => ScRel l C w g sp k m (C'.set k (.slice o2 m c2)) i wx) (fun _ i _ => m - (intOf i).toNat)
      case atStart => exact ⟨0, Nat.zero_le _, rfl, HNX.out⟩
      case round =>
        obtain ⟨j, hj, rfl, hsi⟩ := hrel
        by_cases hlj : j < m
        · have hmj : j < s.length := by rw [HM.out]; exact hlj
          rcases HHR.out with ⟨_, h0, _⟩ | ⟨gu, capu, spu, hve, hgq, _, _, _, _⟩
          · rw [h0] at hmj; omega
          rw [HM.out] at hve
          simp only [Value.slice.injEq] at hve
          obtain ⟨rfl, _, rfl⟩ := hve
          have hown := hsi.own k hkl (Nat.lt_succ_self k)
          rw [List.getElem_set_self, HS.out] at hown
          rcases own_row hown with ⟨hb, _, _⟩ | ⟨gu', capu', spu', hve, hgw, hrow2, _, _, _⟩
          · cases hb
          rw [HM.out] at hve
          simp only [Value.slice.injEq, Option.some.injEq, Addr.mk.injEq, and_true, true_and] at hve
          obtain ⟨rfl, rfl⟩ := hve
          have huw : Up w wr := hsi.up
          obtain ⟨b, off, rfl, hat⟩ := HREC.out.at (by rintro rfl; simp at hmj)
          obtain ⟨a0, a1, a2, a3⟩ := hat j hmj
          have hbw := World.block_lt_of_cell? w _ a3
          have hbw' : b < w.heap.size := hbw
          have hne1 : gu ≠ b := by omega
          have hne2 : gu ≠ g := by omega
          clear a0 a1 a2 hbw hbw' hgq hgw
          rw [← huw.cell (World.block_lt_of_cell? w _ a3)] at a3
          have hbl : b < wr.heap.size := World.block_lt_of_cell? wr _ a3
          have hcell : (fl rcC s ++ spu')[j * 4 + 3]? = some (.string (bs s[j].2)) := by
            rw [List.getElem?_append_left (by rw [fl_length rcC_len]; omega), fl_get rcC_len s j hmj 3 (by omega)]; rfl
          have hseg := (HSEG.out.ok _ (List.getElem_mem hmj)).2
          have HT : Hid ((bs s[j].2).size ≤ 1000) := by show _ ≤ _; rw [bs_size]; omega
          have hrw3 := hsi.row
          have c1' : wr.cell? ⟨g, k, none⟩ = some (.slice (some ⟨gu, 0, none⟩) m c2) := by
            refine hrw3.cell ?_
            have hl' := HSC.out.len
            rw [List.getElem?_append_left (by rw [List.length_set]; omega), List.getElem?_set_self (by omega)]
          have hgl3 : g < wr.heap.size := hrw3.lt
          have hgul : gu < wr.heap.size := hrow2.lt
          have fz := hrow2.frozen (j * 4 + 3)
          have cu := hrow2.cell hcell
          have HGO : Hid (∀ wF, Up wr wF → SgI l C w g sp (k + 1) (C'.set k (.slice (some ⟨gu, 0, none⟩) m c2)) (wF.setCell ⟨gu, j * 4 + 3, none⟩ (.string (bs s[j].2)))) := fun wF hF => by
            rw [(hrow2.up hF).same hcell]
            exact hsi.ups hF
          obtain ⟨X, hX⟩ : ∃ X, bs s[j].2 = X := ⟨_, rfl⟩
          rw [hX] at a3 HT HGO cu
          have d2 : decide (j < m) = true := decide_eq_true hlj
          clear hown hrow2 hat hcell hseg hrw3 hX huw hsi hmj
          go_wp2_with fail
          go_region_held3 (fun U => U.cell? ⟨b, off + j * 4 + 3, none⟩ = some (.string X) ∧ U.cell? ⟨g, k, none⟩ = some (.slice (some ⟨gu, 0, none⟩) m c2)) (first | go_keep | (exact ⟨(World.cell?_setCell_far _ _ _ _ hne1).trans y0, (World.cell?_setCell_far _ _ _ _ hne2).trans y1⟩))
            ((go_at_call 42; ((with_reducible refine (clone_str X _ HT.out).mono ?_); rintro e w4 ⟨rfl, u4⟩; have y0 := (Below.cell u4 (p := ⟨b, off + j * 4 + 3, none⟩) hbl).trans a3; have y1 := (Below.cell u4 (p := ⟨g, k, none⟩) hgl3).trans c1'; have z1 := (Below.frozen u4 (p := ⟨gu, j * 4 + 3, none⟩) hgul).trans fz; have z2 := (Below.cell u4 (p := ⟨gu, j * 4 + 3, none⟩) hgul).trans cu)))
          all_goals
            have hgn := HGO.out _ (by first | exact u4 | exact (Up.drew _).trans u4 | exact (Up.drewN _ _).trans u4)
            have HGN := Lib.hid hgn
            clear hgn y0 y1 z1 z2
            go_wp2_with fail
            go_roundw
            case rel => exact ⟨j + 1, by omega, by go_num, HGN.out⟩
            case measure => simp only [intOf]; omega
        · have d2 : decide (j < m) = false := decide_eq_false hlj
          have hnx := SgRel.next hsi HRW.out hkl
          have HNN := Lib.hid hnx
          clear hsi hnx
          go_wp2_with fail
          go_roundw
          case rel => exact HNN.out
          case measure => simp only [intOf]; omega
    · have d1 : decide (k < N) = false := decide_eq_false hlt
      have hke : k = l.length := by rw [HN.out]; omega
      have HOV := Lib.hid (hdone hke)
      clear hdone hgo hke hu
      go_wp2_with fail
      go_ret
      exact ⟨_, rfl, HOV.out, HU.out⟩

end Go.Proofs.Ytabhalajelbfoaa
