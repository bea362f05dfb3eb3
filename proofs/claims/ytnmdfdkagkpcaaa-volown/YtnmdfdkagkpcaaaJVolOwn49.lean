/-
  What diff's Copy returns. Conditions: a state and a row of ints that can be read.
-/
import Derived.Test.YtnmdfdkagkpcaaaJVolOwn48
namespace Go.Proofs.Ytnmdfdkagkpcaaa
open Go.RowKit
open Go.Proofs
open WoolBag
open WoolVol

theorem blocks_ok {st : Sta} {a : List UInt8} (h : (blocks FP st a).2 = 0) : chkS FP st = 0 ∧ ∃ k, ∃ hk : k < st.v.length, vfind FP st a = (k, 0) ∧ vix (nmB a) st.v = some k ∧ (blocks FP st a).1 = st.v[k].bl := by
  have h1' : (vfind FP st a).2 = 0 := by
    apply Classical.byContradiction
    intro hne
    unfold blocks at h
    rw [if_pos hne] at h
    exact hne h
  obtain ⟨hc, k, hk, hf, _, hx⟩ := vfind_ok h1'
  refine ⟨hc, k, hk, hf, hx, ?_⟩
  unfold blocks
  rw [hf, if_neg (by simp)]
  show (st.v[k]!).bl = _
  rw [getElem!_pos st.v k hk]

theorem both_ok {st : Sta} {a b : List UInt8} (h : (bothR st a b).2.2 = 0) : WoolVol.Good FP st ∧ ∃ kf, ∃ hk : kf < st.v.length, ∃ kt, ∃ hkt : kt < st.v.length, vfind FP st a = (kf, 0) ∧ vix (nmB a) st.v = some kf ∧ vix (nmB b) st.v = some kt ∧ bothR st a b = (st.v[kf].bl, st.v[kt].bl, 0) := by
  unfold bothR at h ⊢
  by_cases h1 : (blocks FP st a).2 ≠ 0
  · rw [if_pos h1] at h; exact absurd h h1
  · rw [if_neg h1] at h ⊢
    by_cases h2 : (blocks FP st b).2 ≠ 0
    · rw [if_pos h2] at h; exact absurd h h2
    · rw [if_neg h2]
      obtain ⟨hc, kf, hk, hf, hx, e1⟩ := blocks_ok (by omega : (blocks FP st a).2 = 0)
      obtain ⟨_, kt, hkt, _, hxt, e2⟩ := blocks_ok (by omega : (blocks FP st b).2 = 0)
      exact ⟨chkS_zero.1 hc, kf, hk, kt, hkt, hf, hx, hxt, by rw [e1, e2]⟩

/-- what Copy answers -/
def cpR (st : Sta) (a b : List UInt8) (z : List Int) : Sta × Int :=
  if (bothR st a b).2.2 ≠ 0 then (zeroS, (bothR st a b).2.2) else cpL st (vfind FP st a).1 (bothR st a b).1.length b st z

structure CpRel (st0 : Sta) (kf L : Nat) (b : List UInt8) (z : List Int) (A : List Idn) (vA : Value) (X R : Nat) (w : World) (RS : Sta × Int) (k : Nat) (cur : Sta) (x y : Value) (wr : World) : Prop where
  le : k ≤ z.length
  row : RowC wr X 31 [x, y]
  res : RowC wr R 31 [.slice none 0 0, .slice none 0 0]
  own : OSt wr w.heap.size (.agg #[x, y]) cur
  inv : CpI st0 kf cur
  ids : Ids wr vA A
  eq : RS = cpL st0 kf L b cur (z.drop k)
  up : Up w wr

theorem CpRel.st {st0 : Sta} {kf L : Nat} {b : List UInt8} {z : List Int} {A : List Idn} {vA : Value} {X R : Nat} {w : World} {RS : Sta × Int} {k : Nat} {cur : Sta} {x y : Value} {wr : World} (h : CpRel st0 kf L b z A vA X R w RS k cur x y wr) : Stat wr (.agg #[x, y]) cur := h.own.stat

def CpLoop (st0 : Sta) (kf L : Nat) (b : List UInt8) (z : List Int) (A : List Idn) (vA : Value) (X R : Nat) (w : World) (RS : Sta × Int) (i : Value) (wr : World) : Prop :=
  ∃ k cur x y, i = .int .i64 ((k : Nat) : Int) ∧ CpRel st0 kf L b z A vA X R w RS k cur x y wr

set_option maxRecDepth 100000 in
set_option maxHeartbeats 4000000 in
theorem copy_own (v vz : Value) (st : Sta) (a b : List UInt8) (z : List Int) (w : World) (h : Stat w v st) (hwf : WfS st) (hz : Sl w 1 vz z.length (inL z)) :
    Calls Try.prog 10 #[v, .string (bs a), .string (bs b), vz] w (StEPost w (cpR st a b z)) := by
  have HBO := Lib.hid (fun W (hW : Up w W) => both_any v st a b W (h.up hW) hwf)
  have HSC := Lib.hid (fun (hg : WoolVol.Good FP st) W (hW : Up w W) => stclone_any v st W (h.up hW) hg)
  unfold BothPost at HBO
  have HSZ := Lib.hid hz
  obtain ⟨oz, cz, rfl, hz1, hz2⟩ := hz.slice
  unfold maxLen at hz2
  obtain ⟨vb, vv, rfl, hb, hv⟩ := h
  obtain ⟨oB, cB, rfl, _⟩ := hb.slice
  obtain ⟨oV, cV, rfl, _, _⟩ := hv.slice
  clear hb hv hwf hz
  obtain ⟨RS, hRS⟩ : ∃ RS, cpR st a b z = RS := ⟨_, rfl⟩
  rw [hRS]
  unfold cpR at hRS
  have HBK := Lib.hid (both_ok (st := st) (a := a) (b := b))
  obtain ⟨⟨A, B, E⟩, hA⟩ : ∃ A, bothR st a b = A := ⟨_, rfl⟩
  rw [hA] at hRS HBO HBK
  have HRS := Lib.hid hRS
  clear hRS hA
  generalize st.b.length = M at *
  obtain ⟨N, hN⟩ : ∃ N, st.v.length = N := ⟨_, rfl⟩
  rw [hN] at HBO HSC ⊢
  clear hN
  simp only at HBO HRS HBK
  have HR : Hid (RowC ((w.alloc (.cells #[.slice oB M cB, .slice oV N cV] 31)).alloc (.cells #[.slice none 0 0, .slice none 0 0] 31)) (w.heap.size + 1) 31 [.slice none 0 0, .slice none 0 0]) := box_new w _ _ _ _
  have HA : Hid (RowC ((w.alloc (.cells #[.slice oB M cB, .slice oV N cV] 31)).alloc (.cells #[.slice none 0 0, .slice none 0 0] 31)) w.heap.size 31 [.slice oB M cB, .slice oV N cV]) := RowC.up (heap_alloc_new w _) (Up.alloc _ _)
  have HW0 : Hid (Up w ((w.alloc (.cells #[.slice oB M cB, .slice oV N cV] 31)).alloc (.cells #[.slice none 0 0, .slice none 0 0] 31))) := (Up.alloc _ _).trans (Up.alloc _ _)
  obtain ⟨Z, hZ⟩ : ∃ Z, z.length = Z := ⟨_, rfl⟩
  have HZL := Lib.hid hZ
  rw [hZ] at hz1 HSZ ⊢
  clear hZ
  go_enter Try.func10, Try.ntmps10
  go_wp2_with fail
  generalize ((w.alloc (.cells #[.slice oB M cB, .slice oV N cV] 31)).alloc (.cells #[.slice none 0 0, .slice none 0 0] 31)) = W0 at HR HA HW0 ⊢
  refine (HBO.out _ HW0.out).mono ?_
  rintro e w1 ⟨v1, v2, rfl, hi1, hi2, u1⟩
  obtain ⟨o1, c1, rfl, hc1, hc1'⟩ := hi1.slice
  obtain ⟨o2, c2, rfl, hc2, hc2'⟩ := hi2.slice
  unfold maxLen at hc1'
  have HI1 := Lib.hid hi1
  have HR1 := Lib.hid (HR.out.up u1)
  have HA1 := Lib.hid (HA.out.up u1)
  have HU1 := Lib.hid (HW0.out.trans u1)
  clear hi1 hi2 u1
  by_cases hE : E = 0
  · subst hE
    obtain ⟨hgood, kf, hk, kt, hkt, hf, hx, hxt, hbe⟩ := HBK.out rfl
    have hAe : A = st.v[kf].bl := (Prod.mk.inj hbe).1
    have hRZ : RS = cpL st kf A.length b st z := by rw [← HRS.out, hf]; rfl
    have HRZ := Lib.hid hRZ
    have HAE := Lib.hid hAe
    have HGD := Lib.hid hgood
    have HXF := Lib.hid hx
    have hA32 : A.length ≤ 32 := by rw [hAe]; exact (hgood.vol _ (List.getElem_mem hk)).2.1
    have HSC2 := Lib.hid (HSC.out hgood)
    unfold StPost at HSC2
    have q0 := HA1.out.cell (j := 0) rfl
    have q1 := HA1.out.cell (j := 1) rfl
    clear hbe hRZ hAe hgood hx HSC HBK HRS hxt hf hkt
    go_wp2_with fail
    refine (HSC2.out _ HU1.out).mono ?_
    rintro e w2 ⟨v2', rfl, ho2, u2⟩
    have hs2 := ho2.base HU1.out.size
    obtain ⟨o5, c5, o6, c6, rfl, _, _, _⟩ := ho2.slices
    clear q0 q1 ho2
    go_upto_region 5 with (fail)
    have hal := Up.alloc w2 (.cells #[.slice o5 st.b.length c5, .slice o6 st.v.length c6] 31)
    have HX3 : Hid (RowC (w2.alloc (.cells #[.slice o5 st.b.length c5, .slice o6 st.v.length c6] 31)) w2.heap.size 31 [.slice o5 st.b.length c5, .slice o6 st.v.length c6]) := heap_alloc_new w2 _
    have HR3 := Lib.hid ((HR1.out.up u2).up hal)
    have HI3 := Lib.hid ((HI1.out.up u2).up hal)
    have HU3 := Lib.hid ((HU1.out.trans u2).trans hal)
    have HS3 := Lib.hid (hs2.up hal)
    have hRX : w.heap.size + 1 ≠ w2.heap.size := by have := (HR1.out.up u2).lt; omega
    have hwX : w.heap.size ≤ w2.heap.size := (HU1.out.trans u2).size
    clear hal u2 hs2
    generalize (w2.alloc (.cells #[.slice o5 st.b.length c5, .slice o6 st.v.length c6] 31)) = W3 at HX3 HR3 HI3 HU3 HS3 ⊢
    obtain ⟨X, hX⟩ : ∃ X, w2.heap.size = X := ⟨_, rfl⟩
    rw [hX] at HX3 hRX hwX ⊢
    clear hX
    have HST : Hid (CpLoop st kf A.length b z A (.slice o1 A.length c1) X (w.heap.size + 1) w RS (.int .i64 0) W3) := ⟨0, st, _, _, rfl, Nat.zero_le _, HX3.out, HR3.out, HS3.out, CpI.first HGD.out kf, HI3.out, by rw [List.drop_zero]; exact HRZ.out, HU3.out⟩
    go_wp2_with fail
    go_loopw [32] (fun i wr => CpLoop st kf A.length b z A (.slice o1 A.length c1) X (w.heap.size + 1) w RS i wr) (fun i _ => Z - (intOf i).toNat)
    case atStart => exact HST.out
    case round =>
      obtain ⟨k, cur, x, y, rfl, hI⟩ := hrel
      have hkZ : k ≤ Z := by rw [← HZL.out]; exact hI.le
      obtain ⟨vbx, vvx, hag, hbx, hvx⟩ := hI.st
      simp at hag
      obtain ⟨rfl, rfl⟩ := hag
      obtain ⟨p5, d5, rfl, _⟩ := hbx.slice
      obtain ⟨p6, d6, rfl, _, _⟩ := hvx.slice
      have HIV := Lib.hid hI
      clear hbx hvx hI
      by_cases hlt : k < Z
      · have hlz : k < z.length := by rw [HZL.out]; exact hlt
        obtain ⟨bz, offz, rfl, hcz⟩ := Sl.cells HSZ.out (by omega)
        have e1 := hcz k (.int .i64 z[k]) (by unfold inL; rw [List.getElem?_map, List.getElem?_eq_getElem hlz]; rfl)
        rw [← HIV.out.up.cell (World.block_lt_of_cell? w _ e1)] at e1
        have HDR := Lib.hid (List.drop_eq_getElem_cons hlz)
        obtain ⟨p, hp⟩ : ∃ p, z[k] = p := ⟨_, rfl⟩
        rw [hp] at e1 HDR
        clear hcz hp
        have d1 : decide (k < Z) = true := decide_eq_true hlt
        have hcE := HIV.out.eq
        rw [HDR.out] at hcE
        unfold cpL at hcE
        by_cases ho : p < 0 ∨ (A.length : Int) ≤ p
        · rw [if_pos ho] at hcE
          have HRE := Lib.hid hcE
          have HR4 := Lib.hid HIV.out.res
          have HU4 := Lib.hid HIV.out.up
          have r0 := HR4.out.frozen 0
          have r1 := HR4.out.frozen 1
          have r2 := HR4.out.cell (j := 0) rfl
          have r3 := HR4.out.cell (j := 1) rfl
          clear hcE
          by_cases hp0 : p < 0
          · have d2 : decide (p < 0) = true := decide_eq_true hp0
            clear ho hp0
            go_wp2_with fail
            have hz := (HR4.out.set 0 (.slice none 0 0)).set 1 (.slice none 0 0)
            have z0 := hz.cell (j := 0) rfl
            have z1 := hz.cell (j := 1) rfl
            have HUZ : Hid (Up w ((wr.setCell ⟨w.heap.size + 1, 0, none⟩ (.slice none 0 0)).setCell ⟨w.heap.size + 1, 1, none⟩ (.slice none 0 0))) := up2 HU4.out (by omega)
            generalize (wr.setCell ⟨w.heap.size + 1, 0, none⟩ (.slice none 0 0)).setCell ⟨w.heap.size + 1, 1, none⟩ (.slice none 0 0) = WZ at z0 z1 HUZ ⊢
            exact bodyPost_ret (v := .tuple #[zeroV, .int .i64 1]) (by simp [results, Try.results10, go_sem, z0, z1, zeroV]) rfl ⟨_, by rw [HRE.out], by rw [HRE.out]; exact OSt.zero _ _, HUZ.out⟩
          · have d2 : decide (p < 0) = false := decide_eq_false hp0
            have d3 : decide ((A.length : Int) ≤ p) = true := decide_eq_true (by omega)
            clear ho hp0
            go_wp2_with fail
            have hz := (HR4.out.set 0 (.slice none 0 0)).set 1 (.slice none 0 0)
            have z0 := hz.cell (j := 0) rfl
            have z1 := hz.cell (j := 1) rfl
            have HUZ : Hid (Up w ((wr.setCell ⟨w.heap.size + 1, 0, none⟩ (.slice none 0 0)).setCell ⟨w.heap.size + 1, 1, none⟩ (.slice none 0 0))) := up2 HU4.out (by omega)
            generalize (wr.setCell ⟨w.heap.size + 1, 0, none⟩ (.slice none 0 0)).setCell ⟨w.heap.size + 1, 1, none⟩ (.slice none 0 0) = WZ at z0 z1 HUZ ⊢
            exact bodyPost_ret (v := .tuple #[zeroV, .int .i64 1]) (by simp [results, Try.results10, go_sem, z0, z1, zeroV]) rfl ⟨_, by rw [HRE.out], by rw [HRE.out]; exact OSt.zero _ _, HUZ.out⟩
        · rw [if_neg ho] at hcE
          obtain ⟨j, rfl⟩ : ∃ j : Nat, p = (j : Int) := ⟨p.toNat, by omega⟩
          have hjA : j < A.length := by omega
          have hjb : j < st.v[kf].bl.length := by rw [← HAE.out]; exact hjA
          obtain ⟨ba, offa, rfl, hca⟩ := HIV.out.ids.at (by intro e; rw [e] at hjA; simp at hjA)
          have a1 := (hca j hjA).1
          have hAj : A[j].1 = st.v[kf].bl[j].1 := by
            have : ∀ (L : List Idn) (_ : L = st.v[kf].bl) (hl : j < L.length), L[j].1 = st.v[kf].bl[j].1 := by rintro L rfl hl; rfl
            exact this A HAE.out hjA
          rw [hAj] at a1
          have HCB := Lib.hid (fun W (hW : Up wr W) => copyBlock_own _ st cur kf j a b W (HIV.out.st.up hW) HIV.out.inv HGD.out HXF.out hk hjb)
          obtain ⟨P, hP⟩ : ∃ P, st.v[kf].bl[j].1 = P := ⟨_, rfl⟩
          rw [hP] at a1 HCB
          unfold StEPost at HCB
          have HSTEP := Lib.hid (CpI.step (b := b) (p := (j : Int)) HIV.out.inv)
          obtain ⟨T, hT⟩ : ∃ T, cpStep st kf b cur (j : Int) = T := ⟨_, rfl⟩
          rw [hT] at HCB hcE HSTEP
          have HCE := Lib.hid hcE
          have d2 : decide ((j : Int) < 0) = false := decide_eq_false (by omega)
          have d3 : decide ((A.length : Int) ≤ (j : Int)) = false := decide_eq_false (by omega)
          have q0 := HIV.out.row.cell (j := 0) rfl
          have q1 := HIV.out.row.cell (j := 1) rfl
          have HXL := Lib.hid HIV.out.row.lt
          clear hca hP hT hcE ho hAj
          obtain ⟨TS, TE⟩ := T
          simp only at HCB HCE HSTEP
          have qx := HIV.out.row.lt
          by_cases hT0 : TE = 0
          · subst hT0
            have HNXT : Hid (RS = cpL st kf A.length b TS (z.drop (k + 1))) := by show _ = _; rw [HCE.out, if_neg (by simp)]
            have HSI := Lib.hid (HSTEP.out rfl)
            clear HCE HSTEP
            go_wp2_with fail
            go_region_with ((go_at_call 34; ((with_reducible refine (HCB.out _ (Up.drew _)).mono ?_); rintro e w4 ⟨v4, rfl, hst4, u4⟩; have h4 : Up wr w4 := (Up.drew _).trans u4; have HS4 := Lib.hid hst4; obtain ⟨vb4, vv4, hv4, hb4, hvv4⟩ := hst4.stat; subst hv4; obtain ⟨o7, c7, hv7, _⟩ := hb4.slice; subst hv7; obtain ⟨o8, c8, hv8, _, _⟩ := hvv4.slice; subst hv8; have hX4 := HIV.out.row.up h4; have x0 := hX4.cell (j := 0) rfl; have x1 := hX4.cell (j := 1) rfl; have x2 := hX4.frozen 0; have x3 := hX4.frozen 1)))
            all_goals
              have hX5 : RowC (w4.setCell ⟨X, 0, none⟩ (.slice o7 TS.b.length c7)) X 31 [.slice o7 TS.b.length c7, .slice p6 cur.v.length d6] := hX4.set 0 _
              have hX6 : RowC ((w4.setCell ⟨X, 0, none⟩ (.slice o7 TS.b.length c7)).setCell ⟨X, 1, none⟩ (.slice o8 TS.v.length c8)) X 31 [.slice o7 TS.b.length c7, .slice o8 TS.v.length c8] := hX5.set 1 _
              have HL6 : Hid (CpRel st kf A.length b z A (.slice (some ⟨ba, offa, none⟩) A.length c1) X (w.heap.size + 1) w RS (k + 1) TS (.slice o7 TS.b.length c7) (.slice o8 TS.v.length c8) ((w4.setCell ⟨X, 0, none⟩ (.slice o7 TS.b.length c7)).setCell ⟨X, 1, none⟩ (.slice o8 TS.v.length c8))) := ⟨hlz, hX6, ((HIV.out.res.up h4).other hRX 0 _).other hRX 1 _, OSt.boxed (OSt.base HS4.out HIV.out.up.size) hX4, HSI.out, ((HIV.out.ids.up h4).setS hX4 rfl rfl).setS hX5 rfl rfl, HNXT.out, up2 (HIV.out.up.trans h4) hwX⟩
              clear hX4 hX5 hX6 x0 x1 x2 x3 u4 h4 hb4 hvv4 q0 q1 e1 a1
              generalize ((w4.setCell ⟨X, 0, none⟩ (.slice o7 TS.b.length c7)).setCell ⟨X, 1, none⟩ (.slice o8 TS.v.length c8)) = W6 at HL6 ⊢
              go_wp2_with fail
              go_roundw
              case rel => exact ⟨k + 1, TS, _, _, by go_num, HL6.out⟩
              case measure => simp only [intOf]; omega
          · have hne : (TE != 0) = true := by rw [bne_iff_ne]; exact hT0
            have HRE : Hid (RS = (zeroS, TE)) := by show _ = _; rw [HCE.out, if_pos hT0]
            clear HCE HSTEP hT0
            go_wp2_with fail
            go_region_with ((go_at_call 34; ((with_reducible refine (HCB.out _ (Up.drew _)).mono ?_); rintro e w4 ⟨v4, rfl, hst4, u4⟩; have h4 : Up wr w4 := (Up.drew _).trans u4; obtain ⟨vb4, vv4, hv4, hb4, hvv4⟩ := hst4.stat; subst hv4; obtain ⟨o7, c7, hv7, _⟩ := hb4.slice; subst hv7; obtain ⟨o8, c8, hv8, _, _⟩ := hvv4.slice; subst hv8; have hX4 := HIV.out.row.up h4; have x0 := hX4.cell (j := 0) rfl; have x1 := hX4.cell (j := 1) rfl; have x2 := hX4.frozen 0; have x3 := hX4.frozen 1)))
            all_goals
              have HR6 := Lib.hid (((HIV.out.res.up h4).other hRX 0 (.slice o7 TS.b.length c7)).other hRX 1 (.slice o8 TS.v.length c8))
              have HU6 : Hid (Up w ((w4.setCell ⟨X, 0, none⟩ (.slice o7 TS.b.length c7)).setCell ⟨X, 1, none⟩ (.slice o8 TS.v.length c8))) := up2 (HIV.out.up.trans h4) hwX
              clear hX4 x0 x1 x2 x3 u4 h4 hb4 hvv4 q0 q1 e1 a1
              generalize ((w4.setCell ⟨X, 0, none⟩ (.slice o7 TS.b.length c7)).setCell ⟨X, 1, none⟩ (.slice o8 TS.v.length c8)) = W6 at HR6 HU6 ⊢
              have r0 := HR6.out.frozen 0
              have r1 := HR6.out.frozen 1
              have r2 := HR6.out.cell (j := 0) rfl
              have r3 := HR6.out.cell (j := 1) rfl
              go_wp2_with fail
              have hz := (HR6.out.set 0 (.slice none 0 0)).set 1 (.slice none 0 0)
              have z0 := hz.cell (j := 0) rfl
              have z1 := hz.cell (j := 1) rfl
              have HUZ : Hid (Up w ((W6.setCell ⟨w.heap.size + 1, 0, none⟩ (.slice none 0 0)).setCell ⟨w.heap.size + 1, 1, none⟩ (.slice none 0 0))) := up2 HU6.out (by omega)
              generalize (W6.setCell ⟨w.heap.size + 1, 0, none⟩ (.slice none 0 0)).setCell ⟨w.heap.size + 1, 1, none⟩ (.slice none 0 0) = WZ at z0 z1 HUZ ⊢
              exact bodyPost_ret (v := .tuple #[zeroV, .int .i64 TE]) (by simp [results, Try.results10, go_sem, z0, z1, zeroV]) rfl ⟨_, by rw [HRE.out], by rw [HRE.out]; exact OSt.zero _ _, HUZ.out⟩
      · have d1 : decide (k < Z) = false := decide_eq_false hlt
        have HRE : Hid (RS = (cur, 0)) := by
          show _ = _
          rw [HIV.out.eq, List.drop_of_length_le (by rw [HZL.out]; omega)]; rfl
        have HR4 := Lib.hid HIV.out.res
        have HU4 := Lib.hid HIV.out.up
        have HS4 := Lib.hid HIV.out.own
        have q0 := HIV.out.row.cell (j := 0) rfl
        have q1 := HIV.out.row.cell (j := 1) rfl
        have r0 := HR4.out.frozen 0
        have r1 := HR4.out.frozen 1
        have r2 := HR4.out.cell (j := 0) rfl
        have r3 := HR4.out.cell (j := 1) rfl
        go_wp2_with fail
        have hz := (HR4.out.set 0 (.slice p5 cur.b.length d5)).set 1 (.slice p6 cur.v.length d6)
        have z0 := hz.cell (j := 0) rfl
        have z1 := hz.cell (j := 1) rfl
        have HSZ := Lib.hid (OSt.boxed HS4.out HR4.out)
        have HUZ : Hid (Up w ((wr.setCell ⟨w.heap.size + 1, 0, none⟩ (.slice p5 cur.b.length d5)).setCell ⟨w.heap.size + 1, 1, none⟩ (.slice p6 cur.v.length d6))) := up2 HU4.out (by omega)
        generalize (wr.setCell ⟨w.heap.size + 1, 0, none⟩ (.slice p5 cur.b.length d5)).setCell ⟨w.heap.size + 1, 1, none⟩ (.slice p6 cur.v.length d6) = WZ at z0 z1 HSZ HUZ ⊢
        exact bodyPost_ret (v := .tuple #[.agg #[.slice p5 cur.b.length d5, .slice p6 cur.v.length d6], .int .i64 0]) (by simp [results, Try.results10, go_sem, z0, z1]) rfl ⟨_, by rw [HRE.out], by rw [HRE.out]; exact HSZ.out, HUZ.out⟩
  · have hne : (E != 0) = true := by rw [bne_iff_ne]; exact hE
    have HRZ : Hid (RS = (zeroS, E)) := by show _ = _; rw [← HRS.out, if_pos hE]
    have r0 := HR1.out.frozen 0
    have r1 := HR1.out.frozen 1
    have r2 := HR1.out.cell (j := 0) rfl
    have r3 := HR1.out.cell (j := 1) rfl
    clear hE
    go_wp2_with fail
    have hz := (HR1.out.set 0 (.slice none 0 0)).set 1 (.slice none 0 0)
    have z0 := hz.cell (j := 0) rfl
    have z1 := hz.cell (j := 1) rfl
    have HUZ : Hid (Up w ((w1.setCell ⟨w.heap.size + 1, 0, none⟩ (.slice none 0 0)).setCell ⟨w.heap.size + 1, 1, none⟩ (.slice none 0 0))) := up2 HU1.out (by omega)
    generalize (w1.setCell ⟨w.heap.size + 1, 0, none⟩ (.slice none 0 0)).setCell ⟨w.heap.size + 1, 1, none⟩ (.slice none 0 0) = WZ at z0 z1 HUZ ⊢
    exact bodyPost_ret (v := .tuple #[zeroV, .int .i64 E]) (by simp [results, Try.results10, go_sem, z0, z1, zeroV]) rfl ⟨_, by rw [HRZ.out], by rw [HRZ.out]; exact OSt.zero _ _, HUZ.out⟩

theorem copy_any (v vz : Value) (st : Sta) (a b : List UInt8) (z : List Int) (w : World) (h : Stat w v st) (hwf : WfS st) (hz : Sl w 1 vz z.length (inL z)) :
    Calls Try.prog 10 #[v, .string (bs a), .string (bs b), vz] w (RdEPost w (cpR st a b z)) := by
  refine (copy_own v vz st a b z w h hwf hz).mono ?_
  rintro e w' ⟨v', h1, h2, h3⟩
  exact ⟨v', h1, h2.stat, h3⟩

end Go.Proofs.Ytnmdfdkagkpcaaa
