/-
  The texts VolCl, BackP, one behind the other; each says below what it holds and on what conditions.
-/
import Derived.Test.YtcbppfndlagodaaGreatJTopBackup50
import Derived.Test.YtcbppfndlagodaaGreatJTopBackup49
import Derived.Deep.AppendLies

/-
  What vol's Clone returns. Conditions: a state that can be read.
-/
namespace Go.Proofs.YtcbppfndlagodaaGreat
open Go.RowKit
open Go.Proofs
open WoolBag
open WoolVol

theorem kept_apart {w w' : World} {base T m n T' n' m' : Nat} {v u : Value} {L L' : List Value} (h : w.ownsRow base T m v n L) (hu : w.ownsRow base T' m' u n' L') (hT : T ≠ T') (hg : w.grownBy w' u.ownBlock) : w'.ownsRow base T m v n L := by
  refine World.ownsRow.kept h hg ?_
  rcases own_row hu with ⟨rfl, _, _⟩ | ⟨g, cap, sp, rfl, _, h2, _⟩
  · cases hv : v.ownBlock with
    | none => exact .inl rfl
    | some q => exact .inr (by simp [Value.ownBlock])
  · exact .inr (own_apart h h2 hT)

/-- a bag that was changed in its own row, beside volumes of the call's own -/
theorem OSt.bag {w w' : World} {base : Nat} {vb vv : Value} {st : Sta} {b' : List Itm} (h : OSt w base (.agg #[vb, vv]) st) (hg : w.grownBy w' vb.ownBlock) (hb : OItems w' base vb b') : OSt w' base (.agg #[vb, vv]) ⟨b', st.v⟩ := by
  obtain ⟨vb2, vv2, e, h1, C, h2, h3⟩ := h
  simp at e
  obtain ⟨rfl, rfl⟩ := e
  exact ⟨_, _, rfl, hb, C, kept_apart h2 h1 (Ne.symm itVol) hg, ⟨h3.len, h3.nm, fun k hk => kept_apart (h3.bl k hk) h1 (by decide) hg, h3.apart⟩⟩

set_option maxRecDepth 100000 in
set_option maxHeartbeats 2000000 in
theorem vclone_any (v : Value) (st : Sta) (s t : List UInt8) (w : World) (h : Stat w v st) (hwf : WfS st) (ht : t.length ≤ 9223372036854775807) :
    Calls Tryz.prog 6 #[v, .string (bs s), .string (bs t)] w (RdEPost w (clone FP st s t)) := by
  have HF := Lib.hid (fun W (hW : Up w W) => vfind_any v st s W (h.up hW) hwf)
  have HCN := Lib.hid (fun W (hW : Up w W) => checkNew_any v st t W (h.up hW) ht)
  have HSC := Lib.hid (fun (hg : WoolVol.Good FP st) W (hW : Up w W) => stclone_any v st W (h.up hW) hg)
  unfold StPost at HSC
  unfold findVR at HF
  obtain ⟨vb, vv, rfl, hb, hv⟩ := h
  obtain ⟨oB, cB, rfl, _⟩ := hb.slice
  obtain ⟨oV, cV, rfl, hV1, hV2⟩ := hv.slice
  unfold maxLen at hV2
  have HVI := Lib.hid hv
  clear hb hv hwf ht
  obtain ⟨RS, hRS⟩ : ∃ RS, clone FP st s t = RS := ⟨_, rfl⟩
  rw [hRS]
  unfold clone at hRS
  obtain ⟨NE, hNE⟩ : ∃ NE, newE st t = NE := ⟨_, rfl⟩
  rw [hNE] at hRS HCN
  have HNE0 := Lib.hid hNE
  have HRS := Lib.hid hRS
  clear hRS hNE
  obtain ⟨M, hM⟩ : ∃ M, st.b.length = M := ⟨_, rfl⟩
  obtain ⟨N, hN⟩ : ∃ N, st.v.length = N := ⟨_, rfl⟩
  have HN := Lib.hid hN
  have HM := Lib.hid hM
  rw [hM, hN] at HF HSC HCN ⊢
  rw [hN] at HVI hV1
  clear hM hN
  have HR : Hid (RowC ((w.alloc (.cells #[.slice oB M cB, .slice oV N cV] 27)).alloc (.cells #[.slice none 0 0, .slice none 0 0] 27)) (w.heap.size + 1) 27 [.slice none 0 0, .slice none 0 0]) := box_new w _ _ _ _
  have HA : Hid (RowC ((w.alloc (.cells #[.slice oB M cB, .slice oV N cV] 27)).alloc (.cells #[.slice none 0 0, .slice none 0 0] 27)) w.heap.size 27 [.slice oB M cB, .slice oV N cV]) := RowC.up (rowN_at [.slice oB M cB, .slice oV N cV] _ rfl) (Up.alloc _ _)
  have HW0 : Hid (Up w ((w.alloc (.cells #[.slice oB M cB, .slice oV N cV] 27)).alloc (.cells #[.slice none 0 0, .slice none 0 0] 27))) := (Up.alloc _ _).trans (Up.alloc _ _)
  by_cases h0 : (vfind FP st s).2 = 0
  · obtain ⟨hck, k, hk, hf, _, _⟩ := vfind_ok h0
    have hgood := chkS_zero.1 hck
    have HGD := Lib.hid hgood
    rw [hf] at HF HRS
    simp only at HF HRS
    rw [if_neg (by simp), getElem!_pos st.v k hk] at HRS
    have HSC2 := Lib.hid (HSC.out hgood)
    have hN6 : N ≤ 6 := by rw [← HN.out]; exact hgood.len
    have hkN : k < N := by rw [← HN.out]; exact hk
    have hvol := hgood.vol _ (List.getElem_mem hk)
    obtain ⟨b, off, rfl, h5⟩ := HVI.out.at (by intro e; rw [e] at hk; simp at hk)
    obtain ⟨_, uf, af, hidf⟩ := h5 k hk
    obtain ⟨bl, hbl⟩ : ∃ bl, st.v[k].bl = bl := ⟨_, rfl⟩
    rw [hbl] at hvol hidf HRS
    obtain ⟨of, cf, rfl, hcf, hcf'⟩ := hidf.slice
    have HCD := Lib.hid (fun W (hW : Up w W) => cloneD_any _ bl W (hidf.up hW) hvol.2.1)
    unfold IdsPost at HCD
    have HVOL := Lib.hid hvol
    have HAF := Lib.hid af
    obtain ⟨L, hL⟩ : ∃ L, bl.length = L := ⟨_, rfl⟩
    have HL := Lib.hid hL
    rw [hL] at HCD HAF
    clear HSC h0 hf hgood hck h5 hvol hidf hbl af hL
    go_enter Tryz.func6, Tryz.ntmps6
    go_upto_region 1 with (fail)
    generalize (w.alloc (.cells #[.slice oB M cB, .slice (some ⟨b, off, none⟩) N cV] 27)).alloc (.cells #[.slice none 0 0, .slice none 0 0] 27) = W0 at HA HR HW0 ⊢
    have a0 := HA.out.cell (j := 0) rfl
    have a1 := HA.out.cell (j := 1) rfl
    go_wp2_with fail
    refine (HF.out _ HW0.out).mono ?_
    rintro e w1 ⟨rfl, u1⟩
    have HUw1 := Lib.hid (HW0.out.trans u1)
    have HRw1 := Lib.hid (HR.out.up u1)
    have HAw1 := Lib.hid (HA.out.up u1)
    clear a0 a1 u1
    have a0 := HAw1.out.cell (j := 0) rfl
    have a1 := HAw1.out.cell (j := 1) rfl
    go_wp2_with fail
    refine (HCN.out _ HUw1.out).mono ?_
    rintro e w2 ⟨rfl, u2⟩
    have HUw2 := Lib.hid (HUw1.out.trans u2)
    have HRw2 := Lib.hid (HRw1.out.up u2)
    have HAw2 := Lib.hid (HAw1.out.up u2)
    clear a0 a1 u2
    by_cases hE : NE = 0
    · subst hE
      obtain ⟨hnm, hno, h6⟩ := newE_zero HNE0.out
      have ht12 : t.length ≤ 12 := by unfold nameB at hnm; simp at hnm; omega
      have HRZ : Hid (RS = (⟨ret st.b bl, vins ⟨t, bl⟩ st.v⟩, 0)) := by show _ = _; rw [← HRS.out, if_neg (by simp)]
      have a0 := HAw2.out.cell (j := 0) rfl
      have a1 := HAw2.out.cell (j := 1) rfl
      clear hnm hno h6 HCN HF
      go_wp2_with fail
      refine (HSC2.out _ HUw2.out).mono ?_
      rintro e w3 ⟨v3, rfl, ho3, u3⟩
      obtain ⟨vb3, vv3, rfl, hob, C, hvc, hrd⟩ := ho3
      have hCl : C.length = N := hrd.len.trans HN.out
      obtain ⟨ob, cb, hvb⟩ := own_slice hob
      obtain ⟨ov, cv, hvv⟩ := own_slice hvc
      subst hvb hvv
      rw [HM.out] at hob ⊢
      rw [hCl] at hvc ⊢
      have HOS3 : Hid (OSt w3 w2.heap.size (.agg #[.slice ob M cb, .slice ov N cv]) st) := ⟨_, _, rfl, hob, C, hvc, hrd⟩
      clear hob hvc hrd hCl a0 a1
      go_upto_region 8 with (fail)
      have hal := Up.alloc w3 (.cells #[.slice ob M cb, .slice ov N cv] 27)
      have HX4 : Hid (RowC (w3.alloc (.cells #[.slice ob M cb, .slice ov N cv] 27)) w3.heap.size 27 [.slice ob M cb, .slice ov N cv]) := heap_alloc_new w3 _
      have HU4 := Lib.hid (u3.trans hal)
      have HOS4 := Lib.hid (HOS3.out.up hal)
      generalize (w3.alloc (.cells #[.slice ob M cb, .slice ov N cv] 27)) = W4 at HX4 HU4 HOS4 ⊢
      obtain ⟨X, hX⟩ : ∃ X, w3.heap.size = X := ⟨_, rfl⟩
      have hXB : w2.heap.size ≤ X := by rw [← hX]; exact u3.size
      rw [hX] at HX4 ⊢
      clear hX u3 hal
      have a1 := (HAw2.out.up HU4.out).cell (j := 1) rfl
      have af := ((HUw2.out.trans HU4.out).cell (World.block_lt_of_cell? w _ HAF.out)).trans HAF.out
      go_wp2_with fail
      refine (HCD.out _ (HUw2.out.trans HU4.out)).mono ?_
      rintro e w5 ⟨v5, rfl, ho5, u5⟩
      obtain ⟨o5, c5, hv5⟩ := own_slice ho5
      subst hv5
      have HO5 : Hid (OIds w5 w2.heap.size (.slice o5 bl.length c5) bl) := own_base ho5 HU4.out.size
      have HOS5 := Lib.hid (HOS4.out.up u5)
      have HX5 := Lib.hid (HX4.out.up u5)
      have HU5 := Lib.hid (HU4.out.trans u5)
      rw [HL.out] at HO5 ⊢
      clear ho5 u5 a1 af
      have x0 := HX5.out.cell (j := 0) rfl
      have HRT : Hid (Calls Tryz.prog 23 #[.slice ob M cb, .slice o5 L c5] w5 (RtPost w5 w2.heap.size (.slice ob M cb) (ret st.b bl))) := by
        obtain ⟨vb6, vv6, e, h1, _⟩ := HOS5.out
        simp at e
        obtain ⟨rfl, rfl⟩ := e
        exact retain_any _ _ st.b bl w2.heap.size w5 h1 HGD.out.bag HO5.out.ids HVOL.out.2.2 HVOL.out.2.1
      unfold RtPost at HRT
      go_wp2_with fail
      refine HRT.out.mono ?_
      rintro e w6 ⟨rfl, ho6, hg6⟩
      have hbe : ∀ q, (Value.slice ob M cb).ownBlock = some q → w2.heap.size ≤ q := fun q hq => (World.ownsRow.lt ho6 q hq).1
      have HOS6 := Lib.hid (HOS5.out.bag hg6 ho6)
      have HO6 : Hid (OIds w6 w2.heap.size (.slice o5 L c5) bl) := by
        obtain ⟨vb6, vv6, e, h1, _⟩ := HOS5.out
        simp at e
        obtain ⟨rfl, rfl⟩ := e
        exact kept_apart HO5.out h1 (by decide) hg6
      have HX6 : Hid (RowC w6 X 27 [.slice ob M cb, .slice ov N cv]) := by
        obtain ⟨vb6, vv6, e, h1, _⟩ := HOS5.out
        simp at e
        obtain ⟨rfl, rfl⟩ := e
        exact HX5.out.kept hg6 (own_apart h1 HX5.out itState)
      have HU6 : Hid (Up w2 w6) := Below.grown HU5.out hg6 HU5.out.size hbe
      have HADD := Lib.hid (add_any _ ⟨ret st.b bl, st.v⟩ t _ bl w2.heap.size w6 HOS6.out HO6.out (by show st.v.length ≤ 6; rw [HN.out]; exact hN6) ht12 HU6.out.size)
      unfold AddPost at HADD
      clear ho6 hg6 hbe x0
      have x0 := HX6.out.cell (j := 0) rfl
      have x1 := HX6.out.cell (j := 1) rfl
      go_wp2_with fail
      refine HADD.out.mono ?_
      rintro e w7 ⟨v7, rfl, hs7, hb7⟩
      have h27 := Up.trans' HU6.out hb7
      obtain ⟨o4, c4, o8, c8, hv4⟩ := hs7.shape
      subst hv4
      have HS4 := Lib.hid hs7
      have HZ4 := Lib.hid (HRw2.out.up h27)
      have HU7 := Lib.hid (HUw2.out.trans h27)
      obtain ⟨L5, hL5⟩ : ∃ L5, (vins ⟨t, bl⟩ st.v).length = L5 := ⟨_, rfl⟩
      obtain ⟨L6, hL6⟩ : ∃ L6, (ret st.b bl).length = L6 := ⟨_, rfl⟩
      rw [hL5, hL6] at HS4 ⊢
      clear hs7 hb7 h27 x0 x1 hL5 hL6
      have r0 := HZ4.out.frozen 0
      have r1 := HZ4.out.frozen 1
      have r2 := HZ4.out.cell (j := 0) rfl
      have r3 := HZ4.out.cell (j := 1) rfl
      go_wp2_with fail
      have hz := (HZ4.out.set 0 (.slice o4 L6 c4)).set 1 (.slice o8 L5 c8)
      have z0 := hz.cell (j := 0) rfl
      have z1 := hz.cell (j := 1) rfl
      have HOZ := Lib.hid (Stat.boxed (x := .slice o4 L6 c4) (y := .slice o8 L5 c8) HS4.out HZ4.out rfl rfl rfl)
      have HUZ := Lib.hid (up2 (x := .slice o4 L6 c4) (y := .slice o8 L5 c8) HU7.out (Nat.le_succ w.heap.size))
      generalize (w7.setCell ⟨w.heap.size + 1, 0, none⟩ (.slice o4 L6 c4)).setCell ⟨w.heap.size + 1, 1, none⟩ (.slice o8 L5 c8) = WZ at z0 z1 HOZ HUZ ⊢
      exact bodyPost_ret (v := .tuple #[.agg #[.slice o4 L6 c4, .slice o8 L5 c8], .int .i64 0]) (by simp [results, Tryz.results6, go_sem, z0, z1]) rfl ⟨_, by rw [HRZ.out], by rw [HRZ.out]; exact HOZ.out, HUZ.out⟩
    · have hne : (NE != 0) = true := by rw [bne_iff_ne]; exact hE
      have HRZ : Hid (RS = (zeroS, NE)) := by show _ = _; rw [← HRS.out, if_pos hE]
      clear hE
      have r0 := HRw2.out.frozen 0
      have r1 := HRw2.out.frozen 1
      have r2 := HRw2.out.cell (j := 0) rfl
      have r3 := HRw2.out.cell (j := 1) rfl
      go_wp2_with fail
      have hz := (HRw2.out.set 0 (.slice none 0 0)).set 1 (.slice none 0 0)
      have z0 := hz.cell (j := 0) rfl
      have z1 := hz.cell (j := 1) rfl
      have HUZ := Lib.hid (up2 (x := .slice none 0 0) (y := .slice none 0 0) HUw2.out (Nat.le_succ w.heap.size))
      generalize (w2.setCell ⟨w.heap.size + 1, 0, none⟩ (.slice none 0 0)).setCell ⟨w.heap.size + 1, 1, none⟩ (.slice none 0 0) = WZ at z0 z1 HUZ ⊢
      exact bodyPost_ret (v := .tuple #[zeroV, .int .i64 NE]) (by simp [results, Tryz.results6, go_sem, z0, z1, zeroV]) rfl ⟨_, by rw [HRZ.out], by rw [HRZ.out]; exact Stat.zero _, HUZ.out⟩
  · obtain ⟨E, hE⟩ : ∃ E, (vfind FP st s).2 = E := ⟨_, rfl⟩
    have hz := vfind_no h0
    have HRZ : Hid (RS = (zeroS, E)) := by show _ = _; rw [← HRS.out, if_pos h0, hE]
    rw [hE, hz] at HF
    rw [hE] at h0
    have hne : (E != 0) = true := by rw [bne_iff_ne]; exact h0
    clear hE hz h0 HSC HRS
    go_enter Tryz.func6, Tryz.ntmps6
    go_upto_region 1 with (fail)
    generalize (w.alloc (.cells #[.slice oB M cB, .slice oV N cV] 27)).alloc (.cells #[.slice none 0 0, .slice none 0 0] 27) = W0 at HA HR HW0 ⊢
    have a0 := HA.out.cell (j := 0) rfl
    have a1 := HA.out.cell (j := 1) rfl
    go_wp2_with fail
    refine (HF.out _ HW0.out).mono ?_
    rintro e w1 ⟨rfl, u1⟩
    have HUw1 := Lib.hid (HW0.out.trans u1)
    have HRw1 := Lib.hid (HR.out.up u1)
    clear a0 a1 u1
    have r0 := HRw1.out.frozen 0
    have r1 := HRw1.out.frozen 1
    have r2 := HRw1.out.cell (j := 0) rfl
    have r3 := HRw1.out.cell (j := 1) rfl
    go_wp2_with fail
    have hz := (HRw1.out.set 0 (.slice none 0 0)).set 1 (.slice none 0 0)
    have z0 := hz.cell (j := 0) rfl
    have z1 := hz.cell (j := 1) rfl
    have HUZ := Lib.hid (up2 (x := .slice none 0 0) (y := .slice none 0 0) HUw1.out (Nat.le_succ w.heap.size))
    generalize (w1.setCell ⟨w.heap.size + 1, 0, none⟩ (.slice none 0 0)).setCell ⟨w.heap.size + 1, 1, none⟩ (.slice none 0 0) = WZ at z0 z1 HUZ ⊢
    exact bodyPost_ret (v := .tuple #[zeroV, .int .i64 E]) (by simp [results, Tryz.results6, go_sem, z0, z1, zeroV]) rfl ⟨_, by rw [HRZ.out], by rw [HRZ.out]; exact Stat.zero _, HUZ.out⟩

end Go.Proofs.YtcbppfndlagodaaGreat

/-
  Two rows of the call's own that are appended to one behind the other; a state's box beside another. Conditions: as each says.
-/
namespace Go.Proofs.YtcbppfndlagodaaGreat
open Go.RowKit
open Go.Proofs
open WoolBag
open WoolVol

theorem strInfoB : (Tryz.prog.info? 9).map (fun i => (i.zero, i.size, i.bytes)) = some (some (.string ⟨#[]⟩), 1, 16) := by kernel_rfl

/-- of two rows, the one is not the other's block -/
def Apart (v1 v2 : Value) : Prop := ∀ g, v1.ownBlock = some g → v2.ownBlock ≠ some g

theorem Apart.symm {v1 v2 : Value} (h : Apart v1 v2) : Apart v2 v1 := fun g h2 h1 => h g h1 h2

theorem kept2 {U1 U2 : World} {base T m n : Nat} {v1 v2 : Value} {L : List Value} (h : U1.ownsRow base T m v2 n L) (hg : U1.grownBy U2 v1.ownBlock) (hap : Apart v1 v2) : U2.ownsRow base T m v2 n L := by
  refine World.ownsRow.kept h hg ?_
  cases e : v2.ownBlock with
  | none => exact .inl rfl
  | some g =>
    right
    intro e2
    exact hap g e2.symm e

theorem news_kept {U1 U2 : World} {v1 : Value} {k : Nat} {y : Value} (h : ∀ j u, [y][j]? = some u → U1.cell? ((⟨k, 0, none⟩ : Addr).add j) = some u) (hg : U1.grownBy U2 v1.ownBlock) (hk : k < U1.heap.size) (hne : v1.ownBlock ≠ some k) :
    ∀ j u, [y][j]? = some u → U2.cell? ((⟨k, 0, none⟩ : Addr).add j) = some u := by
  intro j u hj
  match j, hj with
  | 0, hj =>
    have h1 := h 0 u hj
    have e0 : (⟨k, 0, none⟩ : Addr).add 0 = ⟨k, 0, none⟩ := rfl
    rw [e0] at h1 ⊢
    rw [hg.cell_far _ hk (fun e => hne e.symm)]
    exact h1

theorem news_new1 (w : World) (X : Obj) (y : Value) (t : TypeId) : ∀ j u, [y][j]? = some u → ((w.alloc X).alloc (.cells #[y] t)).cell? ((⟨w.heap.size + 1, 0, none⟩ : Addr).add j) = some u := by
  have h : (w.alloc X).heap.size = w.heap.size + 1 := by simp
  rw [← h]
  exact cell_one_new _ _ _

theorem news_alloc {w : World} {k : Nat} {y : Value} (X : Obj) (h : ∀ j u, [y][j]? = some u → w.cell? ((⟨k, 0, none⟩ : Addr).add j) = some u) : ∀ j u, [y][j]? = some u → (w.alloc X).cell? ((⟨k, 0, none⟩ : Addr).add j) = some u :=
  fun j u hj => Lib.cell?_alloc_some _ (h j u hj)

/-- what two appends leave, the first's row seen behind the second -/
theorem later {w4 U1 U2 U3 U4 : World} {base T n1 n2 c1 g1 g2 : Nat} {v1 v2 : Value} {L2 L : List Value} (o2 : w4.ownsRow base T 1 v2 n2 L2) (hap : Apart v1 v2)
    (h1 : U2.ownsRow base T 1 (.slice (some ⟨g1, 0, none⟩) (n1 + 1) c1) (n1 + 1) L) (hat1 : v1.ownBlock = some g1 ∨ g1 = U1.heap.size) (hlt1 : g1 < U2.heap.size) (hs1 : w4.heap.size ≤ U1.heap.size)
    (hU : Up U2 U3) (hg2 : U3.grownBy U4 v2.ownBlock) (hat2 : v2.ownBlock = some g2 ∨ g2 = U3.heap.size) :
    U4.ownsRow base T 1 (.slice (some ⟨g1, 0, none⟩) (n1 + 1) c1) (n1 + 1) L ∧ g1 ≠ g2 := by
  have hne : v2.ownBlock ≠ some g1 := by
    intro e
    have hlt := (World.ownsRow.lt o2 g1 e).2
    rcases hat1 with h | h
    · exact hap g1 h e
    · omega
  have h3 : U3.ownsRow base T 1 (.slice (some ⟨g1, 0, none⟩) (n1 + 1) c1) (n1 + 1) L := own_upT h1 hU
  refine ⟨World.ownsRow.kept h3 hg2 (.inr (fun e => hne (by rw [← e]; rfl))), fun e => ?_⟩
  subst e
  rcases hat2 with h | h
  · exact hne h
  · have := hU.size
    omega

/-- two rows of texts behind a round -/
structure TwoTx (W wr : World) (v1 v2 : Value) (P Q : List (List UInt8)) : Prop where
  p : wr.ownsRow W.heap.size 9 1 v1 P.length (fl txC P)
  q : wr.ownsRow W.heap.size 9 1 v2 Q.length (fl txC Q)
  ap : Apart v1 v2
  up : Up W wr

theorem fl_tx_snoc (P : List (List UInt8)) (x : List UInt8) : fl txC (P ++ [x]) = fl txC P ++ [.string (bs x)] := by
  rw [fl_append]
  show fl txC P ++ (txC x ++ []) = _
  rw [List.append_nil]
  rfl

/-- both appended to, the first row first -/
theorem twoTx_first {W w4 U1 U2 U3 U4 : World} {n g1 g2 c1 c2 : Nat} {v1 v2 : Value} {P Q : List (List UInt8)} {x y : List UInt8} (h : TwoTx W w4 v1 v2 P Q) (hP : P.length = n) (hQ : Q.length = n) (hs1 : w4.heap.size ≤ U1.heap.size) (hU1 : Up W U1)
    (h1 : U2.ownsRow W.heap.size 9 1 (.slice (some ⟨g1, 0, none⟩) (n + 1) c1) (n + 1) (fl txC P ++ [.string (bs x)])) (hg1 : U1.grownBy U2 v1.ownBlock) (hat1 : v1.ownBlock = some g1 ∨ g1 = U1.heap.size) (hlt1 : g1 < U2.heap.size)
    (hU : Up U2 U3)
    (h2 : U4.ownsRow W.heap.size 9 1 (.slice (some ⟨g2, 0, none⟩) (n + 1) c2) (n + 1) (fl txC Q ++ [.string (bs y)])) (hg2 : U3.grownBy U4 v2.ownBlock) (hat2 : v2.ownBlock = some g2 ∨ g2 = U3.heap.size) :
    TwoTx W U4 (.slice (some ⟨g1, 0, none⟩) (n + 1) c1) (.slice (some ⟨g2, 0, none⟩) (n + 1) c2) (P ++ [x]) (Q ++ [y]) := by
  have o2 := h.q
  rw [hQ] at o2
  obtain ⟨a1, a2⟩ := later o2 h.ap h1 hat1 hlt1 hs1 hU hg2 hat2
  have hW2 : Up W U2 := Below.grown hU1 hg1 hU1.size (fun k hk => (World.ownsRow.lt h.p k hk).1)
  have hW3 := hW2.trans hU
  refine ⟨?_, ?_, fun g e1 e2 => ?_, Below.grown hW3 hg2 hW3.size (fun k hk => (World.ownsRow.lt h.q k hk).1)⟩
  · rw [fl_tx_snoc, List.length_append, hP]; exact a1
  · rw [fl_tx_snoc, List.length_append, hQ]; exact h2
  · have e3 : g1 = g := Option.some.inj e1
    have e4 : g2 = g := Option.some.inj e2
    exact a2 (e3.trans e4.symm)

theorem TwoTx.symm {W wr : World} {v1 v2 : Value} {P Q : List (List UInt8)} (h : TwoTx W wr v1 v2 P Q) : TwoTx W wr v2 v1 Q P := ⟨h.q, h.p, h.ap.symm, h.up⟩

/-- a state in a second box, behind a write -/
def BkMid (X : Nat) (x y : Value) (R : Sta × Int) (w : World) (p e : Value) (wx : World) : Prop :=
  ∃ (Y : Nat) (a b : Value), p = .pointer (some ⟨Y, 0, none⟩) ∧ e = .int .i64 R.2 ∧ X ≠ Y ∧ RowC wx X 27 [x, y] ∧ RowC wx Y 27 [a, b] ∧ Stat wx (.agg #[a, b]) R.1 ∧ Up w wx

theorem bkmidA {X Y : Nat} {x y a b c d : Value} {R : Sta × Int} {w w5 : World} (hX : RowC w5 X 27 [x, y]) (hY : RowC w5 Y 27 [c, d]) (hne : X ≠ Y) (hs : Stat w5 (.agg #[a, b]) R.1) (ha : isSl a = true) (hc : isSl c = true) (hd : isSl d = true) (hU : Up w w5) (hwY : w.heap.size ≤ Y) :
    BkMid X x y R w (.pointer (some ⟨Y, 0, none⟩)) (.int .i64 R.2) ((w5.setCell ⟨Y, 0, none⟩ a).setCell ⟨Y, 1, none⟩ b) :=
  ⟨Y, a, b, rfl, rfl, hne, (hX.other hne 0 a).other hne 1 b, (hY.set 0 a).set 1 b, Stat.boxed (x := a) (y := b) hs hY hc hd ha, up2 hU hwY⟩

theorem bkmidB {X : Nat} {x y a b : Value} {R : Sta × Int} {w w5 : World} (hX : RowC w5 X 27 [x, y]) (hs : Stat w5 (.agg #[a, b]) R.1) (hU : Up w w5) :
    BkMid X x y R w (.pointer (some ⟨w5.heap.size, 0, none⟩)) (.int .i64 R.2) (w5.alloc (.cells #[a, b] 27)) :=
  ⟨w5.heap.size, a, b, rfl, rfl, Nat.ne_of_lt hX.lt, hX.up (Up.alloc _ _), heap_alloc_new w5 _, hs.up (Up.alloc _ _), hU.trans (Up.alloc _ _)⟩

/-- between two writes into the clone -/
structure BkI (P : List (List UInt8)) (q X : Nat) (w : World) (cur : Sta) (x y : Value) (wr : World) : Prop where
  row : RowC wr X 27 [x, y]
  st : Stat wr (.agg #[x, y]) cur
  two : Two P q cur
  up : Up w wr

def BkLoop (P : List (List UInt8)) (q X m : Nat) (w : World) (i : Value) (wr : World) : Prop :=
  ∃ k cur x y, k ≤ m ∧ i = .int .i64 ((k : Nat) : Int) ∧ BkI P q X w cur x y wr

def RdRel (st : Sta) (q : Nat) (W : World) (vp vq i : Value) (wr : World) : Prop :=
  ∃ j : Nat, j ≤ q ∧ i = .int .i64 ((j : Nat) : Int) ∧ TwoTx W wr vp vq (rdL st 0 j) (rdL st 1 j)

def FdRel (m : Nat) (W : World) (i : Value) (wr : World) : Prop := ∃ j : Nat, j ≤ m ∧ i = .int .i64 ((j : Nat) : Int) ∧ Up W wr

end Go.Proofs.YtcbppfndlagodaaGreat
