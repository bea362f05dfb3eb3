/-
  The law LogJoins: logs that are laid one behind the other are the log of the deeds one behind the other, and make what both make. Conditions: slices of deeds that read as deeds.
-/
import Derived.Test.YtkkecgamaahniaaGreatJB46
import Derived.Test.YtkkecgamaahniaaGreatJB16
import Derived.Test.YtkkecgamaahniaaGreatJLogJoins04
import Derived.Deep.AppendLies
import Derived.Deep.RegionHeldLaw
import Derived.Deep.DeepCutAuto
import Derived.Deep.RegionHeld3
namespace Go.Proofs.YtkkecgamaahniaaGreat
open Go.RowKit
open Go.Proofs
open WoolBag
open WoolVol

theorem min_60L (n N : Nat) (h : min n 60 = N) : ∀ (ts : Array TypeId) (t : TypeId) (W : World), (Builtin.min_ ts t #[.int .i64 (n : Int), .int .i64 60]).run Tryz.prog W = .ok (.int .i64 (N : Int)) W := by
  intro ts t W
  subst h
  simp [Builtin.min_, Builtin.min2]
  omega


set_option maxRecDepth 100000 in
set_option maxHeartbeats 8000000 in
theorem logJoins_walk (a0 : Option Addr) (len0 cap0 : Nat) (z0 : List Opn) (a1 : Option Addr) (len1 cap1 : Nat) (z1 : List Opn) (w : World) (w0 : Ops w (.slice a0 len0 cap0) z0) (w1 : Ops w (.slice a1 len1 cap1) z1) :
    Calls Tryz.prog 6 #[.slice a0 len0 cap0, .slice a1 len1 cap1] w fun e w' => e = .returned (.bool true) ∧ Up w w' := by
  have HL0 : Hid (∀ W, Calls Tryz.prog 7 #[.slice none 0 0] W fun e w' => e = .returned (.tuple #[.string ⟨#[]⟩, .int .i64 0]) ∧ Up W w') := by
    intro W
    have h9 := log_ok _ [] W (Ops.nil W) (by simp) (by simp)
    rw [logG_nil] at h9
    exact h9
  have HOL := Lib.hid (fun W => ops_twoL W mk1 dr1 (chk_wf mk1_chk) (chk_wf dr1_chk))
  have HLG := Lib.hid (fun v W (h : Ops W v [mk1, dr1]) => log_ok v _ W h (by intro o ho; simp at ho; rcases ho with rfl | rfl; exact mk1_chk; exact dr1_chk) (by simp))
  have HOZ := Lib.hid w0
  have HOZ1 := Lib.hid w1
  have HU := Lib.hid (Up.refl w)
  clear w0 w1
  go_enter Tryz.func6, Tryz.ntmps6
  go_wp2_with fail
  refine (HL0.out _).mono ?_
  rintro e w0 ⟨rfl, hu⟩
  replace HOZ := Lib.hid (HOZ.out.up hu)
  replace HOZ1 := Lib.hid (HOZ1.out.up hu)
  replace HU := Lib.hid (HU.out.trans hu)
  clear hu HL0
  go_wp2_with fail
  refine (HLG.out _ _ (HOL.out _)).mono ?_
  rintro e w1 ⟨rfl, hu0⟩
  have hu := (Up.alloc _ _).trans hu0
  clear hu0 HLG HOL
  replace HOZ := Lib.hid (HOZ.out.up hu)
  replace HOZ1 := Lib.hid (HOZ1.out.up hu)
  replace HU := Lib.hid (HU.out.trans hu)
  clear hu
  have HR1 := Lib.hid (replay_log frames1 two_runs (by simp))
  have HL1 : Hid ((logG (frm 1) [mk1, dr1]).length ≤ 1000) := by show _ ≤ _; rw [logG_cons, logG_cons, logG_nil, List.append_nil, List.length_append, frm_length, frm_length]; have := encO_len mk1_chk; have := encO_len dr1_chk; omega
  generalize logG (frm 1) [mk1, dr1] = F1 at HR1 HL1 ⊢
  have HC := Lib.hid (replay_is w1 (by have := HL1.out; omega) HR1.out)
  unfold RpO at HC
  go_wp2_with fail
  refine HC.out.mono ?_
  clear HC
  rintro e w2 ⟨ora, cra, orb, crb, rfl, hs, hu⟩
  obtain ⟨nra, hna⟩ : ∃ m, (⟨[], []⟩ : Sta).b.length = m := ⟨_, rfl⟩
  obtain ⟨nrb, hnb⟩ : ∃ m, (⟨[], []⟩ : Sta).v.length = m := ⟨_, rfl⟩
  rw [hna, hnb] at hs ⊢
  have HXWXr : Hid (w.heap.size ≤ w2.heap.size) := Nat.le_trans HU.out.size hu.size
  have hb := BoxS.new hs hna hnb
  have hv := hu.trans (Up.alloc w2 (.cells #[.slice ora nra cra, .slice orb nrb crb] 31))
  clear hu hs hna hnb
  go_upto_region 6 with (fail)
  replace HOZ := Lib.hid (HOZ.out.up hv)
  replace HOZ1 := Lib.hid (HOZ1.out.up hv)
  replace HU := Lib.hid (HU.out.trans hv)
  clear hv
  have HBr := Lib.hid hb
  clear hb
  generalize w2.alloc (.cells #[.slice ora nra cra, .slice orb nrb crb] 31) = W3 at HBr HOZ HOZ1 HU ⊢
  generalize w2.heap.size = Xr at HBr HXWXr ⊢
  have hn1 : nrb = 0 := HBr.out.e2.symm
  subst hn1
  have kr0 := HBr.out.k0
  have kr1 := HBr.out.k1
  go_upto_region 8 with (fail)
  clear kr0 kr1
  have HC := Lib.hid (kept_is _ z0 W3 HOZ.out)
  unfold KpO at HC
  have HK := Lib.hid (kept_l z0)
  obtain ⟨⟨K, S⟩, hKS⟩ : ∃ r, keptFrom FP zeroS (z0.take 60) = r := ⟨_, rfl⟩
  rw [hKS] at HC HK
  simp only at HC HK
  clear hKS
  obtain ⟨LK, hLK⟩ : ∃ n, K.length = n := ⟨_, rfl⟩
  have HLK := Lib.hid hLK
  rw [hLK] at HC
  clear hLK
  go_wp2_with fail
  refine HC.out.mono ?_
  clear HC
  rintro e w4 ⟨ok, ck, oka, cka, okb, ckb, rfl, hk, hck, hs, hu⟩
  unfold maxLen at hck
  replace HBr := Lib.hid (HBr.out.up hu)
  replace HOZ := Lib.hid (HOZ.out.up hu)
  replace HOZ1 := Lib.hid (HOZ1.out.up hu)
  replace HU := Lib.hid (HU.out.trans hu)
  have HOK := Lib.hid hk
  clear hk hu HBr HOZ
  obtain ⟨nka, hna⟩ : ∃ m, S.b.length = m := ⟨_, rfl⟩
  obtain ⟨nkb, hnb⟩ : ∃ m, S.v.length = m := ⟨_, rfl⟩
  rw [hna, hnb] at hs ⊢
  have hb := BoxS.new hs hna hnb
  have HUA : Hid (Up w4 (w4.alloc (.cells #[.slice oka nka cka, .slice okb nkb ckb] 31))) := Up.alloc w4 _
  clear hs
  go_upto_region 9 with (fail)
  have HBk := Lib.hid hb
  clear hb
  generalize w4.alloc (.cells #[.slice oka nka cka, .slice okb nkb ckb] 31) = W5 at HBk HUA ⊢
  obtain ⟨X, hX⟩ : ∃ X, w4.heap.size = X := ⟨_, rfl⟩
  have HXG : Hid (w4.heap.size ≤ X) := Nat.le_of_eq hX
  rw [hX] at HBk ⊢
  clear hX
  obtain ⟨o9, c9, hag, p1, p2⟩ := HOZ1.out.slice
  simp only [Value.slice.injEq] at hag
  obtain ⟨rfl, rfl, rfl⟩ := hag
  unfold maxLen at p2
  obtain ⟨n, hn⟩ : ∃ n, z1.length = n := ⟨_, rfl⟩
  rw [hn] at p1 HOZ1 ⊢
  have HLN := Lib.hid hn
  obtain ⟨N, hN⟩ : ∃ N, min n 60 = N := ⟨_, rfl⟩
  have hmin : ∀ (ts : Array TypeId) (t : TypeId) (W : World), (Builtin.min_ ts t #[.int .i64 (n : Int), .int .i64 60]).run Tryz.prog W = .ok (.int .i64 (N : Int)) W := min_60L n N hN
  have hNn : N ≤ n := by omega
  have hN6 : N ≤ 60 := by omega
  clear hN hn
  obtain ⟨i0, hi', hz0, hz1, hz2⟩ := info_parts opInfoG
  have HI0 := Lib.hid hi'
  have HZ0 := Lib.hid hz0
  have HZ1 := Lib.hid hz1
  have HZ2 := Lib.hid hz2
  clear hi' hz0 hz1 hz2
  have HST5 : Hid (KjLoop S z1 X N w4 (.slice none 0 0) (.int .i64 0) W5) := ⟨0, _, _, Nat.zero_le _, rfl, ⟨HBk.out.row, HBk.out.st, World.ownsRow_nil _ _ _ _, HUA.out⟩⟩
  clear HBk HUA hna hnb
  go_wp2_with fail
  go_loopw [14, 77] (fun out i wr => KjLoop S z1 X N w4 out i wr) (fun _ i _ => N - (intOf i).toNat)
  case atStart => exact HST5.out
  case round =>
    obtain ⟨j, x, y, hjN, rfl, hI⟩ := hrel
    have HI := Lib.hid hI
    obtain ⟨vbx, vvx, hag, hbx, hvx⟩ := hI.st
    simp at hag
    obtain ⟨rfl, rfl⟩ := hag
    obtain ⟨p5, d5, rfl, _⟩ := hbx.slice
    obtain ⟨p6, d6, rfl, _, _⟩ := hvx.slice
    obtain ⟨oo, co, hvo⟩ := own_slice hI.own
    subst hvo
    have HGC := Lib.hid (kept_good (z1.take j) HK.out.good)
    have HLKJ : Hid ((keptFrom FP S (z1.take j)).1.length ≤ 60) := by
      have h9 := kept_len (F := FP) (z1.take j) S
      rw [List.length_take] at h9
      show _ ≤ _
      omega
    have HSNO := Lib.hid (fun hj => kept_snocJ S z1 j hj)
    obtain ⟨⟨KL, cur⟩, hKC⟩ : ∃ r, keptFrom FP S (z1.take j) = r := ⟨_, rfl⟩
    have HKC := Lib.hid hKC
    have HIst := HI.out.st
    have HIow := HI.out.own
    rw [hKC] at HGC HLKJ HSNO HIst HIow hbx hvx
    simp only at HGC HLKJ HSNO HIst HIow hbx hvx
    obtain ⟨L5, hL5⟩ : ∃ L5, cur.b.length = L5 := ⟨_, rfl⟩
    obtain ⟨L6, hL6⟩ : ∃ L6, cur.v.length = L6 := ⟨_, rfl⟩
    obtain ⟨LO, hLO⟩ : ∃ LO, KL.length = LO := ⟨_, rfl⟩
    have hKL1 : (keptFrom FP S (z1.take j)).1.length = LO := by rw [hKC]; exact hLO
    rw [hKL1] at HI ⊢
    rw [hL5, hL6] at HIst
    rw [hLO] at HIow HLKJ
    have HXr : Hid (RowC wr X 31 [.slice p5 L5 d5, .slice p6 L6 d6]) := by
      have h9 := HI.out.row
      rw [hKC] at h9
      simp only at h9
      rw [hL5, hL6] at h9
      exact h9
    have HUr := Lib.hid HI.out.up
    have HSt := Lib.hid HIst
    have HOw := Lib.hid HIow
    have HLO := Lib.hid hLO
    have HL5 := Lib.hid hL5
    have HL6 := Lib.hid hL6
    clear hbx hvx hI HI HIst HIow hKL1 hLO hL5 hL6 hKC
    by_cases hlt : j < N
    · have dz : decide (j < N) = true := decide_eq_true hlt
      have hjl : j < z1.length := by have := HLN.out; omega
      obtain ⟨b, off, rfl, hat⟩ := (HOZ1.out.up HUr.out).at (fun e => by rw [e] at hjl; simp at hjl)
      obtain ⟨e0, e1, e2, e3, e4⟩ := hat j hjl
      have HDO := Lib.hid (fun W (hW : Up wr W) => do_any _ cur z1[j] W (HSt.out.up hW) (good_wf HGC.out) (HOZ1.out.2 z1[j] (List.getElem_mem hjl)))
      have HKS := Lib.hid (HSNO.out hjl)
      obtain ⟨D, hD⟩ : ∃ D, z1[j] = D := ⟨_, rfl⟩
      rw [hD] at HDO HKS e0 e1 e2 e3 e4
      unfold opA StEPost at HDO
      obtain ⟨⟨TS, TE⟩, hR⟩ : ∃ R, doO FP cur D = R := ⟨_, rfl⟩
      rw [hR] at HDO HKS
      simp only at HDO HKS
      have HOC : Hid (opC D = [.int .i64 D.kd, .string (bs D.nm), .string (bs D.to), .int .i64 D.pl, .string (bs D.tx)]) := rfl
      have HO1 := Lib.hid (opC_one D)
      rw [HOC.out] at HO1
      generalize bs D.nm = S1 at e1 HDO HOC HO1
      generalize bs D.to = S2 at e2 HDO HOC HO1
      generalize bs D.tx = S3 at e4 HDO HOC HO1
      generalize D.kd = K1 at e0 HDO HOC HO1
      generalize D.pl = K2 at e3 HDO HOC HO1
      clear hat hR hD HSNO
      go_upto_region 13 with (fail)
      have HUP := Lib.hid (Up.alloc wr (.cells #[.int .i64 K1, .string S1, .string S2, .int .i64 K2, .string S3] 27))
      have HOQ : Hid (RowC (wr.alloc (.cells #[.int .i64 K1, .string S1, .string S2, .int .i64 K2, .string S3] 27)) wr.heap.size 27 [.int .i64 K1, .string S1, .string S2, .int .i64 K2, .string S3]) := heap_alloc_new wr _
      have HLQ : Hid (∀ b, (Value.slice oo LO co).ownBlock = some b → b < wr.heap.size) := fun b hb => (World.ownsRow.lt HOw.out b hb).2
      generalize wr.alloc (.cells #[.int .i64 K1, .string S1, .string S2, .int .i64 K2, .string S3] 27) = WA at HUP HOQ ⊢
      generalize wr.heap.size = Q at HOQ HLQ ⊢
      have HXA := Lib.hid (HXr.out.up HUP.out)
      have x0 := HXA.out.cell (j := 0) rfl
      have x1 := HXA.out.cell (j := 1) rfl
      have y0 := HOQ.out.cell (j := 0) rfl
      have y1 := HOQ.out.cell (j := 1) rfl
      have y2 := HOQ.out.cell (j := 2) rfl
      have y3 := HOQ.out.cell (j := 3) rfl
      have y4 := HOQ.out.cell (j := 4) rfl
      clear e0 e1 e2 e3 e4
      go_wp2_with fail
      refine (HDO.out _ HUP.out).mono ?_
      rintro e w5 ⟨v5, rfl, ho5, u5⟩
      obtain ⟨o7, c7, o8, c8, hv5⟩ := ho5.stat.shape
      subst hv5
      obtain ⟨n7, hn7⟩ : ∃ n7, TS.b.length = n7 := ⟨_, rfl⟩
      obtain ⟨n8, hn8⟩ : ∃ n8, TS.v.length = n8 := ⟨_, rfl⟩
      simp only at ho5 ⊢
      rw [hn7, hn8] at ho5 ⊢
      have ha := Up.alloc w5 (.cells #[.slice o7 n7 c7, .slice o8 n8 c8] 31)
      have HY : Hid (RowC (w5.alloc (.cells #[.slice o7 n7 c7, .slice o8 n8 c8] 31)) w5.heap.size 31 [.slice o7 n7 c7, .slice o8 n8 c8]) := heap_alloc_new w5 _
      have HS6 := Lib.hid (ho5.up ha)
      have HX6 := Lib.hid (HXA.out.up (u5.trans ha))
      have HQ6 := Lib.hid (HOQ.out.up (u5.trans ha))
      have HO6 := Lib.hid (own_upT HOw.out (HUP.out.trans (u5.trans ha)))
      have HU6 := Lib.hid (HUr.out.trans (HUP.out.trans (u5.trans ha)))
      have HUW := Lib.hid (u5.trans ha)
      have HLT : Hid (∀ b, (Value.slice oo LO co).ownBlock = some b → b < WA.heap.size) := fun b hb => Nat.lt_of_lt_of_le (World.ownsRow.lt HOw.out b hb).2 HUP.out.size
      have HYX : Hid (X ≠ w5.heap.size) := Nat.ne_of_lt (Nat.lt_of_lt_of_le HXA.out.lt u5.size)
      clear ho5 u5 ha x0 x1 y0 y1 y2 y3 y4
      go_upto_region 14 with (fail)
      generalize w5.alloc (.cells #[.slice o7 n7 c7, .slice o8 n8 c8] 31) = W6 at HY HS6 HX6 HQ6 HO6 HU6 HUW ⊢
      generalize w5.heap.size = Y at HY HYX ⊢
      by_cases hE : TE = 0
      · subst hE
        have HK2 : Hid (keptFrom FP S (z1.take (j + 1)) = (KL ++ [D], TS)) := by show _ = _; rw [HKS.out, if_pos rfl]
        have y0 := HY.out.cell (j := 0) rfl
        have y1 := HY.out.cell (j := 1) rfl
        have q0 := HQ6.out.cell (j := 0) rfl
        have q1 := HQ6.out.cell (j := 1) rfl
        have q2 := HQ6.out.cell (j := 2) rfl
        have q3 := HQ6.out.cell (j := 3) rfl
        have q4 := HQ6.out.cell (j := 4) rfl
        have z0 := HX6.out.cell (j := 0) rfl
        have z1 := HX6.out.cell (j := 1) rfl
        have z2 := HX6.out.frozen 0
        have z3 := HX6.out.frozen 1
        clear HKS
        go_upto_region 15 with (fail)
        have hlk := HLKJ.out
        have HPK : Hid (PreJ Y Q [.slice o7 n7 c7, .slice o8 n8 c8] [.int .i64 K1, .string S1, .string S2, .int .i64 K2, .string S3] X WA.heap.size w4 (.slice oo KL.length co) (.agg #[.slice o7 n7 c7, .slice o8 n8 c8]) KL TS (.slice p5 L5 d5) (.slice p6 L6 d6) W6) := ⟨HX6.out, HS6.out, by rw [HLO.out]; exact HO6.out, HU6.out, HY.out, HQ6.out⟩
        have HLQ2 : Hid (∀ b, (Value.slice oo KL.length co).ownBlock = some b → b < Q) := by rw [HLO.out]; exact HLQ.out
        have HYX2 : Hid (Y ≠ X) := fun h => HYX.out h.symm
        have HLT2 : Hid (∀ b, (Value.slice oo KL.length co).ownBlock = some b → b < WA.heap.size) := by rw [HLO.out]; exact HLT.out
        have HXB : Hid (X < WA.heap.size) := HXA.out.lt
        have HNX : Hid (W6.heap.size ≠ X) := Nat.ne_of_gt HX6.out.lt
        have hlk9 : KL.length ≤ 60 := by rw [HLO.out]; exact hlk
        have hLO9 := HLO.out
        subst hLO9
        go_region_held_law (fun U => U.cell? ⟨Y, 0, none⟩ = some (.slice o7 n7 c7) ∧ U.cell? ⟨Y, 1, none⟩ = some (.slice o8 n8 c8) ∧ U.cell? ⟨Q, 0, none⟩ = some (.int .i64 K1) ∧ U.cell? ⟨Q, 1, none⟩ = some (.string S1) ∧ U.cell? ⟨Q, 2, none⟩ = some (.string S2) ∧ U.cell? ⟨Q, 3, none⟩ = some (.int .i64 K2) ∧ U.cell? ⟨Q, 4, none⟩ = some (.string S3)) (first | go_keep | (exact (hpk.put HYX2.out HXB.out HXG.out _ _).cells) | (exact ((HPK.out.upW ((Up.drew _).trans (Up.alloc _ _))).put HYX2.out HXB.out HXG.out _ _).cells) | (exact ((HPK.out.upW (Up.drew _)).put HYX2.out HXB.out HXG.out _ _).cells)) (first
          | (refine step_append_lies _ rfl (.tmp 90) (.tmp 92) 22 rfl w4.heap.size 27 i0 (.agg #[.int .i64 0, .string ⟨#[]⟩, .string ⟨#[]⟩, .int .i64 0, .string ⟨#[]⟩]) 5 64 Tryz.underlying22 HI0.out HZ0.out HZ1.out HZ2.out rfl (by decide) (.slice oo KL.length co) KL.length (fl opC KL) (by simp [Act.eval]) (HPK.out.upW ((Up.drew W6).trans (Up.alloc W6.drew (.cells #[.int .i64 K1, .string S1, .string S2, .int .i64 K2, .string S3] 27)))).own ⟨W6.drew.heap.size, 0, none⟩ 1 1 [.int .i64 K1, .string S1, .string S2, .int .i64 K2, .string S3] (by simp [Act.eval]) rfl (row_newG W6.drew [.int .i64 K1, .string S1, .string S2, .int .i64 K2, .string S3] 27) HO1.out (by omega) (by unfold maxLen; omega) (by omega) (HPK.out.upW ((Up.drew W6).trans (Up.alloc W6.drew (.cells #[.int .i64 K1, .string S1, .string S2, .int .i64 K2, .string S3] 27)))).up.size _ rfl ?_; intro gA cA wA hA hgA hatA hltA; have hpk := PreJ.grow (D := D) (HPK.out.upW ((Up.drew W6).trans (Up.alloc W6.drew (.cells #[.int .i64 K1, .string S1, .string S2, .int .i64 K2, .string S3] 27)))) hgA HLT2.out HLQ2.out (by rw [HOC.out]; exact hA); have t0 := hpk.ry.cell (j := 0) rfl; have t1 := hpk.ry.cell (j := 1) rfl; have t2 := hpk.rq.cell (j := 0) rfl; have t3 := hpk.rq.cell (j := 1) rfl; have t4 := hpk.rq.cell (j := 2) rfl; have t5 := hpk.rq.cell (j := 3) rfl; have t6 := hpk.rq.cell (j := 4) rfl; have t7 := hpk.row.frozen 0; have t8 := hpk.row.frozen 1; have t9 := hpk.row.cell (j := 0) rfl; have t10 := hpk.row.cell (j := 1) rfl)
          | (refine step_append_lies _ rfl (.tmp 90) (.tmp 92) 22 rfl w4.heap.size 27 i0 (.agg #[.int .i64 0, .string ⟨#[]⟩, .string ⟨#[]⟩, .int .i64 0, .string ⟨#[]⟩]) 5 64 Tryz.underlying22 HI0.out HZ0.out HZ1.out HZ2.out rfl (by decide) (.slice oo KL.length co) KL.length (fl opC KL) (by simp [Act.eval]) ((HPK.out.upW ((Up.drew W6).trans (Up.alloc W6.drew (.cells #[.int .i64 K1, .string S1, .string S2, .int .i64 K2, .string S3] 27)))).put HYX2.out HXB.out HXG.out (.slice o7 n7 c7) (.slice o8 n8 c8)).own ⟨W6.drew.heap.size, 0, none⟩ 1 1 [.int .i64 K1, .string S1, .string S2, .int .i64 K2, .string S3] (by simp [Act.eval]) rfl (news_put (news_put (row_newG W6.drew [.int .i64 K1, .string S1, .string S2, .int .i64 K2, .string S3] 27) HNX.out) HNX.out) HO1.out (by omega) (by unfold maxLen; omega) (by omega) ((HPK.out.upW ((Up.drew W6).trans (Up.alloc W6.drew (.cells #[.int .i64 K1, .string S1, .string S2, .int .i64 K2, .string S3] 27)))).put HYX2.out HXB.out HXG.out (.slice o7 n7 c7) (.slice o8 n8 c8)).up.size _ rfl ?_; intro gA cA wA hA hgA hatA hltA; have hpk := PreJ.grow (D := D) ((HPK.out.upW ((Up.drew W6).trans (Up.alloc W6.drew (.cells #[.int .i64 K1, .string S1, .string S2, .int .i64 K2, .string S3] 27)))).put HYX2.out HXB.out HXG.out (.slice o7 n7 c7) (.slice o8 n8 c8)) hgA HLT2.out HLQ2.out (by rw [HOC.out]; exact hA); have t0 := hpk.ry.cell (j := 0) rfl; have t1 := hpk.ry.cell (j := 1) rfl; have t2 := hpk.rq.cell (j := 0) rfl; have t3 := hpk.rq.cell (j := 1) rfl; have t4 := hpk.rq.cell (j := 2) rfl; have t5 := hpk.rq.cell (j := 3) rfl; have t6 := hpk.rq.cell (j := 4) rfl; have t7 := hpk.row.frozen 0; have t8 := hpk.row.frozen 1; have t9 := hpk.row.cell (j := 0) rfl; have t10 := hpk.row.cell (j := 1) rfl)
          | (refine step_append_lies _ rfl (.tmp 90) (.tmp 92) 22 rfl w4.heap.size 27 i0 (.agg #[.int .i64 0, .string ⟨#[]⟩, .string ⟨#[]⟩, .int .i64 0, .string ⟨#[]⟩]) 5 64 Tryz.underlying22 HI0.out HZ0.out HZ1.out HZ2.out rfl (by decide) (.slice oo KL.length co) KL.length (fl opC KL) (by simp [Act.eval]) (((HPK.out.upW (Up.drew W6)).put HYX2.out HXB.out HXG.out (.slice o7 n7 c7) (.slice o8 n8 c8)).upW (Up.alloc _ (.cells #[.int .i64 K1, .string S1, .string S2, .int .i64 K2, .string S3] 27))).own ⟨((W6.drew.setCell ⟨X, 0, none⟩ (.slice o7 n7 c7)).setCell ⟨X, 1, none⟩ (.slice o8 n8 c8)).heap.size, 0, none⟩ 1 1 [.int .i64 K1, .string S1, .string S2, .int .i64 K2, .string S3] (by simp [Act.eval]) rfl (row_newG ((W6.drew.setCell ⟨X, 0, none⟩ (.slice o7 n7 c7)).setCell ⟨X, 1, none⟩ (.slice o8 n8 c8)) [.int .i64 K1, .string S1, .string S2, .int .i64 K2, .string S3] 27) HO1.out (by omega) (by unfold maxLen; omega) (by omega) (((HPK.out.upW (Up.drew W6)).put HYX2.out HXB.out HXG.out (.slice o7 n7 c7) (.slice o8 n8 c8)).upW (Up.alloc _ (.cells #[.int .i64 K1, .string S1, .string S2, .int .i64 K2, .string S3] 27))).up.size _ rfl ?_; intro gA cA wA hA hgA hatA hltA; have hpk := PreJ.grow (D := D) (((HPK.out.upW (Up.drew W6)).put HYX2.out HXB.out HXG.out (.slice o7 n7 c7) (.slice o8 n8 c8)).upW (Up.alloc _ (.cells #[.int .i64 K1, .string S1, .string S2, .int .i64 K2, .string S3] 27))) hgA HLT2.out HLQ2.out (by rw [HOC.out]; exact hA); have t0 := hpk.ry.cell (j := 0) rfl; have t1 := hpk.ry.cell (j := 1) rfl; have t2 := hpk.rq.cell (j := 0) rfl; have t3 := hpk.rq.cell (j := 1) rfl; have t4 := hpk.rq.cell (j := 2) rfl; have t5 := hpk.rq.cell (j := 3) rfl; have t6 := hpk.rq.cell (j := 4) rfl; have t7 := hpk.row.frozen 0; have t8 := hpk.row.frozen 1; have t9 := hpk.row.cell (j := 0) rfl; have t10 := hpk.row.cell (j := 1) rfl))
        all_goals
          go_wp2_with fail
          go_roundw
          case rel => first
            | exact ⟨j + 1, _, _, by omega, by go_num, KjI.of hpk HK2.out⟩
            | exact ⟨j + 1, _, _, by omega, by go_num, KjI.of (hpk.put HYX2.out HXB.out HXG.out (.slice o7 n7 c7) (.slice o8 n8 c8)) HK2.out⟩
          case measure => simp only [intOf]; omega
      · have he : (TE == 0) = false := by rw [beq_eq_false_iff_ne]; exact hE
        have HK2 : Hid (keptFrom FP S (z1.take (j + 1)) = (KL, cur)) := by show _ = _; rw [HKS.out, if_neg hE]
        clear hE HKS
        go_wp2_with fail
        go_roundw
        case rel => exact ⟨j + 1, _, _, by omega, by go_num, ⟨HX6.out, by rw [HK2.out]; exact HSt.out.up (HUP.out.trans HUW.out), by rw [HK2.out]; simp only; rw [HLO.out]; exact HO6.out, HU6.out⟩⟩
        case measure => simp only [intOf]; omega
    · have dz : decide (j < N) = false := decide_eq_false hlt
      have hjN2 : j = N := by omega
      subst hjN2
      have HR2 : Hid (runs FP S KL cur) := by
        have h9 := kept_runs (F := FP) (z1.take j) S
        rw [HKC.out] at h9
        exact h9
      have HCL : Hid (∀ o ∈ KL, chkO o = 0) := runs_chk _ HR2.out
      have HRA := Lib.hid (runs_append _ _ HK.out.runs HR2.out)
      have hkl := HK.out.len
      have hlk := HLK.out
      have hll := HLKJ.out
      have hlo := HLO.out
      have HAL : Hid ((K ++ KL).length ≤ 200) := by show _ ≤ _; rw [List.length_append]; omega
      have HAC : Hid (∀ o ∈ K ++ KL, chkO o = 0) := runs_chk _ HRA.out
      have HRP := Lib.hid (replay_log frames1 HRA.out HAL.out)
      have HGS := Lib.hid (logG_append (frm 1) K KL)
      have HG1 : Hid ((logG (frm 1) K).length ≤ 6000) := HK.out.log
      have HG2 : Hid ((logG (frm 1) KL).length ≤ 6000) := by have h9 := logG_len KL HCL.out; show _ ≤ _; omega
      rw [HGS.out, List.length_append, hlk, hlo] at HRP
      have HOB : Hid (Ops wr (.slice oo LO co) KL) := ⟨by have h9 := Sl.of_own HOw.out; rw [HLO.out]; exact h9, fun o ho => chk_wf (HCL.out o ho)⟩
      have HOA := Lib.hid (HOK.out.up HUr.out)
      have HUW := Lib.hid (HU.out.trans HUr.out)
      have hbx : BoxS wr X cur p5 L5 d5 p6 L6 d6 := ⟨HXr.out, HSt.out, HL5.out, HL6.out⟩
      have HBX := Lib.hid hbx
      clear hbx HXr HSt HOw HUr HOK HU HSNO hlt hjN
      have HLG := Lib.hid (log_ok _ K wr HOA.out HK.out.chk (by omega))
      go_wp2_with fail
      refine HLG.out.mono ?_
      clear HLG
      rintro e w6 ⟨rfl, hu⟩
      replace HOA := Lib.hid (HOA.out.up hu)
      replace HOB := Lib.hid (HOB.out.up hu)
      replace HBX := Lib.hid (HBX.out.up hu)
      replace HUW := Lib.hid (HUW.out.trans hu)
      clear hu
      have HLG := Lib.hid (log_ok _ KL w6 HOB.out HCL.out (by omega))
      go_wp2_with fail
      refine HLG.out.mono ?_
      clear HLG
      rintro e w7 ⟨rfl, hu⟩
      replace HOA := Lib.hid (HOA.out.up hu)
      replace HOB := Lib.hid (HOB.out.up hu)
      replace HBX := Lib.hid (HBX.out.up hu)
      replace HUW := Lib.hid (HUW.out.trans hu)
      clear hu
      go_upto_region 19 with (fail)
      have hxc : RowC (w7.alloc (.cells #[.slice ok LK ck, .slice oo LO co] 22)) w7.heap.size 22 [.slice ok LK ck, .slice oo LO co] := heap_alloc_new w7 _
      have HCN := Lib.hid (concat_anyP w7.heap.size ok oo LK ck LO co K KL (w7.alloc (.cells #[.slice ok LK ck, .slice oo LO co] 22)) (Sl.up HOA.out.1 (Up.alloc _ _)) (Sl.up HOB.out.1 (Up.alloc _ _)) (hxc.cell (j := 0) rfl) (hxc.cell (j := 1) rfl) (by omega) (fl_one opC_one K) (fl_one opC_one KL))
      clear hxc
      unfold CatPostP at HCN
      go_wp2_with fail
      refine HCN.out.mono ?_
      clear HCN
      rintro e w8 ⟨v8, rfl, hs8, hu8⟩
      have HO8 : Hid (Ops w8 v8 (K ++ KL)) := ⟨hs8, fun o ho => chk_wf (HAC.out o ho)⟩
      have hu := (Up.alloc w7 (.cells #[.slice ok LK ck, .slice oo LO co] 22)).trans hu8
      replace HBX := Lib.hid (HBX.out.up hu)
      replace HUW := Lib.hid (HUW.out.trans hu)
      clear hu hu8 hs8 HOA HOB
      have HLG := Lib.hid (log_ok _ (K ++ KL) w8 HO8.out HAC.out HAL.out)
      rw [HGS.out] at HLG
      generalize logG (frm 1) K = G1 at HLG HRP HG1 ⊢
      generalize logG (frm 1) KL = G2 at HLG HRP HG2 ⊢
      have hadd := add_bs G1 G2 (by have := HG1.out; have := HG2.out; omega)
      have HG3 : Hid ((G1 ++ G2).length ≤ 20000) := by show _ ≤ _; rw [List.length_append]; have := HG1.out; have := HG2.out; omega
      generalize G1 ++ G2 = G3 at HLG HRP HG3 hadd
      go_wp2_with fail
      refine HLG.out.mono ?_
      clear HLG
      rintro e w9 ⟨rfl, hu⟩
      replace HBX := Lib.hid (HBX.out.up hu)
      replace HUW := Lib.hid (HUW.out.trans hu)
      clear hu
      have HC := Lib.hid (replay_is w9 (by have := HG3.out; omega) HRP.out)
      unfold RpO at HC
      go_wp2_with fail
      refine HC.out.mono ?_
      clear HC
      rintro e w10 ⟨oq, cq, or, cr, rfl, hs, hu⟩
      rw [HL5.out, HL6.out] at hs ⊢
      have hb := BoxS.new hs HL5.out HL6.out
      have hv := hu.trans (Up.alloc w10 (.cells #[.slice oq L5 cq, .slice or L6 cr] 31))
      clear hu hs
      go_upto_region 21 with (fail)
      replace HBX := Lib.hid (HBX.out.up hv)
      replace HUW := Lib.hid (HUW.out.trans hv)
      clear hv
      have HBQ := Lib.hid hb
      clear hb
      generalize w10.alloc (.cells #[.slice oq L5 cq, .slice or L6 cr] 31) = W11 at HBX HBQ HUW ⊢
      generalize w10.heap.size = XQ at HBQ ⊢
      have HSM := Lib.hid (same_yes _ _ cur W11 HBQ.out.st HBX.out.st)
      have k0 := HBQ.out.k0
      have k1 := HBQ.out.k1
      have k2 := HBX.out.k0
      have k3 := HBX.out.k1
      go_wp2_with fail
      refine HSM.out.mono ?_
      rintro e wz ⟨rfl, hu⟩
      have HUZ := Lib.hid (HUW.out.trans hu)
      clear hu k0 k1 k2 k3
      go_wp2_with fail
      go_ret
      exact ⟨rfl, HUZ.out⟩

end Go.Proofs.YtkkecgamaahniaaGreat
