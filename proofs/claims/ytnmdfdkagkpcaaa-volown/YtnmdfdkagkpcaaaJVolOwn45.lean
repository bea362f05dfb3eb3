/-
  What the laws' begun, made, pick and texts return. Conditions: as each says.
-/
import Derived.Test.YtnmdfdkagkpcaaaJVolOwn41
import Derived.Test.YtnmdfdkagkpcaaaJVolOwn21
import Derived.Test.YtnmdfdkagkpcaaaJVolOwn25
import Derived.Test.YtnmdfdkagkpcaaaJVolOwn04
import Derived.Test.YtnmdfdkagkpcaaaJVolOwn44
import Derived.Deep.AppendLies
import Derived.BigQuiet
namespace Go.Proofs.Ytnmdfdkagkpcaaa
open Go.RowKit
open Go.Proofs
open WoolBag
open WoolVol

set_option maxRecDepth 100000 in
set_option maxHeartbeats 2000000 in
theorem begun_any (w : World) : Calls Try.prog 6 #[] w fun e w' => e = .returned (.bool true) ∧ Up w w' := by
  obtain ⟨s1, s2, hm, g1, hl1, hw, g2, hr, hb2⟩ := begun_plain (F := FP)
  have HMK := Lib.hid (fun W => make_any zeroV zeroS [97] 2 W (Stat.zero W) (good_wf zero_good) (by simp))
  have HWR := Lib.hid (fun v W (h : Stat W v s1) => write_any v s1 [97] [120] 1 W h (good_wf g1))
  have HRD := Lib.hid (fun v W (h : Stat W v s2) => read_any v s2 [97] 1 W h (good_wf g2))
  have HAA : bs [97] = ⟨#[97]⟩ := rfl
  have HXX : bs [120] = ⟨#[120]⟩ := rfl
  unfold RdEPost zeroV at HMK
  unfold StEPost at HWR
  unfold readVR at HRD
  rw [hm, HAA] at HMK
  rw [hw, HAA, HXX] at HWR
  rw [hr, HAA] at HRD
  simp only [HXX] at HRD
  have hxx : ((⟨#[120]⟩ : ByteArray).toList == (⟨#[120]⟩ : ByteArray).toList) = true := by simp
  clear hm hw hr HAA HXX
  go_enter Try.func6, Try.ntmps6
  go_wp2_with fail
  refine (HMK.out _).mono ?_
  rintro e w1 ⟨v1, rfl, hs1, u1⟩
  obtain ⟨o1, c1, o2, c2, hv⟩ := hs1.shape
  subst hv
  simp only at hs1 ⊢
  obtain ⟨n1, hn1⟩ : ∃ n, s1.b.length = n := ⟨_, rfl⟩
  rw [hn1, hl1] at hs1 ⊢
  go_upto_region 2 with (fail)
  have HX : Hid (RowC (w1.alloc (.cells #[.slice o1 n1 c1, .slice o2 1 c2] 31)) w1.heap.size 31 [.slice o1 n1 c1, .slice o2 1 c2]) := heap_alloc_new w1 _
  have HU := Lib.hid (u1.trans (Up.alloc w1 (.cells #[.slice o1 n1 c1, .slice o2 1 c2] 31)))
  have HS := Lib.hid (hs1.up (Up.alloc w1 (.cells #[.slice o1 n1 c1, .slice o2 1 c2] 31)))
  have HXW : Hid (w.heap.size ≤ w1.heap.size) := u1.size
  generalize w1.alloc (.cells #[.slice o1 n1 c1, .slice o2 1 c2] 31) = W1 at HX HU HS ⊢
  generalize w1.heap.size = X at HX HXW ⊢
  have k0 := HX.out.cell (j := 0) rfl
  have k1 := HX.out.cell (j := 1) rfl
  clear hs1 u1 hn1
  go_wp2_with fail
  refine (HWR.out _ _ HS.out).mono ?_
  rintro e w2 ⟨v2, rfl, ho2, u2⟩
  have hs2 := ho2.stat
  obtain ⟨o3, c3, o4, c4, hv⟩ := hs2.shape
  subst hv
  simp only at hs2 ⊢
  obtain ⟨n4, hn4⟩ : ∃ n, s2.v.length = n := ⟨_, rfl⟩
  rw [hb2, hn4] at hs2 ⊢
  have HX2 := Lib.hid (HX.out.up u2)
  have HU2 := Lib.hid (HU.out.trans u2)
  have HX3 := Lib.hid ((HX2.out.set 0 (.slice o3 1 c3)).set 1 (.slice o4 n4 c4))
  have HS3 := Lib.hid (Stat.boxed (x := .slice o3 1 c3) (y := .slice o4 n4 c4) hs2 HX2.out rfl rfl rfl)
  have HU3 := Lib.hid (up2 (x := .slice o3 1 c3) (y := .slice o4 n4 c4) HU2.out HXW.out)
  have r0 := HX2.out.frozen 0
  have r1 := HX2.out.frozen 1
  have r2 := HX2.out.cell (j := 0) rfl
  have r3 := HX2.out.cell (j := 1) rfl
  clear ho2 u2 hn4 k0 k1 hs2
  go_upto_region 5 with (fail)
  generalize (w2.setCell ⟨X, 0, none⟩ (.slice o3 1 c3)).setCell ⟨X, 1, none⟩ (.slice o4 n4 c4) = W3 at HX3 HS3 HU3 ⊢
  clear r0 r1 r2 r3
  have k0 := HX3.out.cell (j := 0) rfl
  have k1 := HX3.out.cell (j := 1) rfl
  go_wp2_with fail
  refine (HRD.out _ _ HS3.out).mono ?_
  rintro e w4 ⟨rfl, u4⟩
  have HX4 := Lib.hid (HX3.out.up u4)
  have HU4 := Lib.hid (HU3.out.trans u4)
  clear k0 k1 u4
  have k0 := HX4.out.cell (j := 0) rfl
  have k1 := HX4.out.cell (j := 1) rfl
  go_wp2_with fail
  go_ret
  exact ⟨rfl, HU4.out⟩

/-- some name -/
def PickPost (w : World) (e : Ending) (w' : World) : Prop := ∃ nm : List UInt8, nm.length ≤ 9223372036854775807 ∧ e = .returned (.string (bs nm)) ∧ Up w w'

set_option maxRecDepth 100000 in
set_option maxHeartbeats 2000000 in
theorem pick_any (v : Value) (st : Sta) (k : Int) (w : World) (h : Stat w v st) (hwf : WfS st) (h6 : st.v.length ≤ 6) : Calls Try.prog 9 #[v, .int .i64 k] w (PickPost w) := by
  obtain ⟨vb, vv, rfl, hb, hv⟩ := h
  obtain ⟨oB, cB, rfl, _⟩ := hb.slice
  obtain ⟨oV, cV, rfl, p1, p2⟩ := hv.slice
  have HV := Lib.hid hv
  unfold maxLen at p2
  obtain ⟨n, hn⟩ : ∃ n, st.v.length = n := ⟨_, rfl⟩
  obtain ⟨m, hm⟩ : ∃ m, st.b.length = m := ⟨_, rfl⟩
  rw [hn] at HV p1 h6 ⊢
  rw [hm]
  clear hb hv hm
  have HX : Hid (RowC (w.alloc (.cells #[.slice oB m cB, .slice oV n cV] 31)) w.heap.size 31 [.slice oB m cB, .slice oV n cV]) := heap_alloc_new w _
  have HU := Lib.hid (Up.alloc w (.cells #[.slice oB m cB, .slice oV n cV] 31))
  go_enter Try.func9, Try.ntmps9
  go_upto_region 1 with (fail)
  generalize w.alloc (.cells #[.slice oB m cB, .slice oV n cV] 31) = W1 at HX HU ⊢
  generalize w.heap.size = X at HX ⊢
  have k0 := HX.out.cell (j := 0) rfl
  have k1 := HX.out.cell (j := 1) rfl
  by_cases h0 : n = 0
  · subst h0
    go_wp2_with fail
    go_ret
    exact ⟨[110, 111, 110, 101], by simp, rfl, HU.out⟩
  · have d0 : ((n : Int) == 0) = false := by rw [beq_eq_false_iff_ne]; omega
    have hlt : within k n < n := within_lt k n (by omega)
    have HW := Lib.hid (fun W => within_any k (n : Int) W (by omega) (by omega))
    rw [Int.toNat_natCast] at HW
    obtain ⟨q, hq⟩ : ∃ q, within k n = q := ⟨_, rfl⟩
    rw [hq] at HW hlt
    obtain ⟨b, off, rfl, hat⟩ := (HV.out.up HU.out).at (fun e => by rw [e] at hn; simp at hn; omega)
    obtain ⟨e1, u, e2, e3⟩ := hat q (by omega)
    clear e2 e3
    have HN := Lib.hid ((hwf st.v[q] (List.getElem_mem (by omega))).2)
    generalize st.v[q].nm = S at e1 HN
    have q0 : (0 : Int) ≤ (q : Int) := by omega
    have q1 : (q : Int) < (n : Int) := by omega
    clear hat hq h0 hwf hn
    go_wp2_with fail
    go_quiet ((go_at_call 32; exact Calls.quiet_of_same ((HW.out _).mono fun _ _ h => ⟨h.1, h.2.symm⟩)))
    go_wp2_with fail
    go_ret
    exact ⟨S, HN.out, rfl, HU.out.trans (Up.drewN _ _)⟩

/-- a state by the first deeds of a row -/
structure MdI (l : List Opn) (R X : Nat) (w : World) (j : Nat) (cur : Sta) (x y : Value) (wr : World) : Prop where
  row : RowC wr X 31 [x, y]
  box : RowC wr R 31 [.slice none 0 0, .slice none 0 0]
  st : Stat wr (.agg #[x, y]) cur
  eq : cur = deeds FP zeroS (l.take j)
  good : WoolVol.Good FP cur
  up : Up w wr

def MdLoop (l : List Opn) (R X N : Nat) (w : World) (i : Value) (wr : World) : Prop :=
  ∃ j cur x y, j ≤ N ∧ i = .int .i64 ((j : Nat) : Int) ∧ MdI l R X w j cur x y wr

def MadePost (st : Sta) (w : World) (e : Ending) (w' : World) : Prop := ∃ v', e = .returned v' ∧ Stat w' v' st ∧ Up w w'

theorem deeds_snoc (st : Sta) (l : List Opn) (j : Nat) (hj : j < l.length) : deeds FP st (l.take (j + 1)) = stepO FP (deeds FP st (l.take j)) l[j] := by
  unfold deeds
  rw [List.take_add_one, List.getElem?_eq_getElem hj, List.foldl_append]
  rfl

theorem made_take (l : List Opn) : madeO FP l = deeds FP zeroS (l.take (min l.length 60)) := by
  unfold madeO
  congr 1
  rcases Nat.le_total l.length 60 with h | h
  · rw [Nat.min_eq_left h, List.take_of_length_le h, List.take_length]
  · rw [Nat.min_eq_right h]

set_option maxRecDepth 100000 in
set_option maxHeartbeats 2000000 in
theorem made_any (v : Value) (l : List Opn) (w : World) (h : Ops w v l) : Calls Try.prog 8 #[v] w (MadePost (madeO FP l) w) := by
  rw [made_take]
  have HOP := Lib.hid h
  obtain ⟨o, c, rfl, p1, p2⟩ := h.slice
  unfold maxLen at p2
  obtain ⟨n, hn⟩ : ∃ n, l.length = n := ⟨_, rfl⟩
  rw [hn] at p1 HOP ⊢
  have HLN := Lib.hid hn
  obtain ⟨N, hN⟩ : ∃ N, min n 60 = N := ⟨_, rfl⟩
  rw [hN]
  have hmin : ∀ (ts : Array TypeId) (t : TypeId) (W : World), (Builtin.min_ ts t #[.int .i64 (n : Int), .int .i64 60]).run Try.prog W = .ok (.int .i64 (N : Int)) W := by
    intro ts t W
    simp [Builtin.min_, Builtin.min2]
    omega
  have hNn : N ≤ n := by omega
  have hN6 : N ≤ 60 := by omega
  have HNN := Lib.hid hNn
  clear hN hn h
  have HX : Hid (RowC ((w.alloc (.cells #[.slice none 0 0, .slice none 0 0] 31)).alloc (.cells #[.slice none 0 0, .slice none 0 0] 31)) (w.heap.size + 1) 31 [.slice none 0 0, .slice none 0 0]) := box_new w _ _ _ _
  have HR : Hid (RowC ((w.alloc (.cells #[.slice none 0 0, .slice none 0 0] 31)).alloc (.cells #[.slice none 0 0, .slice none 0 0] 31)) w.heap.size 31 [.slice none 0 0, .slice none 0 0]) := RowC.up (rowN_at [.slice none 0 0, .slice none 0 0] _ rfl) (Up.alloc _ _)
  have HW0 : Hid (Up w ((w.alloc (.cells #[.slice none 0 0, .slice none 0 0] 31)).alloc (.cells #[.slice none 0 0, .slice none 0 0] 31))) := (Up.alloc _ _).trans (Up.alloc _ _)
  go_enter Try.func8, Try.ntmps8
  go_upto_region 2 with (fail)
  generalize (w.alloc (.cells #[.slice none 0 0, .slice none 0 0] 31)).alloc (.cells #[.slice none 0 0, .slice none 0 0] 31) = W0 at HX HR HW0 ⊢
  obtain ⟨X, hX⟩ : ∃ X, w.heap.size + 1 = X := ⟨_, rfl⟩
  have HXW : Hid (X = w.heap.size + 1) := hX.symm
  rw [hX] at HX ⊢
  obtain ⟨R, hR⟩ : ∃ R, w.heap.size = R := ⟨_, rfl⟩
  have HRW : Hid (R = w.heap.size) := hR.symm
  rw [hR] at HR ⊢
  clear hX hR
  have HRX : Hid (R ≠ X) := by have h1 := HXW.out; have h2 := HRW.out; show R ≠ X; omega
  have HXG : Hid (w.heap.size ≤ X) := by have h1 := HXW.out; show w.heap.size ≤ X; omega
  have HRG : Hid (w.heap.size ≤ R) := by have h1 := HRW.out; show w.heap.size ≤ R; omega
  have HST5 : Hid (MdLoop l R X N w (.int .i64 0) W0) := ⟨0, zeroS, _, _, Nat.zero_le _, rfl, ⟨HX.out, HR.out, Stat.zero _, rfl, zero_good, HW0.out⟩⟩
  clear HX HR HW0
  go_wp2_with fail
  go_loopw [14] (fun i wr => MdLoop l R X N w i wr) (fun i _ => N - (intOf i).toNat)
  case atStart => exact HST5.out
  case round =>
    obtain ⟨j, cur, x, y, hjN, rfl, hI⟩ := hrel
    have HI := Lib.hid hI
    obtain ⟨vbx, vvx, hag, hbx, hvx⟩ := hI.st
    simp at hag
    obtain ⟨rfl, rfl⟩ := hag
    obtain ⟨p5, d5, rfl, _⟩ := hbx.slice
    obtain ⟨p6, d6, rfl, _, _⟩ := hvx.slice
    obtain ⟨L5, hL5⟩ : ∃ L5, cur.b.length = L5 := ⟨_, rfl⟩
    obtain ⟨L6, hL6⟩ : ∃ L6, cur.v.length = L6 := ⟨_, rfl⟩
    rw [hL5, hL6] at HI
    have x0 := HI.out.row.cell (j := 0) rfl
    have x1 := HI.out.row.cell (j := 1) rfl
    clear hbx hvx hI hL5 hL6
    by_cases hlt : j < N
    · have dz : decide (j < N) = true := decide_eq_true hlt
      have hjl : j < l.length := by have := HLN.out; omega
      obtain ⟨b, off, rfl, hat⟩ := (HOP.out.up HI.out.up).at (fun e => by rw [e] at hjl; simp at hjl)
      obtain ⟨e0, e1, e2, e3, e4⟩ := hat j hjl
      have HDO := Lib.hid (fun W (hW : Up wr W) => do_any _ cur l[j] W (HI.out.st.up hW) (good_wf HI.out.good) (HOP.out.2 l[j] (List.getElem_mem hjl)))
      have HST := Lib.hid (deeds_snoc zeroS l j hjl)
      rw [← HI.out.eq] at HST
      have HGD := Lib.hid (stepO_good HI.out.good l[j])
      unfold opA StEPost at HDO
      unfold stepO at HST HGD
      obtain ⟨⟨TS, TE⟩, hR⟩ : ∃ R, doO FP cur l[j] = R := ⟨_, rfl⟩
      rw [hR] at HDO HST HGD
      simp only at HDO HST HGD
      generalize bs l[j].nm = S1 at e1 HDO
      generalize bs l[j].to = S2 at e2 HDO
      generalize bs l[j].tx = S3 at e4 HDO
      generalize l[j].kd = K1 at e0 HDO
      generalize l[j].pl = K2 at e3 HDO
      clear hat hR x0 x1
      go_upto_region 5 with (fail)
      have HUP := Lib.hid (Up.alloc wr (.cells #[.int .i64 K1, .string S1, .string S2, .int .i64 K2, .string S3] 44))
      have HOQ : Hid (RowC (wr.alloc (.cells #[.int .i64 K1, .string S1, .string S2, .int .i64 K2, .string S3] 44)) wr.heap.size 44 [.int .i64 K1, .string S1, .string S2, .int .i64 K2, .string S3]) := heap_alloc_new wr _
      generalize wr.alloc (.cells #[.int .i64 K1, .string S1, .string S2, .int .i64 K2, .string S3] 44) = WA at HUP HOQ ⊢
      generalize wr.heap.size = Q at HOQ ⊢
      have HXA := Lib.hid (HI.out.row.up HUP.out)
      have x0 := HXA.out.cell (j := 0) rfl
      have x1 := HXA.out.cell (j := 1) rfl
      have y0 := HOQ.out.cell (j := 0) rfl
      have y1 := HOQ.out.cell (j := 1) rfl
      have y2 := HOQ.out.cell (j := 2) rfl
      have y3 := HOQ.out.cell (j := 3) rfl
      have y4 := HOQ.out.cell (j := 4) rfl
      clear e0 e1 e2 e3 e4
      go_wp2_with fail
      refine (HDO.out _ HUP.out).mono ?_
      rintro e w5 ⟨v5, rfl, ho5, u5⟩
      have hs5 := ho5.stat
      obtain ⟨o7, c7, o8, c8, hv5⟩ := hs5.shape
      subst hv5
      simp only at hs5 ⊢
      obtain ⟨n7, hn7⟩ : ∃ n7, TS.b.length = n7 := ⟨_, rfl⟩
      obtain ⟨n8, hn8⟩ : ∃ n8, TS.v.length = n8 := ⟨_, rfl⟩
      rw [hn7, hn8] at hs5 ⊢
      have hu5 := HUP.out.trans u5
      have HY : Hid (RowC (w5.alloc (.cells #[.slice o7 n7 c7, .slice o8 n8 c8] 31)) w5.heap.size 31 [.slice o7 n7 c7, .slice o8 n8 c8]) := heap_alloc_new w5 _
      have HU6 := Lib.hid (hu5.trans (Up.alloc w5 (.cells #[.slice o7 n7 c7, .slice o8 n8 c8] 31)))
      have HS6 := Lib.hid (hs5.up (Up.alloc w5 (.cells #[.slice o7 n7 c7, .slice o8 n8 c8] 31)))
      have HX6 := Lib.hid (HI.out.row.up HU6.out)
      have HR6 := Lib.hid (HI.out.box.up HU6.out)
      have HUW := Lib.hid (HI.out.up.trans HU6.out)
      clear ho5 u5 hu5 hs5 x0 x1 y0 y1 y2 y3 y4 hn7 hn8
      go_upto_region 6 with (fail)
      generalize w5.alloc (.cells #[.slice o7 n7 c7, .slice o8 n8 c8] 31) = W6 at HY HU6 HS6 HX6 HR6 HUW ⊢
      generalize w5.heap.size = Y at HY ⊢
      by_cases hE : TE = 0
      · subst hE
        rw [if_pos rfl] at HST HGD
        have y0 := HY.out.cell (j := 0) rfl
        have y1 := HY.out.cell (j := 1) rfl
        have z0 := HX6.out.cell (j := 0) rfl
        have z1 := HX6.out.cell (j := 1) rfl
        have z2 := HX6.out.frozen 0
        have z3 := HX6.out.frozen 1
        go_wp2_with fail
        go_roundw
        case rel => exact ⟨j + 1, TS, _, _, by omega, by go_num, ⟨(HX6.out.set 0 _).set 1 _, (HR6.out.other HRX.out 0 _).other HRX.out 1 _, Stat.boxed HS6.out HX6.out rfl rfl rfl, HST.out.symm, HGD.out, up2 HUW.out HXG.out⟩⟩
        case measure => simp only [intOf]; omega
      · have he : (TE == 0) = false := by rw [beq_eq_false_iff_ne]; exact hE
        rw [if_neg hE] at HST HGD
        clear hE
        go_wp2_with fail
        go_roundw
        case rel => exact ⟨j + 1, cur, _, _, by omega, by go_num, ⟨HX6.out, HR6.out, HI.out.st.up HU6.out, HST.out.symm, HI.out.good, HUW.out⟩⟩
        case measure => simp only [intOf]; omega
    · have dz : decide (j < N) = false := decide_eq_false hlt
      have hjN2 : j = N := by omega
      subst hjN2
      have r0 := HI.out.box.frozen 0
      have r1 := HI.out.box.frozen 1
      have r2 := HI.out.box.cell (j := 0) rfl
      have r3 := HI.out.box.cell (j := 1) rfl
      have HEQ := Lib.hid HI.out.eq
      clear hlt hjN
      go_wp2_with fail
      have hz := (HI.out.box.set 0 (.slice p5 L5 d5)).set 1 (.slice p6 L6 d6)
      have z0 := hz.cell (j := 0) rfl
      have z1 := hz.cell (j := 1) rfl
      have HSZ := Lib.hid (Stat.boxed (x := .slice p5 L5 d5) (y := .slice p6 L6 d6) HI.out.st HI.out.box rfl rfl rfl)
      have HUZ := Lib.hid (up2 (x := .slice p5 L5 d5) (y := .slice p6 L6 d6) HI.out.up HRG.out)
      generalize (wr.setCell ⟨R, 0, none⟩ (.slice p5 L5 d5)).setCell ⟨R, 1, none⟩ (.slice p6 L6 d6) = WZ at z0 z1 HSZ HUZ ⊢
      exact bodyPost_ret (v := .agg #[.slice p5 L5 d5, .slice p6 L6 d6]) (by simp [results, Try.results8, go_sem, z0, z1]) rfl ⟨_, rfl, by rw [← HEQ.out]; exact HSZ.out, HUZ.out⟩

/-- the blocks of a volume that can be read -/
def TextsPost (l : List (List UInt8)) (w : World) (e : Ending) (w' : World) : Prop := ∃ v', e = .returned v' ∧ Txs w' v' l ∧ Up w w'

def TextsRel (st : Sta) (k q : Nat) (base : Nat) (w : World) (out i : Value) (wr : World) : Prop :=
  ∃ j : Nat, i = .int .i64 (j : Int) ∧ j ≤ q ∧ wr.ownsRow base 9 1 out j (fl txC (rdG st k j)) ∧ Up w wr

theorem strInfoG : (Try.prog.info? 9).map (fun i => (i.zero, i.size, i.bytes)) = some (some (.string ⟨#[]⟩), 1, 16) := by kernel_rfl

set_option maxRecDepth 100000 in
set_option maxHeartbeats 2000000 in
theorem texts_any (v : Value) (st : Sta) (s : List UInt8) (w : World) (h : Stat w v st) (g : WoolVol.Good FP st) : Calls Try.prog 12 #[v, .string (bs s)] w (TextsPost (textsG FP st s) w) := by
  have HBL := Lib.hid (fun W (hW : Up w W) => blocks_any v st s W (h.up hW) (good_wf g))
  have HRD := Lib.hid (fun (a : Int) W (hW : Up w W) => read_any v st s a W (h.up hW) (good_wf g))
  obtain ⟨TT, hTT⟩ : ∃ T, textsG FP st s = T := ⟨_, rfl⟩
  rw [hTT]
  obtain ⟨vb, vv, rfl, hb, hv⟩ := h
  obtain ⟨oB, cB, rfl, _⟩ := hb.slice
  obtain ⟨oV, cV, rfl, p1, p2⟩ := hv.slice
  clear hb hv p1 p2
  have HC : Hid ((blocks FP st s = ([], 4) ∧ TT = []) ∨ ∃ k, ∃ hk : k < st.v.length, blocks FP st s = (st.v[k].bl, 0) ∧ TT = rdG st k st.v[k].bl.length ∧ st.v[k].bl.length ≤ 32 ∧ ∀ i, i < st.v[k].bl.length → WoolVol.read FP st s (i : Int) = ((txAt st k i).getD [], 0)) := by
    show _ ∨ _
    subst hTT
    cases hx : vix (nmB s) st.v with
    | none => exact .inl ⟨blocks_miss g hx, textsG_miss g hx⟩
    | some k =>
      obtain ⟨hk, _⟩ := vix_name hx
      exact .inr ⟨k, hk, blocks_of g hk hx, textsG_of g hk hx, (g.vol _ (List.getElem_mem hk)).2.1, fun i hi => read_of g hk hx hi⟩
  obtain ⟨n, hn⟩ : ∃ n, st.v.length = n := ⟨_, rfl⟩
  obtain ⟨m, hm⟩ : ∃ m, st.b.length = m := ⟨_, rfl⟩
  rw [hn, hm] at HBL HRD ⊢
  have HX : Hid (RowC (w.alloc (.cells #[.slice oB m cB, .slice oV n cV] 31)) w.heap.size 31 [.slice oB m cB, .slice oV n cV]) := heap_alloc_new w _
  have HU := Lib.hid (Up.alloc w (.cells #[.slice oB m cB, .slice oV n cV] 31))
  clear hm hn g hTT
  unfold BlPost at HBL
  unfold readVR at HRD
  go_enter Try.func12, Try.ntmps12
  go_upto_region 1 with (fail)
  generalize w.alloc (.cells #[.slice oB m cB, .slice oV n cV] 31) = W1 at HX HU ⊢
  generalize w.heap.size = X at HX ⊢
  have k0 := HX.out.cell (j := 0) rfl
  have k1 := HX.out.cell (j := 1) rfl
  rcases HC.out with ⟨hB, hT⟩ | ⟨k, hk, hB, hT, h32, hr⟩
  · rw [hB] at HBL
    subst hT
    clear hB
    go_wp2_with fail
    refine (HBL.out _ HU.out).mono ?_
    rintro e w2 ⟨v2, rfl, hi2, u2⟩
    obtain ⟨o2, c2, rfl, _, _⟩ := hi2.slice
    have HU2 := Lib.hid (HU.out.trans u2)
    clear hi2 u2
    go_wp2_with fail
    go_ret
    exact ⟨_, rfl, Txs.nil _, HU2.out⟩
  · rw [hB] at HBL
    have HLK : Hid ((st.v[k]!).bl.length = st.v[k].bl.length) := by show _ = _; rw [getElem!_pos st.v k hk]
    have HRR : Hid (∀ j, j < st.v[k].bl.length → ∀ W, Up w W → Calls Try.prog 30 #[.agg #[.slice oB m cB, .slice oV n cV], .string (bs s), .int .i64 (j : Int)] W fun e w' => e = .returned (.tuple #[.string (bs ((txAt st k j).getD [])), .int .i64 0]) ∧ Up W w') := by
      intro j hj W hW
      have h9 := HRD.out (j : Int) W hW
      rw [hr j hj] at h9
      exact h9
    clear hB hr HC HRD
    obtain ⟨q, hq⟩ : ∃ q, st.v[k].bl.length = q := ⟨_, rfl⟩
    rw [hq] at HRR hT h32 HLK
    subst hT
    simp only at HBL
    obtain ⟨i0, hi', hz0, hz1, hz2⟩ := info_parts strInfoG
    have HI0 := Lib.hid hi'
    have HZ0 := Lib.hid hz0
    have HZ1 := Lib.hid hz1
    have HZ2 := Lib.hid hz2
    have HON : Hid (∀ x : List UInt8, ∀ u ∈ [Value.string (bs x)], u.oneCell' = true) := by
      intro x u hu
      simp at hu
      rw [hu]
      rfl
    clear hi' hz0 hz1 hz2
    go_wp2_with fail
    refine (HBL.out _ HU.out).mono ?_
    rintro e w2 ⟨v2, rfl, hi2, u2⟩
    obtain ⟨o2, c2, rfl, _, _⟩ := hi2.slice
    have HU2 := Lib.hid (HU.out.trans u2)
    have HX2 := Lib.hid (HX.out.up u2)
    rw [hq]
    clear hi2 u2 k0 k1 hq
    go_wp2_with fail
    go_loopw [7, 21] (fun out i wr => TextsRel st k q w2.heap.size w2 out i wr) (fun _ i _ => q - (intOf i).toNat)
    case atStart => exact ⟨0, rfl, Nat.zero_le _, World.ownsRow_nil _ _ _ _, Up.refl _⟩
    case round =>
      obtain ⟨j, rfl, hj, ho, hu⟩ := hrel
      obtain ⟨oP, cP, hvp⟩ := own_slice ho
      subst hvp
      have HTP := Lib.hid ho
      have HUX := Lib.hid hu
      have x0 := (HX2.out.up hu).cell (j := 0) rfl
      have x1 := (HX2.out.up hu).cell (j := 1) rfl
      clear ho hu
      by_cases hlt : j < q
      · have dz : decide (j < q) = true := decide_eq_true hlt
        have HRJ := Lib.hid (HRR.out j hlt)
        have HSN := Lib.hid (rdG_succ st k j)
        obtain ⟨T, hT⟩ : ∃ T, (txAt st k j).getD [] = T := ⟨_, rfl⟩
        rw [hT] at HRJ HSN
        clear hT
        go_wp2_with fail
        refine (HRJ.out _ (HU2.out.trans HUX.out)).mono ?_
        rintro e w3 ⟨rfl, u3⟩
        have HTQ := Lib.hid (own_upT HTP.out u3)
        have HU3 := Lib.hid (HUX.out.trans u3)
        clear u3 x0 x1
        go_wp2_with (at_builtin; (refine wpList_append_lies _ rfl _ _ 37 rfl w2.heap.size 9 i0 (.string ⟨#[]⟩) 1 16 Try.underlying37 HI0.out HZ0.out HZ1.out HZ2.out rfl (by decide) (.slice oP j cP) j (fl txC (rdG st k j)) rfl (World.ownsRow.alloc HTQ.out _) ⟨w3.heap.size, 0, none⟩ 1 1 [.string (bs T)] rfl rfl (cell_one_new _ _ _) (HON.out T) (by omega) (by unfold maxLen; omega) (by omega) (HU3.out.trans (Up.alloc _ _)).size _ rfl ?_; intro gA cA wA hA hgA hatA hltA))
        have HA : Hid (wA.ownsRow w2.heap.size 9 1 (.slice (some ⟨gA, 0, none⟩) (j + 1) cA) (j + 1) (fl txC (rdG st k (j + 1)))) := by
          rw [HSN.out, fl_append]
          exact hA
        have HUA := Lib.hid (Below.grown (HU3.out.trans (Up.alloc _ _)) hgA (HU3.out.trans (Up.alloc w3 (.cells #[.string (bs T)] 9))).size (fun k hk => (World.ownsRow.lt HTQ.out k hk).1))
        clear hA hgA hatA hltA
        go_wp2_with fail
        go_roundw
        case rel => exact ⟨j + 1, by go_num, by omega, HA.out, HUA.out⟩
        case measure => simp only [intOf]; omega
      · have dz : decide (j < q) = false := decide_eq_false hlt
        have hjq : j = q := by omega
        subst hjq
        go_wp2_with fail
        go_ret
        refine ⟨_, rfl, ?_, HU2.out.trans HUX.out⟩
        show Sl _ 1 _ _ _
        rw [rdG_len]
        exact Sl.of_own HTP.out

end Go.Proofs.Ytnmdfdkagkpcaaa
