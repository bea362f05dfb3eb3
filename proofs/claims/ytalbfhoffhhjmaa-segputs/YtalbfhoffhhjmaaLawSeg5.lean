/-
  The law SegPuts: what is put is live where its block is used, and nothing else that is live is another. Condition: the rows can be read.
-/
import Derived.Test.YtalbfhoffhhjmaaSegQ
import Derived.Test.YtalbfhoffhhjmaaSegS
import Derived.Test.YtalbfhoffhhjmaaSegU
import Derived.Test.YtalbfhoffhhjmaaSegX
import Derived.Test.YtalbfhoffhhjmaaRSeg2
import Derived.Test.YtalbfhoffhhjmaaWithin
import Derived.Deep.RegionHeld3
import Derived.Deep.QuietTactic
import Derived.BigQuiet
namespace Go.Proofs.Ytalbfhoffhhjmaa
open Go.RowKit
open Go.Proofs
open WoolBag
open WoolSeg

theorem held_len (b : List Itm) (l : List (List Rc)) : (held b l).length ≤ b.length := by
  unfold held
  refine Nat.le_trans (List.length_filter_le _ _) ?_
  rw [List.length_map]
  exact Nat.le_refl _

theorem held_has {b : List Itm} {l : List (List Rc)} {x : Itm} (h : x ∈ b) : (held b (put1 l (rcOf x))).contains (rcOf x) = true := by
  rw [List.contains_iff_mem]
  exact held_mem.2 ⟨used_iff.2 ⟨x, h, rfl⟩, by rw [put1_flatten]; simp⟩

set_option maxRecDepth 100000 in
set_option maxHeartbeats 8000000 in
theorem segPuts_walk (a0 : Option Addr) (len0 cap0 : Nat) (z0 : List Rc) (a1 : Option Addr) (len1 cap1 : Nat) (z1 : List Itm) (a2 : Int) (w : World) (w0 : Recs w (.slice a0 len0 cap0) z0) (w1 : Items w (.slice a1 len1 cap1) z1) (_w2 : (Lit.int .i64 a2).wf = true) :
    Calls Try.prog 4 #[.slice a0 len0 cap0, .slice a1 len1 cap1, .int .i64 a2] w fun e w' => e = .returned (.bool true) ∧ Up w w' := by
  have HF1 : Hid (∀ W : World, Calls Try.prog 8 #[.slice (some ⟨W.heap.size, 0, none⟩) 1 1] (W.alloc (.cells #[.bool true, .int .i64 0, .int .i64 0, .string ⟨#[97]⟩] 30)) (SgPost (W.alloc (.cells #[.bool true, .int .i64 0, .int .i64 0, .string ⟨#[97]⟩] 30)) [[((true, 0, 0), [97])]])) := fun W => by
    have h1 := fits_any _ [((true, 0, 0), [97])] _ (recs_new W ((true, 0, 0), [97])).recs
    rw [fits_one (by rfl)] at h1
    exact h1
  have HF2 := Lib.hid (fun W (hW : Up w W) => fits_any _ z0 W (w0.up hW))
  have HR2 := Lib.hid (fits_right z0)
  have HCB := Lib.hid (fun W (hW : Up w W) => check_any _ z1 W (w1.up hW))
  have HB := Lib.hid w1
  have HBG : Hid (WoolBag.chk FP z1 = 0 → Bag FP z1) := fun h => (WoolBag.chk_zero FP).1 h
  generalize fits z0 = L2 at HF2 HR2
  obtain ⟨M, hM⟩ : ∃ M, WoolBag.chk FP z1 = M := ⟨_, rfl⟩
  rw [hM] at HCB HBG
  obtain ⟨n, hn⟩ : ∃ n, z1.length = n := ⟨_, rfl⟩
  have HN := Lib.hid hn
  have hl1 : len1 = n := by
    obtain ⟨o', c', hv, _⟩ := w1.slice
    simp only [Value.slice.injEq] at hv
    rw [hv.2.1]
    exact hn
  subst hl1
  clear w0 w1 hM hn
  go_enter Try.func4, Try.ntmps4
  go_wp2_with fail
  refine (HF1.out _).mono ?_
  rintro e w1 ⟨v1, rfl, ho1, u1⟩
  have HU1 : Hid (Up w w1) := (Up.alloc _ _).trans u1
  obtain ⟨o1, c1, hv1, _, _⟩ := ho1.sgs.slice
  rw [List.length_singleton] at hv1
  subst hv1
  obtain ⟨b1, off1, ho1e, hat1⟩ := ho1.sgs.at (by simp)
  subst ho1e
  obtain ⟨x1, p1, hx1⟩ := hat1 0 (by simp)
  obtain ⟨ox, cx, hxv, _, _⟩ := hx1.slice
  rw [show ([[((true, 0, 0), [97])]] : List (List Rc))[0].length = 1 from rfl] at hxv
  subst hxv
  rw [Nat.add_zero] at p1
  clear ho1 u1 hat1 hx1
  go_wp2_with fail
  refine (HCB.out _ HU1.out).mono ?_
  rintro e w2 ⟨rfl, u2⟩
  have HU2 := Lib.hid (HU1.out.trans u2)
  clear u2 p1 HU1 HCB HF1
  by_cases hm : M = 0
  case neg =>
    have d0 : (M != 0) = true := bne_iff_ne.2 hm
    clear hm
    go_wp2_with fail
    go_ret
    exact ⟨rfl, HU2.out⟩
  subst hm
  have HBAG := Lib.hid (HBG.out rfl)
  clear HBG
  by_cases hn0 : len1 = 0
  · subst hn0
    go_wp2_with fail
    go_ret
    exact ⟨rfl, HU2.out⟩
  have d1 : (len1 == 0) = false := by rw [beq_eq_false_iff_ne]; exact hn0
  have d2 : ((len1 : Int) == 0) = false := by rw [beq_eq_false_iff_ne]; omega
  go_wp2_with fail
  refine (HF2.out _ HU2.out).mono ?_
  rintro e w3 ⟨v3, rfl, ho3, u3⟩
  have HU3 := Lib.hid (HU2.out.trans u3)
  have HS3 := Lib.hid ho3.sgs
  obtain ⟨o', c', hv, hle, hmx, h4⟩ := HB.out.up HU3.out
  simp only [Value.slice.injEq] at hv
  obtain ⟨hv1, hv2, hv3⟩ := hv
  subst hv1
  subst hv3
  rcases h4 with h4 | ⟨bb, off, hoe, hat⟩
  · rw [h4] at hv2; exact absurd hv2 hn0
  subst hoe
  have HAT := Lib.hid hat
  have hl64 : len1 ≤ 64 := by have := HBAG.out.len; have := HN.out; omega
  have hl0 : 0 < len1 := by omega
  obtain ⟨o3, c3, hs3, _, _⟩ := ho3.sgs.slice
  generalize L2.length = n3 at hs3
  subst hs3
  clear ho3 u3 HU2 HF2 hat hle hmx hv2 d1 d2
  go_wp2_with fail
  refine (within_some _ _ len1 _ rfl hl0 (by omega)).mono ?_
  rintro e w4 ⟨q, hq, rfl, rfl⟩
  have hqz : q < z1.length := by rw [HN.out]; exact hq
  obtain ⟨p0, p1, p2, p3⟩ := HAT.out q hqz
  have HMEM : Hid (z1[q] ∈ z1) := List.getElem_mem hqz
  have HERR : Hid (errR (rcOf z1[q]) = 0) := errR_zero.2 ⟨rfl, (HBAG.out.ok _ HMEM.out).1⟩
  have HHAS : Hid ((held z1 (put1 L2 (rcOf z1[q]))).contains (rcOf z1[q]) = true) := held_has HMEM.out
  have hrf : rcOf z1[q] = ((true, z1[q].s, z1[q].n), z1[q].t) := rfl
  generalize z1[q].r = rr at p3
  obtain ⟨r, hr⟩ : ∃ r, rcOf z1[q] = r := ⟨_, rfl⟩
  rw [hr] at HERR HHAS hrf
  have HPUT : Hid (∀ W, Up w3 W → Calls Try.prog 19 #[.slice o3 n3 c3, rcA r] W (PutSPost W (WoolSeg.put L2 r))) := fun W hW => putS_any _ L2 r W (HS3.out.up hW) (Right.small HR2.out)
  rw [put_right HR2.out HERR.out] at HPUT
  have hrA : rcA r = .agg #[.bool true, .int .i64 z1[q].s, .int .i64 z1[q].n, .string (bs z1[q].t)] := by rw [hrf]; rfl
  have HRC : Hid (rcC r = [.bool true, .int .i64 z1[q].s, .int .i64 z1[q].n, .string (bs z1[q].t)]) := by show _ = _; rw [hrf]; rfl
  have HCT := Lib.hid (fun v s W (h : Recs W v s) => containsR_any v s r W h)
  rw [hrA] at HPUT HCT
  generalize z1[q].s = y1 at *
  generalize z1[q].n = y2 at *
  generalize bs z1[q].t = y3 at *
  obtain ⟨m, hm⟩ : ∃ m, put1 L2 r = m := ⟨_, rfl⟩
  have HM := Lib.hid hm
  rw [hm] at HPUT HHAS
  have hRM : ¬ 16 < m.length → Right m := fun h => by
    have h1 := put_right HR2.out HERR.out
    rw [hm, if_neg h] at h1
    exact (put_ok h1).2.2.2
  have HRM := Lib.hid hRM
  have HF : Hid ((held z1 L2).filter (fun x => !isR r x) = (held z1 m).filter (fun x => !isR r x)) := held_put (by rw [← hm]; exact put1_flatten L2 r)
  have hq1 : (q : Int) < (len1 : Int) := by omega
  have hq0 : (0 : Int) ≤ (q : Int) := Int.natCast_nonneg _
  clear hrf hr hrA hm hRM HMEM hqz HAT HERR hn0
  go_wp2_with fail
  have hal : Up w3 ((w3.alloc (.cells #[.int .i64 y1, .int .i64 y2, .string y3, .int .i64 rr] 26)).alloc (.cells #[.bool true, .int .i64 y1, .int .i64 y2, .string y3] 30)) := (Up.alloc _ _).trans (Up.alloc _ _)
  refine (HPUT.out _ hal).mono ?_
  rintro e w5 ⟨v5, rfl, ho5, u5⟩
  have HU5 : Hid (Up w w5) := HU3.out.trans (hal.trans u5)
  have HS5 : Hid (Sgs w5 (.slice o3 n3 c3) L2) := HS3.out.up (hal.trans u5)
  have hP5 : RowC w5 (w3.heap.size + 1) 30 (rcC r) := by
    have h1 : RowC ((w3.alloc (.cells #[.int .i64 y1, .int .i64 y2, .string y3, .int .i64 rr] 26)).alloc (.cells #[.bool true, .int .i64 y1, .int .i64 y2, .string y3] 30)) (w3.heap.size + 1) 30 [.bool true, .int .i64 y1, .int .i64 y2, .string y3] := by
      have h2 := heap_alloc_new (w3.alloc (.cells #[.int .i64 y1, .int .i64 y2, .string y3, .int .i64 rr] 26)) (.cells #[.bool true, .int .i64 y1, .int .i64 y2, .string y3] 30)
      simpa [RowC] using h2
    rw [HRC.out]
    exact h1.up u5
  have HP5 := Lib.hid hP5
  obtain ⟨P, hP⟩ : ∃ P, w3.heap.size + 1 = P := ⟨_, rfl⟩
  rw [hP] at HP5
  have hsz1 : (w3.alloc (.cells #[.int .i64 y1, .int .i64 y2, .string y3, .int .i64 rr] 26)).heap.size = P := by rw [← hP]; simp
  first | rw [hsz1] | skip
  first | rw [hP] | skip
  clear hal u5 hP5 hsz1 hP HPUT HS3 HU3 p0 p1 p2 p3
  have HBI := Lib.hid (HB.out.up HU5.out)
  by_cases h16 : 16 < m.length
  · rw [if_pos h16] at ho5
    obtain ⟨o5, c5, hs5, _, _⟩ := ho5.sgs.slice
    rw [show (([] : List (List Rc)), (8 : Int)).1.length = 0 from rfl] at hs5
    subst hs5
    rw [if_pos h16]
    clear ho5 h16
    go_wp2_with fail
    go_ret
    exact ⟨rfl, HU5.out⟩
  rw [if_neg h16] at ho5 ⊢
  have HRI := Lib.hid (HRM.out h16)
  have HS5m := Lib.hid ho5.sgs
  obtain ⟨o5, c5, hs5, _, _⟩ := ho5.sgs.slice
  obtain ⟨nm, hnm⟩ : ∃ nm, m.length = nm := ⟨_, rfl⟩
  have HNM := Lib.hid hnm
  rw [show (m, (0 : Int)).1.length = nm from hnm] at hs5
  subst hs5
  have HLV : Hid (∀ W v vb, Sgs W v m → Items W vb z1 → Calls Try.prog 9 #[v, vb] W (LivePost W ((alive z1 m).map takes, 0))) := fun W v vb h1 h2 => by
    have h := live_any v vb m z1 W h1 h2 (Right.small HRI.out)
    rw [live_ok HRI.out HBAG.out] at h
    exact h
  have HALN : Hid (((alive z1 m).map takes).length = nm) := by show _ = _; rw [List.length_map, alive_length]; exact HNM.out
  have HH1 := Lib.hid (held_len z1 L2)
  have HH2 := Lib.hid (held_len z1 m)
  have HA1 := Lib.hid (fun W v vb (h1 : Sgs W v L2) (h2 : Items W vb z1) => alive_any v vb L2 z1 W h1 h2 HR2.out HBAG.out)
  have HA2 := Lib.hid (fun W v vb (h1 : Sgs W v m) (h2 : Items W vb z1) => alive_any v vb m z1 W h1 h2 HRI.out HBAG.out)
  have HCK := Lib.hid (fun W v (h1 : Sgs W v m) => checkSg_right v m W h1 HRI.out)
  generalize held z1 L2 = D1 at HA1 HH1 HF
  generalize held z1 m = D2 at HA2 HH2 HF HHAS
  generalize (alive z1 m).map takes = AM at HLV HALN
  clear ho5 h16 hnm HRM HM HNM HRI HR2 HBAG
  go_wp2_with fail
  refine (HA1.out _ _ _ HS5.out HBI.out).mono ?_
  rintro e w6 ⟨v6, rfl, ho6, u6⟩
  have HU6 := Lib.hid (HU5.out.trans u6)
  have HO6 := Lib.hid ho6
  have HP6 := Lib.hid (HP5.out.up u6)
  have HS6 := Lib.hid (HS5m.out.up u6)
  have HBI6 := Lib.hid (HBI.out.up u6)
  have HPL : Hid (P < w5.heap.size) := HP5.out.lt
  have HL6 : Hid (∀ b, v6.ownBlock = some b → w5.heap.size ≤ b ∧ b < w6.heap.size) := fun b hb => World.ownsRow.lt ho6 b hb
  have H56 : Hid (w5.heap.size ≤ w6.heap.size) := u6.size
  have HW5 : Hid (w.heap.size ≤ w5.heap.size) := HU5.out.size
  clear ho6 u6 HU5 HS5 HP5 HS5m HBI HA1
  go_wp2_with fail
  refine (HA2.out _ _ _ HS6.out HBI6.out).mono ?_
  rintro e w7 ⟨v7, rfl, ho7, u7⟩
  have HU7 := Lib.hid (HU6.out.trans u7)
  have HO7 := Lib.hid ho7
  have HO67 : Hid (ORecs w7 w5.heap.size v6 D1) := HO6.out.up u7
  have HP7 := Lib.hid (HP6.out.up u7)
  have HS7 := Lib.hid (HS6.out.up u7)
  have HBI7 := Lib.hid (HBI6.out.up u7)
  have HL7 : Hid (∀ b, v7.ownBlock = some b → w6.heap.size ≤ b) := fun b hb => (World.ownsRow.lt ho7 b hb).1
  have r0 := HP7.out.cell (j := 0) (by rw [HRC.out]; rfl)
  have r1 := HP7.out.cell (j := 1) (by rw [HRC.out]; rfl)
  have r2 := HP7.out.cell (j := 2) (by rw [HRC.out]; rfl)
  have r3 := HP7.out.cell (j := 3) (by rw [HRC.out]; rfl)
  clear ho7 u7 HU6 HO6 HP6 HS6 HBI6 HA2
  go_wp2_with fail
  refine (HCT.out _ _ _ HO7.out.recs).mono ?_
  rintro e w8 ⟨rfl, u8⟩
  rw [HHAS.out]
  have HU8 := Lib.hid (HU7.out.trans u8)
  have HO78 : Hid (ORecs w8 w6.heap.size v7 D2) := HO7.out.up u8
  have HO68 : Hid (ORecs w8 w5.heap.size v6 D1) := HO67.out.up u8
  have HP8 := Lib.hid (HP7.out.up u8)
  have HS8 := Lib.hid (HS7.out.up u8)
  have HBI8 := Lib.hid (HBI7.out.up u8)
  clear u8 r0 r1 r2 r3 HU7 HO7 HO67 HP7 HS7 HBI7 HCT HHAS
  go_wp2_with fail
  refine (HCK.out _ _ HS8.out).mono ?_
  rintro e w9 ⟨rfl, u9⟩
  have HU9 := Lib.hid (HU8.out.trans u9)
  have HO79 : Hid (ORecs w9 w6.heap.size v7 D2) := HO78.out.up u9
  have HO69 : Hid (ORecs w9 w5.heap.size v6 D1) := HO68.out.up u9
  have HP9 := Lib.hid (HP8.out.up u9)
  have HS9 := Lib.hid (HS8.out.up u9)
  have HBI9 := Lib.hid (HBI8.out.up u9)
  clear u9 HU8 HO78 HO68 HP8 HS8 HBI8 HCK
  go_wp2_with fail
  refine (HLV.out _ _ _ HS9.out HBI9.out).mono ?_
  rintro e wa ⟨va, rfl, hoa, ua⟩
  have HUa := Lib.hid (HU9.out.trans ua)
  have HO7a : Hid (ORecs wa w6.heap.size v7 D2) := HO79.out.up ua
  have HO6a : Hid (ORecs wa w5.heap.size v6 D1) := HO69.out.up ua
  have HPa := Lib.hid (HP9.out.up ua)
  obtain ⟨oa, ca, hsa, _, _⟩ := hoa.ns.slice
  rw [show (AM, (0 : Int)).1.length = nm from HALN.out] at hsa
  subst hsa
  have hz64 : z1.length ≤ 64 := by rw [HN.out]; exact hl64
  have HDR := Lib.hid (dropR_any v6 D1 r P w5.heap.size wa HO6a.out HPa.out HPL.out (by have := HH1.out; omega))
  clear hoa ua HU9 HO79 HO69 HP9 HS9 HBI9 HLV
  go_wp2_with fail
  refine HDR.out.mono ?_
  rintro e wb ⟨vb, rfl, hob, hgb, hob2⟩
  have HUb : Hid (Up w wb) := Below.grown HUa.out hgb HUa.out.size (fun b hb => by have := (HL6.out b hb).1; have := HW5.out; omega)
  have HO7b : Hid (ORecs wb w6.heap.size v7 D2) := own_grownS HO7a.out hgb (fun b hb e => by have h1 := (HL6.out b e).2; have h2 := HL7.out b hb; omega)
  have HPb : Hid (RowC wb P 30 (rcC r)) := HPa.out.kept hgb (fun e => by have h1 := (HL6.out P e).1; have h2 := HPL.out; omega)
  have HOb := Lib.hid hob
  have HVB : Hid (∀ b, vb.ownBlock = some b → b < w6.heap.size) := fun b hb => (HL6.out b (hob2 b hb)).2
  have HDR2 := Lib.hid (dropR_any v7 D2 r P w6.heap.size wb HO7b.out HPb.out (by have := HPL.out; have := H56.out; omega) (by have := HH2.out; omega))
  clear hob hgb hob2 HUa HO7a HO6a HPa HDR
  go_wp2_with fail
  refine HDR2.out.mono ?_
  rintro e wc ⟨vc, rfl, hoc, hgc, hoc2⟩
  have HUc : Hid (Up w wc) := Below.grown HUb.out hgc HUb.out.size (fun b hb => by have := HL7.out b hb; have := HW5.out; have := H56.out; omega)
  have hOb : ORecs wc w5.heap.size vb (D1.filter fun x => !isR r x) := own_grownS HOb.out hgc (fun b hb e => by have h1 := HVB.out b hb; have h2 := HL7.out b e; omega)
  rw [HF.out] at hOb
  have HE := Lib.hid (equalR_yes vb vc _ wc hOb.recs hoc.recs)
  clear hoc hgc hoc2 hOb HOb HUb HO7b HPb HDR2
  go_wp2_with fail
  refine HE.out.mono ?_
  rintro e wd ⟨rfl, ud⟩
  have HUd := Lib.hid (HUc.out.trans ud)
  clear ud HE
  go_wp2_with fail
  go_ret
  exact ⟨rfl, HUd.out⟩

end Go.Proofs.Ytalbfhoffhhjmaa
