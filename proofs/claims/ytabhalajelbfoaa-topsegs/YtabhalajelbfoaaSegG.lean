/-
  What Put of package seg returns. Conditions: the segments can be read, and their lengths fit.
-/
import Derived.Test.YtabhalajelbfoaaSegF
namespace Go.Proofs.Ytabhalajelbfoaa
open Go.RowKit
open Go.Proofs
open WoolBag
open WoolSeg

/-- what Put and Clean leave: segments of the call's own, an error -/
def PutSPost (w : World) (R : List (List Rc) × Int) (e : Ending) (w' : World) : Prop :=
  ∃ v', e = .returned (.tuple #[v', .int .i64 R.2]) ∧ OSgs w' w.heap.size v' R.1 ∧ Up w w'

set_option maxRecDepth 100000 in
set_option maxHeartbeats 4000000 in
theorem putS_any (v : Value) (l : List (List Rc)) (r : Rc) (w : World) (h : Sgs w v l) (hm : ∀ s ∈ l, s.length ≤ 1000000000000000) :
    Calls Try.prog 6 #[v, rcA r] w (PutSPost w (WoolSeg.put l r)) := by
  have HCK := Lib.hid (fun W (hW : Up w W) => checkSg_any v l W (h.up hW) hm)
  have HCR := Lib.hid (fun W => checkRec_any r W)
  have HCL := Lib.hid (fun W (hW : Up w W) (hr : Right l) => cloneSg_any v l W (h.up hW) hr)
  have HAD : Hid (∀ (V : Value) (W W4 : World), OSgs W4 W.heap.size V l → Up W W4 → Right l → errR r = 0 → Calls Try.prog 22 #[V, rcA r] W4 (AddPost W.heap.size W4 (put1 l r))) := fun V W W4 ho hu hl hr => add_any' V l r W.heap.size W4 ho hu.size hl.seg hr hl.len
  obtain ⟨R, hR⟩ : ∃ R, WoolSeg.put l r = R := ⟨_, rfl⟩
  rw [hR]
  unfold WoolSeg.put at hR
  have hck := chk_range l
  have hrr := errR_range r
  have HRT : Hid (WoolSeg.chk l = 0 → Right l) := fun e => chk_zero.1 e
  have HZ : Hid (∀ W : World, Up w W → OSgs W w.heap.size (.slice none 0 0) []) := fun W _ => OSgs.nil W _
  obtain ⟨o, c, rfl, hc1, hc2⟩ := h.slice
  unfold maxLen at hc2
  have hrC : rcC r = [.bool r.1.1, .int .i64 r.1.2.1, .int .i64 r.1.2.2, .string (bs r.2)] := rfl
  have HRC := Lib.hid hrC
  have hA : rcA r = .agg #[.bool r.1.1, .int .i64 r.1.2.1, .int .i64 r.1.2.2, .string (bs r.2)] := rfl
  rw [hA] at HCR HAD ⊢
  obtain ⟨K, hK⟩ : ∃ K, WoolSeg.chk l = K := ⟨_, rfl⟩
  obtain ⟨M, hM⟩ : ∃ M, errR r = M := ⟨_, rfl⟩
  obtain ⟨p, hp⟩ : ∃ p, put1 l r = p := ⟨_, rfl⟩
  rw [hK] at hR HCK hck HRT
  rw [hM] at hR HCR HAD hrr
  rw [hp] at hR HAD
  have HRR := Lib.hid hR
  have hl16 : K = 0 → p.length ≤ 17 := fun e => by
    have h1 := (HRT.out e).len
    have := (put1_length l r).2
    rw [hp] at this
    omega
  have HL16 := Lib.hid hl16
  clear h hm hrC hA hK hM hp hR hl16
  generalize r.1.1 = x0 at *
  generalize r.1.2.1 = x1 at *
  generalize r.1.2.2 = x2 at *
  generalize bs r.2 = x3 at *
  go_enter Try.func6, Try.ntmps6
  go_wp2_with fail
  refine (HCK.out _ (Up.alloc _ _)).mono ?_
  rintro e w1 ⟨rfl, u1⟩
  have HU1 : Hid (Up w w1) := (Up.alloc _ _).trans u1
  have hrow : RowC w1 w.heap.size 36 [.bool x0, .int .i64 x1, .int .i64 x2, .string x3] := RowC.up (heap_alloc_new w _) u1
  have HROW := Lib.hid hrow
  clear hrow u1
  have hrr' := HRR.out
  by_cases hk : K = 0
  · subst hk
    rw [if_neg (by simp)] at hrr'
    have HRI := Lib.hid (HRT.out rfl)
    have HP17 := Lib.hid (HL16.out rfl)
    clear HRT HL16
    have b0 := HROW.out.cell (j := 0) rfl
    have b1 := HROW.out.cell (j := 1) rfl
    have b2 := HROW.out.cell (j := 2) rfl
    have b3 := HROW.out.cell (j := 3) rfl
    have HV := Lib.hid hrr'
    clear hrr' hck
    go_wp2_with fail
    refine (HCR.out _).mono ?_
    rintro e w2 ⟨rfl, u2⟩
    have HU2 : Hid (Up w w2) := HU1.out.trans u2
    have hrow2 := HROW.out.up u2
    have HROW2 := Lib.hid hrow2
    clear hrow2 u2 b0 b1 b2 b3
    have hv := HV.out
    by_cases hm : M = 0
    · subst hm
      rw [if_neg (by simp)] at hv
      have HAD2 := Lib.hid (fun (V : Value) (W W4 : World) (ho : OSgs W4 W.heap.size V l) (hu : Up W W4) => HAD.out V W W4 ho hu HRI.out rfl)
      clear HAD
      have c0 := HROW2.out.cell (j := 0) rfl
      have c1 := HROW2.out.cell (j := 1) rfl
      have c2 := HROW2.out.cell (j := 2) rfl
      have c3 := HROW2.out.cell (j := 3) rfl
      have hbl := HROW2.out.lt
      have HV2 := Lib.hid hv
      clear hv hrr
      go_wp2_with fail
      go_region_held3 (fun U => U.cell? ⟨w.heap.size, 0, none⟩ = some (.bool x0) ∧ U.cell? ⟨w.heap.size, 1, none⟩ = some (.int .i64 x1) ∧ U.cell? ⟨w.heap.size, 2, none⟩ = some (.int .i64 x2) ∧ U.cell? ⟨w.heap.size, 3, none⟩ = some (.string x3)) (go_keep)
        (first
          | (go_at_call 23; ((with_reducible refine (HCL.out _ (by first | exact HU2.out.trans (Up.drew _) | exact HU2.out) HRI.out).mono ?_); rintro e w4 ⟨V, rfl, ho4, u4⟩; have y0 := (Below.cell u4 (p := ⟨w.heap.size, 0, none⟩) hbl).trans c0; have y1 := (Below.cell u4 (p := ⟨w.heap.size, 1, none⟩) hbl).trans c1; have y2 := (Below.cell u4 (p := ⟨w.heap.size, 2, none⟩) hbl).trans c2; have y3 := (Below.cell u4 (p := ⟨w.heap.size, 3, none⟩) hbl).trans c3))
          | (go_at_call 22; ((with_reducible refine (HAD2.out _ _ _ ho4 u4).mono ?_); rintro e w5 ⟨V5, rfl, ho5, u5⟩; have z0 := (Below.cell u5 (p := ⟨w.heap.size, 0, none⟩) hbl).trans y0; have z1 := (Below.cell u5 (p := ⟨w.heap.size, 1, none⟩) hbl).trans y1; have z2 := (Below.cell u5 (p := ⟨w.heap.size, 2, none⟩) hbl).trans y2; have z3 := (Below.cell u5 (p := ⟨w.heap.size, 3, none⟩) hbl).trans y3)))
      all_goals
        have HO5 : Hid (OSgs w5 w.heap.size V5 p) := OSgs.base ho5 HU2.out.size
        have HU5 : Hid (Up w w5) := HU2.out.trans ((Up.drew _).trans (Below.trans u4 u5))
        obtain ⟨o5, c5, hv5, _, _⟩ := ho5.sgs.slice
        have hp17 := HP17.out
        obtain ⟨P, hP⟩ : ∃ P, p.length = P := ⟨_, rfl⟩
        rw [hP] at hv5 hp17
        have hv2 := HV2.out
        rw [hP] at hv2
        subst hv5
        clear ho4 ho5 u4 u5 y0 y1 y2 y3 z0 z1 z2 z3 hP
        by_cases h16 : 16 < P
        · rw [if_pos h16] at hv2
          have HV3 := Lib.hid hv2
          have d1 : decide ((16 : Int) < (P : Int)) = true := decide_eq_true (by omega)
          clear hv2
          go_wp2_with fail
          refine bodyPost_ret (v := .tuple #[.slice none 0 0, .int .i64 8]) (by simp [results, Try.results6, go_sem]) rfl ?_
          rw [← HV3.out]
          exact ⟨_, rfl, OSgs.nil _ _, HU5.out⟩
        · rw [if_neg h16] at hv2
          have HV3 := Lib.hid hv2
          have d1 : decide ((16 : Int) < (P : Int)) = false := decide_eq_false (by omega)
          clear hv2
          go_wp2_with fail
          refine bodyPost_ret (v := .tuple #[.slice o5 P c5, .int .i64 0]) (by simp [results, Try.results6, go_sem]) rfl ?_
          rw [← HV3.out]
          exact ⟨_, rfl, HO5.out, HU5.out⟩
    · rw [if_pos hm] at hv
      have HV2 := Lib.hid hv
      have d1 : (M != 0) = true := by rw [bne_iff_ne]; exact hm
      clear hv hrr
      go_wp2_with fail
      refine bodyPost_ret (v := .tuple #[.slice none 0 0, .int .i64 M]) (by simp [results, Try.results6, go_sem]) rfl ?_
      rw [← HV2.out]
      exact ⟨_, rfl, OSgs.nil _ _, HU2.out⟩
  · rw [if_pos hk] at hrr'
    have HV := Lib.hid hrr'
    have d1 : (K != 0) = true := by rw [bne_iff_ne]; exact hk
    clear hrr' hck hrr
    go_wp2_with fail
    refine bodyPost_ret (v := .tuple #[.slice none 0 0, .int .i64 K]) (by simp [results, Try.results6, go_sem]) rfl ?_
    rw [← HV.out]
    exact ⟨_, rfl, OSgs.nil _ _, HU1.out⟩

end Go.Proofs.Ytabhalajelbfoaa
