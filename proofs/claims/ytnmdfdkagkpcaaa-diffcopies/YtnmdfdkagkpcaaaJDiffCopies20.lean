/-
  The texts VolA, Bag3, one behind the other; each says below what it holds and on what conditions.
-/
import Derived.Test.YtnmdfdkagkpcaaaJDiffCopies18
import Derived.Test.YtnmdfdkagkpcaaaJDiffCopies19
import Derived.Test.YtnmdfdkagkpcaaaJDiffCopies16
import Derived.BigRegion
import Derived.Deep.QuietTactic
import Derived.BigQuiet

/-
  What vol's unused, count and checkBlock return. Conditions: as each says.
-/
namespace Go.Proofs.Ytnmdfdkagkpcaaa
open Go.RowKit
open Go.Proofs
open Go.Maps
open WoolBag
open WoolVol

theorem grown_up {w w' : World} (h : Up w w') (r : Option Nat) : w.grownBy w' r := ⟨h.os, h.tape, h.output, h.size, fun k hk _ => h.block k hk⟩

theorem wf_small (z : Int) (h : -9223372036854775808 ≤ z ∧ z ≤ 9223372036854775807) : (Lit.int .i64 z).wf = true := WalkArith.wf_i64 h

theorem FP_le (t : List UInt8) : 0 ≤ FP t ∧ FP t < 1073741824 := by
  have := fp_le 65581 (by omega) (by omega) t
  unfold FP
  omega

/-- the identifiers of items fit -/
theorem wf_id {l : List Itm} (hb : Bag FP l) (k : Nat) (hk : k < l.length) : WfI (idOf l[k]) := by
  obtain ⟨_, h1, h2, h3, _⟩ := hb.ok _ (List.getElem_mem hk)
  have h4 := FP_le l[k].t
  refine ⟨wf_small _ ?_, wf_small _ ?_⟩
  · show _ ≤ l[k].s ∧ l[k].s ≤ _
    rw [h1]; omega
  · show _ ≤ l[k].n ∧ l[k].n ≤ _
    omega

/-- a block of one item's cells, just made -/
theorem item_new (W : World) (x : Itm) : (W.alloc (.cells (itC x).toArray 60)).cell? ⟨W.heap.size, 0, none⟩ = some (.int .i64 x.s) := World.cell?_alloc_new W _ _ 0

def UnRel (l : List Itm) (w : World) (B : Nat) (i : Value) (wr : World) : Prop := ∃ k : Nat, k ≤ l.length ∧ i = .int .i64 k ∧ Uses wr B k (l.take k) [] ∧ Below B w wr

def UnPost (w : World) (l : List Itm) (e : Ending) (w' : World) : Prop := ∃ B, e = .returned (.map (some B)) ∧ w.heap.size ≤ B ∧ Uses w' B l.length l [] ∧ Up w w'

set_option maxRecDepth 100000 in
set_option maxHeartbeats 1000000 in
theorem unused_any (v : Value) (l : List Itm) (w : World) (h : Items w v l) (hb : Bag FP l) : Calls Try.prog 36 #[v] w (UnPost w l) := by
  obtain ⟨o, c, rfl, h2, h3, h4⟩ := h
  unfold maxLen at h3
  have H4 := Lib.hid h4
  have HB := Lib.hid hb
  have hl := hb.len
  clear h4 hb
  have hmm := @run_makeMap Try.prog
  go_enter Try.func36, Try.ntmps36
  go_wp2_with fail
  clear hmm
  go_loopw [9] (fun i wr => UnRel l w w.heap.size i wr) (fun i _ => l.length - (intOf i).toNat)
  case atStart => exact ⟨0, Nat.zero_le _, rfl, (MapF.made w).congr (fun _ => rfl) (fun _ => rfl), Up.alloc _ _⟩
  case round =>
    obtain ⟨k, hk, rfl, hus, hu⟩ := hrel
    by_cases hlt : k < l.length
    · rcases H4.out with h5 | ⟨b, off, rfl, h5⟩
      · rw [h5] at hlt; simp at hlt
      · obtain ⟨a1, a2, a3, a4⟩ := h5 k hlt
        rw [← hu.cell (World.block_lt_of_cell? w _ a1)] at a1
        rw [← hu.cell (World.block_lt_of_cell? w _ a2)] at a2
        rw [← hu.cell (World.block_lt_of_cell? w _ a3)] at a3
        rw [← hu.cell (World.block_lt_of_cell? w _ a4)] at a4
        have HWF := Lib.hid (wf_id HB.out k hlt)
        have HT : Hid (l.take (k + 1) = l.take k ++ [l[k]]) := List.take_succ_eq_append_getElem hlt
        have HID : Hid (∀ W, Calls Try.prog 62 #[.agg #[.int .i64 l[k].s, .int .i64 l[k].n, .string (bs l[k].t), .int .i64 l[k].r]] W fun e w' => e = .returned (idV (idOf l[k])) ∧ Up W w') := fun W => identifier_any l[k] W
        generalize l[k] = x at *
        have HU := Lib.hid hu
        have HUS := Lib.hid hus
        have d1 : decide (k < l.length) = true := decide_eq_true hlt
        obtain ⟨xs, xn, xt, xr⟩ := x
        simp only at a1 a2 a3 a4 HID
        clear h5 hu hus
        go_wp2_with fail
        refine (HID.out _).mono ?_
        rintro e w1 ⟨rfl, u1⟩
        have HUS1 : Hid (Uses w1 w.heap.size k (l.take k) []) := (HUS.out.up (Up.alloc _ _)).up u1
        have HU1 : Hid (Up w w1) := (show Up w wr from HU.out).trans ((Up.alloc _ _).trans u1)
        clear u1
        go_wp2_with (at_mapUpdate; refine wp_store rfl _ _ _ rfl w.heap.size k _ _ rfl HUS1.out (by unfold maxLen; omega) (idOf ⟨xs, xn, xt, xr⟩) HWF.out 0 (by decide) rfl rfl ?_; intro w2 hm2 hg2)
        go_roundw
        case rel => exact ⟨k + 1, by omega, by go_num, by rw [HT.out]; exact Uses.start hm2, Below.grown HU1.out hg2 HU1.out.size (fun j hj => by cases hj; exact Nat.le_refl _)⟩
        case measure => simp only [intOf]; omega
    · have d1 : decide (k < l.length) = false := decide_eq_false hlt
      have hke : k = l.length := by omega
      subst hke
      rw [List.take_length] at hus
      have HUS := Lib.hid hus
      have HU := Lib.hid hu
      clear hus hu
      go_wp2_with fail
      go_ret
      exact ⟨w.heap.size, rfl, Nat.le_refl _, HUS.out, HU.out⟩

set_option maxRecDepth 100000 in
set_option maxHeartbeats 1000000 in
theorem count_any (i : Idn) (B n : Nat) (l : List Itm) (all : List Idn) (w : World) (hU : Uses w B n l all) (hn : n < maxLen) (hi : WfI i) (hin : i.1 = true → l.any (idB i) = true) (hall : all.length ≤ 100000) :
    Calls Try.prog 65 #[idV i, .map (some B)] w fun e w' => e = .returned (.tuple #[]) ∧ Uses w' B (n + 1) l (all ++ [i]) ∧ w.grownBy w' (some B) := by
  obtain ⟨b, s, m⟩ := i
  cases b with
  | false =>
    unfold idV
    simp only
    go_enter Try.func65, Try.ntmps65
    go_wp2_with fail
    go_end0
    exact ⟨rfl, (Uses.hole rfl (MapF.mono (hU.up (Up.alloc _ _)) (Nat.le_succ _))), (World.grownBy_alloc w _ _)⟩
  | true =>
    have hany := hin rfl
    have hA := (hU.up (Up.alloc w (.cells #[.bool true, .int .i64 s, .int .i64 m] 51))).up (Up.drew _)
    obtain ⟨st, h1, h2, h3, h4⟩ := MapF.inc hA hn (true, s, m) hi (by unfold hasU; exact hany)
    have hc : useU l all (true, s, m) = cnt all (true, s, m) := by unfold useU; rw [if_pos hany]
    rw [hc] at h1 h2 h3
    have hc1 := cnt_nonneg all (true, s, m)
    have hc2 := cnt_le all (true, s, m)
    obtain ⟨z, hz⟩ : ∃ z, cnt all (true, s, m) = z := ⟨_, rfl⟩
    have hw : IntKind.i64.wrap (cnt all (true, s, m) + 1) = cnt all (true, s, m) + 1 := IntWalk.i64_in _ (by omega)
    obtain ⟨w', h5, h6, h7⟩ := h4 (cnt all (true, s, m) + 1) (wf_small _ (by omega))
    have HM : Hid (Uses w' B (n + 1) l (all ++ [(true, s, m)])) := Uses.more hany h6
    have HG : Hid (w.grownBy w' (some B)) := (grown_up ((Up.alloc w _).trans (Up.drew _)) _).trans h7
    rw [hz] at h1 h2 hw h5
    unfold idV at h1 h2 ⊢
    unfold goInt at h1 h5
    simp only at h1 h2 ⊢
    clear h3 h4 h6 h7 hc hz hc1 hc2 hA hU hin hany
    go_enter Try.func65, Try.ntmps65
    go_wp2_with fail
    go_region
    all_goals
      go_end0
      exact ⟨rfl, HM.out, HG.out⟩

set_option maxRecDepth 100000 in
set_option maxHeartbeats 1000000 in
theorem checkBlock_any (i : Idn) (B n : Nat) (l : List Itm) (all : List Idn) (w : World) (hU : Uses w B n l all) (hi : WfI i) :
    Calls Try.prog 64 #[idV i, .map (some B)] w fun e w' => e = .returned (.int .i64 (errB l i)) ∧ Up w w' := by
  obtain ⟨b, s, m⟩ := i
  have HUS := Lib.hid hU
  have HWF := Lib.hid hi
  have he : errB l (b, s, m) = if !b && !(((b, s, m) : Idn) == noId) then 3 else if b && !(hasU l (b, s, m)) then 4 else 0 := rfl
  cases b with
  | false =>
    have e2 : (((false, s, m) : Idn) == noId) = ((s == 0) && (m == 0)) := by
      unfold noId
      rw [Bool.eq_iff_iff]
      simp
    rw [e2] at he
    obtain ⟨E, hE⟩ : ∃ E, errB l (false, s, m) = E := ⟨_, rfl⟩
    rw [hE] at he ⊢
    have hno : hasU l (false, s, m) = false := by
      unfold hasU
      rw [List.any_eq_false]
      intro x _
      unfold idB
      simp
    by_cases hz : s = 0 ∧ m = 0
    · obtain ⟨rfl, rfl⟩ := hz
      have HE := Lib.hid he
      have HH := Lib.hid hno
      clear he hE e2 hU hi hno
      unfold idV
      simp only
      go_enter Try.func64, Try.ntmps64
      go_wp2_with (at_lookup; refine wp_look_ok rfl _ _ rfl B n _ _ rfl (HUS.out.up (by first | exact Up.alloc _ _ | exact (Up.alloc _ _).trans (Up.alloc _ _))) (false, 0, 0) HWF.out rfl ?_; rw [HH.out])
      go_ret
      exact ⟨by rw [HE.out]; rfl, by first | exact Up.alloc _ _ | exact (Up.alloc _ _).trans (Up.alloc _ _)⟩
    · have hz2 : ((s == 0) && (m == 0)) = false := by
        rw [Bool.and_eq_false_iff]
        by_cases h0 : s = 0
        · right; simp; intro h1; exact hz ⟨h0, h1⟩
        · left; simpa using h0
      rw [hz2] at he
      have HE := Lib.hid he
      clear he hE e2 hU hi hno HUS HWF
      unfold idV
      simp only
      go_enter Try.func64, Try.ntmps64
      go_wp2_with fail
      all_goals
        first
        | (exfalso; omega)
        | (go_ret; exact ⟨by rw [HE.out]; rfl, Up.alloc _ _⟩)
  | true =>
    obtain ⟨E, hE⟩ : ∃ E, errB l (true, s, m) = E := ⟨_, rfl⟩
    rw [hE] at he ⊢
    cases hh : hasU l (true, s, m) with
    | false =>
      rw [hh] at he
      have HE := Lib.hid he
      have HH := Lib.hid hh
      clear he hE hU hi hh
      unfold idV
      simp only
      go_enter Try.func64, Try.ntmps64
      go_wp2_with (at_lookup; refine wp_look_ok rfl _ _ rfl B n _ _ rfl (HUS.out.up (Up.alloc _ _)) (true, s, m) HWF.out rfl ?_; rw [HH.out])
      go_ret
      exact ⟨by rw [HE.out]; rfl, Up.alloc _ _⟩
    | true =>
      rw [hh] at he
      have HE := Lib.hid he
      have HH := Lib.hid hh
      clear he hE hU hi hh
      unfold idV
      simp only
      go_enter Try.func64, Try.ntmps64
      go_wp2_with (at_lookup; refine wp_look_ok rfl _ _ rfl B n _ _ rfl (HUS.out.up (Up.alloc _ _)) (true, s, m) HWF.out rfl ?_; rw [HH.out])
      go_ret
      exact ⟨by rw [HE.out]; rfl, Up.alloc _ _⟩

end Go.Proofs.Ytnmdfdkagkpcaaa

/-
  What checkItem of package bag returns. Conditions: the row can be read; at most 64 items before.
-/
namespace Go.Proofs.Ytnmdfdkagkpcaaa
open Go.RowKit
open Go.Proofs
open WoolBag

theorem errI_2 (F : List UInt8 → Int) (l : List Itm) (x : Itm) (h : 64 < x.t.length) : errI F l x = 2 := by unfold errI; rw [if_pos h]
theorem errI_6 (F : List UInt8 → Int) (l : List Itm) (x : Itm) (h : ¬ 64 < x.t.length) (h2 : x.s ≠ F x.t) : errI F l x = 6 := by unfold errI; rw [if_neg h, if_pos h2]
theorem errI_1 (F : List UInt8 → Int) (l : List Itm) (x : Itm) (h : ¬ 64 < x.t.length) (h2 : x.s = F x.t) (h3 : argB x = true) : errI F l x = 1 := by unfold errI; rw [if_neg h, if_neg (by simpa using h2), if_pos h3]
theorem errI_3 (F : List UInt8 → Int) (l : List Itm) (x : Itm) (h : ¬ 64 < x.t.length) (h2 : x.s = F x.t) (h3 : argB x = false) (h4 : lastB l x = false) : errI F l x = 3 := by unfold errI; rw [if_neg h, if_neg (by simpa using h2), if_neg (by simp [h3]), if_pos h4]
theorem errI_5 (F : List UInt8 → Int) (l : List Itm) (x : Itm) (h : ¬ 64 < x.t.length) (h2 : x.s = F x.t) (h3 : argB x = false) (h4 : lastB l x = true) : errI F l x = if l.any (txtB x.t) = true then 5 else 0 := by unfold errI; rw [if_neg h, if_neg (by simpa using h2), if_neg (by simp [h3]), if_neg (by simp [h4])]

set_option maxRecDepth 100000 in
set_option maxHeartbeats 1000000 in
theorem checkItem_any (v : Value) (l : List Itm) (x : Itm) (w : World) (h : Items w v l) (hl : l.length ≤ 64) :
    Calls Try.prog 61 #[v, itV x] w fun e w' => e = .returned (.int .i64 (errI FP l x)) ∧ Up w w' := by
  have hsz := bs_size x.t
  by_cases h1 : 64 < x.t.length
  · rw [errI_2 _ _ _ h1]
    obtain ⟨o, c, rfl, _⟩ := h.slice
    unfold itV
    rw [← hsz] at h1
    generalize bs x.t = xt at h1 ⊢
    clear hsz h
    go_enter Try.func61, Try.ntmps61
    go_wp2_with fail
    go_ret
    exact ⟨rfl, Up.alloc _ _⟩
  have HFP := Lib.hid (fingerprint_any x.t)
  have HX := Lib.hid h
  have hs1 : (bs x.t).size ≤ 64 := by omega
  obtain ⟨E, hE⟩ : ∃ E, errI FP l x = E := ⟨_, rfl⟩
  rw [hE]
  have HE := Lib.hid hE
  obtain ⟨o, c, rfl, hc⟩ := h.slice
  unfold maxLen at hc
  obtain ⟨xs, xn, xt, xr⟩ := x
  obtain ⟨F, hF⟩ : ∃ F, FP xt = F := ⟨_, rfl⟩
  have HF := Lib.hid hF
  have HLL := Lib.hid h1
  simp only at hs1 h1 HFP
  unfold itV
  simp only
  clear hsz hE hF h
  go_enter Try.func61, Try.ntmps61
  go_wp2_with fail
  have q0 := World.cell?_alloc_new w #[.int .i64 xs, .int .i64 xn, .string (bs xt), .int .i64 xr] 60 0
  have q2 := World.cell?_alloc_new w #[.int .i64 xs, .int .i64 xn, .string (bs xt), .int .i64 xr] 60 2
  have q4 : w.heap.size < (w.alloc (.cells #[.int .i64 xs, .int .i64 xn, .string (bs xt), .int .i64 xr] 60)).heap.size := by simp
  go_region_held3 (fun U => U.cell? ⟨w.heap.size, 0, none⟩ = some (.int .i64 xs) ∧ U.cell? ⟨w.heap.size, 2, none⟩ = some (.string (bs xt))) (go_keep)
    ((go_at_call 79; ((with_reducible refine (HFP.out _ (by omega)).mono ?_); rintro e w4 ⟨rfl, u4⟩; rw [HF.out]; have f0 := (Below.cell u4 (p := ⟨w.heap.size, 0, none⟩) q4).trans q0; have f2 := (Below.cell u4 (p := ⟨w.heap.size, 2, none⟩) q4).trans q2)))
  have f0' : w4.cell? ⟨w.heap.size, 0, none⟩ = some (.int .i64 xs) := f0
  have f1' : w4.cell? ⟨w.heap.size, 1, none⟩ = some (.int .i64 xn) := (Below.cell u4 (p := ⟨w.heap.size, 1, none⟩) q4).trans (World.cell?_alloc_new w #[.int .i64 xs, .int .i64 xn, .string (bs xt), .int .i64 xr] 60 1)
  have f2' : w4.cell? ⟨w.heap.size, 2, none⟩ = some (.string (bs xt)) := f2
  have f3' : w4.cell? ⟨w.heap.size, 3, none⟩ = some (.int .i64 xr) := (Below.cell u4 (p := ⟨w.heap.size, 3, none⟩) q4).trans (World.cell?_alloc_new w #[.int .i64 xs, .int .i64 xn, .string (bs xt), .int .i64 xr] 60 3)
  have HU4 : Hid (Up w w4) := (Up.alloc _ _).trans ((Up.drew _).trans u4)
  have hB4 : w.heap.size < w4.heap.size := Nat.lt_of_lt_of_le q4 u4.size
  generalize w.heap.size = B at f0' f1' f2' f3' hB4 ⊢
  clear f0 f2 q0 q2 q4 u4
  by_cases g1 : xs ≠ F
  · have g2 : (xs != F) = true := by rw [bne_iff_ne]; exact g1
    have he : E = 6 := by rw [← HE.out]; exact errI_6 _ _ _ HLL.out (by simp only; rw [HF.out]; exact g1)
    have HEE := Lib.hid he
    clear g1 he
    go_wp2_with fail
    go_ret
    exact ⟨by rw [HEE.out]; rfl, HU4.out⟩
  · have g1' := Decidable.not_not.1 g1
    clear g1
    subst g1'
    have g2 : (xs != xs) = false := by simp
    by_cases g3 : argB ⟨xs, xn, xt, xr⟩ = true
    · have he : E = 1 := by rw [← HE.out]; exact errI_1 _ _ _ HLL.out (by simp only; rw [HF.out]) g3
      have HEE := Lib.hid he
      clear he
      unfold argB at g3
      simp only [Bool.or_eq_true, decide_eq_true_iff] at g3
      have HG := Lib.hid g3
      clear g3
      by_cases e1 : xn < 0
      · go_wp2_with fail
        go_ret
        exact ⟨by rw [HEE.out]; rfl, HU4.out⟩
      by_cases e2 : 63 < xn
      · go_wp2_with fail
        go_ret
        exact ⟨by rw [HEE.out]; rfl, HU4.out⟩
      by_cases e3 : xr < 1
      · go_wp2_with fail
        go_ret
        exact ⟨by rw [HEE.out]; rfl, HU4.out⟩
      have e4 : 1000000 < xr := by
        rcases HG.out with ((h | h) | h) | h
        · exact absurd h e1
        · exact absurd h e2
        · exact absurd h e3
        · exact h
      go_wp2_with fail
      go_ret
      exact ⟨by rw [HEE.out]; rfl, HU4.out⟩
    · have g3' : argB ⟨xs, xn, xt, xr⟩ = false := by simpa using g3
      obtain ⟨e1, e2, e3, e4⟩ := (arg_iff _).1 g3'
      simp only at e1 e2 e3 e4
      have HG := Lib.hid g3'
      have HT := Lib.hid (hasText_make xt)
      clear g3 g3'
      have hend : ∀ w5, Up w4 w5 → lastB l ⟨xs, xn, xt, xr⟩ = true → Calls Try.prog 70 #[.string (bs xt)] w5 fun e w6 => ∃ lb, e = .returned (.func (.func 85) #[] lb) ∧ Up w5 w6 ∧
          (Calls Try.prog 81 #[.slice o l.length c, .func (.func 85) #[] lb] w6 fun e w7 => e = .returned (.bool (l.any (txtB xt))) ∧ Up w6 w7) := fun w5 u5 _ => by
        refine (HT.out w5).mono ?_
        rintro e w6 ⟨lb, rfl, u6, hp⟩
        exact ⟨lb, rfl, u6, containsF _ l w6 _ lb _ eg_text (HX.out.up ((HU4.out.trans u5).trans u6)) hp⟩
      have HEND := Lib.hid hend
      clear hend
      have hfin : ∀ b, l.any (txtB xt) = b → lastB l ⟨xs, xn, xt, xr⟩ = true → E = if b = true then 5 else 0 := fun b hb hq => by
        rw [← HE.out, errI_5 _ _ _ HLL.out (by simp only; rw [HF.out]) HG.out hq]
        simp only
        rw [hb]
      have HFIN := Lib.hid hfin
      clear hfin
      by_cases hn : l = []
      · subst hn
        have hla : lastB [] ⟨xs, xn, xt, xr⟩ = true := rfl
        have HLA := Lib.hid hla
        have HF5 := Lib.hid (HFIN.out false rfl hla)
        have hz : decide (0 < (0 : Int)) = false := rfl
        clear hla HFIN
        go_wp2_with fail
        go_quiet (fail)
        all_goals
          go_wp2_with fail
          refine (HEND.out _ (Up.drewN _ _) HLA.out).mono ?_
          rintro e w6 ⟨lb, rfl, u6, hcon⟩
          have HCON := Lib.hid hcon
          clear hcon
          go_wp2_with fail
          refine HCON.out.mono ?_
          rintro e w7 ⟨rfl, u7⟩
          rw [show List.any ([] : List Itm) (txtB xt) = false from rfl]
          go_wp2_with fail
          go_ret
          exact ⟨by rw [HF5.out]; rfl, HU4.out.trans (((Up.drewN _ _).trans u6).trans u7)⟩
      · obtain ⟨N, hN⟩ : ∃ N, l.length = N + 1 := ⟨l.length - 1, by have := List.length_pos_iff.2 hn; omega⟩
        obtain ⟨o', c', hv, h2, _, h4⟩ := HX.out
        simp only [Value.slice.injEq] at hv
        obtain ⟨rfl, _, rfl⟩ := hv
        rcases h4 with h4 | ⟨b, off, rfl, h6⟩
        · exact absurd h4 hn
        obtain ⟨a1, a2, a3, a4⟩ := h6 N (by omega)
        have k1 := World.block_lt_of_cell? w _ a1
        have U4 := HU4.out
        have a1' := (U4.cell k1).trans a1
        have a2' := (U4.cell (World.block_lt_of_cell? w _ a2)).trans a2
        have a3' := (U4.cell (World.block_lt_of_cell? w _ a3)).trans a3
        have a4' := (U4.cell (World.block_lt_of_cell? w _ a4)).trans a4
        have hb4 : b < w4.heap.size := Nat.lt_of_lt_of_le k1 U4.size
        obtain ⟨la, hla⟩ : ∃ la, l[N]'(by omega) = la := ⟨_, rfl⟩
        have hlast : lastB l ⟨xs, xn, xt, xr⟩ = behB la ⟨xs, xn, xt, xr⟩ := by
          unfold lastB
          rw [List.getLast?_eq_getElem?, hN, Nat.add_sub_cancel, List.getElem?_eq_getElem (by omega), hla]
        rw [hla] at a1' a2' a3' a4'
        have HMK := Lib.hid (isBehind_make la)
        unfold itV at HMK
        have HLAST := Lib.hid hlast
        obtain ⟨n, hn'⟩ : ∃ n, l.length = n := ⟨_, rfl⟩
        rw [hn'] at hl hN h2 HEND
        have p1 : IntKind.i64.wrap ((n : Int) - 1) = (N : Int) := by rw [show (n : Int) - 1 = (N : Int) by omega]; exact IntWalk.i64_in _ (by omega)
        have p2 : N < n := by omega
        have p3 : 0 < n := by omega
        clear a1 a2 a3 a4 h6 k1 U4 hlast hn hla
        obtain ⟨P, hP⟩ : ∃ P, behB la ⟨xs, xn, xt, xr⟩ = P := ⟨_, rfl⟩
        have HPP := Lib.hid hP
        clear hP
        rw [hn']
        have HNN := Lib.hid hn'
        clear hn' hN
        generalize la.s = ls at *
        generalize la.n = ln at *
        generalize bs la.t = lt at *
        generalize la.r = lr at *
        go_wp2_with fail
        go_region_held3 (fun U => (U.cell? ⟨B, 0, none⟩ = some (.int .i64 xs) ∧ U.cell? ⟨B, 1, none⟩ = some (.int .i64 xn) ∧ U.cell? ⟨B, 2, none⟩ = some (.string (bs xt)) ∧ U.cell? ⟨B, 3, none⟩ = some (.int .i64 xr)) ∧ U.cell? ⟨b, off + N * 4, none⟩ = some (.int .i64 ls) ∧ U.cell? ⟨b, off + N * 4 + 1, none⟩ = some (.int .i64 ln) ∧ U.cell? ⟨b, off + N * 4 + 2, none⟩ = some (.string lt) ∧ U.cell? ⟨b, off + N * 4 + 3, none⟩ = some (.int .i64 lr)) (go_keep) (first
          | (go_at_call 80; ((with_reducible refine (HMK.out _).mono ?_); rintro e w5 ⟨lb, rfl, u5, hp5⟩; have hp6 : Hid (∀ U, Up w5 U → Calls Try.prog 90 (#[.agg #[.int .i64 xs, .int .i64 xn, .string (bs xt), .int .i64 xr]] ++ lb) U fun e w' => e = .returned (.bool P) ∧ Up U w') := (fun U hU => by have hz := hp5 U hU ⟨xs, xn, xt, xr⟩; rw [HPP.out] at hz; exact hz); clear hp5; have b0 := (Below.cell u5 (p := ⟨B, 0, none⟩) hB4).trans f0'; have b1 := (Below.cell u5 (p := ⟨B, 1, none⟩) hB4).trans f1'; have b2 := (Below.cell u5 (p := ⟨B, 2, none⟩) hB4).trans f2'; have b3 := (Below.cell u5 (p := ⟨B, 3, none⟩) hB4).trans f3'; have b4 := (Below.cell u5 (p := ⟨b, off + N * 4, none⟩) hb4).trans a1'; have b5 := (Below.cell u5 (p := ⟨b, off + N * 4 + 1, none⟩) hb4).trans a2'; have b6 := (Below.cell u5 (p := ⟨b, off + N * 4 + 2, none⟩) hb4).trans a3'; have b7 := (Below.cell u5 (p := ⟨b, off + N * 4 + 3, none⟩) hb4).trans a4'; have b8 := Nat.lt_of_lt_of_le hB4 u5.size; have b9 := Nat.lt_of_lt_of_le hb4 u5.size))
          | (go_at_call 90; ((refine (hp6.out _ (Up.refl _)).mono ?_); rintro e w6 ⟨rfl, u6⟩; have z0 := (Below.cell u6 (p := ⟨B, 0, none⟩) b8).trans b0; have z1 := (Below.cell u6 (p := ⟨B, 1, none⟩) b8).trans b1; have z2 := (Below.cell u6 (p := ⟨B, 2, none⟩) b8).trans b2; have z3 := (Below.cell u6 (p := ⟨B, 3, none⟩) b8).trans b3; have z4 := (Below.cell u6 (p := ⟨b, off + N * 4, none⟩) b9).trans b4; have z5 := (Below.cell u6 (p := ⟨b, off + N * 4 + 1, none⟩) b9).trans b5; have z6 := (Below.cell u6 (p := ⟨b, off + N * 4 + 2, none⟩) b9).trans b6; have z7 := (Below.cell u6 (p := ⟨b, off + N * 4 + 3, none⟩) b9).trans b7)))
        have HU6 : Hid (Up w4 w6) := ((Up.drew _).trans u5).trans u6
        cases P with
        | false =>
          have he : E = 3 := by rw [← HE.out]; exact errI_3 _ _ _ HLL.out (by simp only; rw [HF.out]) HG.out (by rw [HLAST.out]; exact HPP.out)
          have HEE := Lib.hid he
          clear he
          go_wp2_with fail
          go_ret
          exact ⟨by rw [HEE.out]; rfl, HU4.out.trans HU6.out⟩
        | true =>
          have HLA : Hid (lastB l ⟨xs, xn, xt, xr⟩ = true) := by show _ = _; rw [HLAST.out]; exact HPP.out
          obtain ⟨Q, hQ⟩ : ∃ Q, l.any (txtB xt) = Q := ⟨_, rfl⟩
          have HF5 := Lib.hid (HFIN.out Q hQ HLA.out)
          have HQ := Lib.hid hQ
          clear hQ
          go_wp2_with fail
          refine (HEND.out _ HU6.out HLA.out).mono ?_
          rintro e w7 ⟨lb2, rfl, u7, hcon⟩
          have HCON := Lib.hid hcon
          clear hcon
          go_wp2_with fail
          refine HCON.out.mono ?_
          rintro e w8 ⟨rfl, u8⟩
          rw [HQ.out]
          cases Q with
          | true =>
            go_wp2_with fail
            go_ret
            exact ⟨by rw [HF5.out]; rfl, HU4.out.trans ((HU6.out.trans u7).trans u8)⟩
          | false =>
            go_wp2_with fail
            go_ret
            exact ⟨by rw [HF5.out]; rfl, HU4.out.trans ((HU6.out.trans u7).trans u8)⟩

end Go.Proofs.Ytnmdfdkagkpcaaa
