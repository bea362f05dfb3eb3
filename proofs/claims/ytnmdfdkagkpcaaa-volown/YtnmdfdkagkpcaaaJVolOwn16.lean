/-
  The texts NameV, VolA, one behind the other; each says below what it holds and on what conditions.
-/
import Derived.Test.YtnmdfdkagkpcaaaJVolOwn01
import Derived.Test.YtnmdfdkagkpcaaaJVolOwn08
import Derived.BigRegion
import Derived.Test.YtnmdfdkagkpcaaaJVolOwn14
import Derived.Test.YtnmdfdkagkpcaaaJVolOwn15

/-
  What vol's isNameByte and Name return. Conditions: as each says.
-/
namespace Go.Proofs.Ytnmdfdkagkpcaaa
open Go.RowKit
open Go.Proofs
open WoolBag
open WoolVol

theorem isName_any (c : UInt8) (w : World) : Calls Try.prog 82 #[.int .u8 ((c.toNat : Nat) : Int)] w fun e w' => e = .returned (.bool (nbB c)) ∧ w = w' := by
  have hv : nbB c = ((decide (97 ≤ c.toNat) && decide (c.toNat ≤ 122)) || (decide (48 ≤ c.toNat) && decide (c.toNat ≤ 57))) := rfl
  rw [hv]
  generalize c.toNat = z
  clear hv
  by_cases h1 : 97 ≤ z
  · by_cases h2 : z ≤ 122
    · go_enter Try.func82, Try.ntmps82
      go_wp2
      go_ret
      first | (simp; done) | (simp; constructor <;> omega) | (simp; omega)
    · by_cases h3 : 48 ≤ z
      · by_cases h4 : z ≤ 57
        · omega
        · have e : ((decide (97 ≤ z) && decide (z ≤ 122)) || (decide (48 ≤ z) && decide (z ≤ 57))) = false := by simp [h2, h4]
          rw [e]
          have d1 : decide ((z : Int) ≤ 57) = false := decide_eq_false (by omega)
          have d2 : decide ((z : Int) ≤ 122) = false := decide_eq_false (by omega)
          clear e
          go_enter Try.func82, Try.ntmps82
          go_wp2
          go_ret
          exact ⟨rfl, rfl⟩
      · omega
  · by_cases h3 : 48 ≤ z
    · by_cases h4 : z ≤ 57
      · go_enter Try.func82, Try.ntmps82
        go_wp2
        go_ret
        first | (simp; done) | (simp; constructor <;> omega) | (simp; omega)
      · go_enter Try.func82, Try.ntmps82
        go_wp2
        go_ret
        first | (simp; done) | (simp; constructor <;> omega) | (simp; omega)
    · go_enter Try.func82, Try.ntmps82
      go_wp2
      go_ret
      first | (simp; done) | (simp; constructor <;> omega) | (simp; omega)

def NameRel (s : List UInt8) (w : World) (i : Value) (wr : World) : Prop := ∃ k : Nat, k ≤ s.length ∧ i = .int .i64 k ∧ w = wr ∧ (s.take k).all nbB = true

set_option maxHeartbeats 400000 in
theorem name_any (s : List UInt8) (w : World) (hs : s.length ≤ 9223372036854775807) : Calls Try.prog 63 #[.string (bs s)] w fun e w' => e = .returned (.bool (nameB s)) ∧ w = w' := by
  have hsz := bs_size s
  by_cases h1 : s.length < 1
  · have hv : nameB s = false := by unfold nameB; simp; omega
    rw [hv]
    obtain ⟨n, hn⟩ : ∃ n, s.length = n := ⟨_, rfl⟩
    rw [hn] at hsz h1
    clear hn hv
    go_enter Try.func63, Try.ntmps63
    go_wp2
    go_ret
    exact ⟨rfl, rfl⟩
  by_cases h2 : 12 < s.length
  · have hv : nameB s = false := by unfold nameB; simp; omega
    rw [hv]
    obtain ⟨n, hn⟩ : ∃ n, s.length = n := ⟨_, rfl⟩
    rw [hn] at hsz h1 h2
    clear hn hv
    go_enter Try.func63, Try.ntmps63
    go_wp2
    go_ret
    exact ⟨rfl, rfl⟩
  have hv : nameB s = s.all nbB := by
    unfold nameB
    rw [decide_eq_true (by omega), decide_eq_true (by omega)]; simp
  rw [hv]
  clear hv
  obtain ⟨n, hn⟩ : ∃ n, s.length = n := ⟨_, rfl⟩
  have HN := Lib.hid hn
  rw [hn] at hsz h1 h2 hs
  clear hn
  go_enter Try.func63, Try.ntmps63
  go_wp2_with fail
  go_loopw [14] (fun i wr => NameRel s w i wr) (fun i _ => n - (intOf i).toNat)
  case atStart => exact ⟨0, Nat.zero_le _, rfl, rfl, rfl⟩
  case round =>
    obtain ⟨k, hk, rfl, rfl, hall⟩ := hrel
    rw [HN.out] at hk
    by_cases hlt : k < n
    · have hkl : k < s.length := by rw [HN.out]; exact hlt
      have hi := index_bs s k hkl
      have hst : (s.take (k + 1)).all nbB = nbB s[k] := by
        rw [List.take_succ_eq_append_getElem hkl, List.all_append, hall]; simp
      have hno : nbB s[k] = false → s.all nbB = false := by
        intro h
        cases ha : s.all nbB with
        | false => rfl
        | true => rw [List.all_eq_true] at ha; rw [ha _ (List.getElem_mem hkl)] at h; cases h
      have HST := Lib.hid hst
      have HNO := Lib.hid hno
      have HC := Lib.hid (fun W => isName_any s[k] W)
      clear hst hno hall
      generalize nbB s[k] = bb at *
      generalize (s[k].toNat : Nat) = z at *
      cases bb with
      | false =>
        have HF := Lib.hid (HNO.out rfl)
        go_wp2_with fail
        refine (HC.out _).mono ?_
        rintro e w1 ⟨rfl, rfl⟩
        go_wp2_with fail
        go_ret
        exact ⟨by rw [HF.out]; rfl, rfl⟩
      | true =>
        go_wp2_with fail
        refine (HC.out _).mono ?_
        rintro e w1 ⟨rfl, rfl⟩
        go_wp2_with fail
        go_roundw
        case rel => exact ⟨k + 1, by rw [HN.out]; omega, by go_num, rfl, HST.out⟩
        case measure => simp only [intOf]; omega
    · have hte : s.take k = s := List.take_of_length_le (by rw [HN.out]; omega)
      rw [hte] at hall
      have HF := Lib.hid hall
      clear hall hte
      go_wp2_with fail
      go_ret
      exact ⟨by rw [HF.out]; rfl, rfl⟩

end Go.Proofs.Ytnmdfdkagkpcaaa

/-
  What vol's unused, count and checkBlock return. Conditions: as each says.
-/
namespace Go.Proofs.Ytnmdfdkagkpcaaa
open Go.RowKit
open Go.Proofs
open Go.Maps
open WoolBag
open WoolVol

theorem grown_up {w w' : World} (h : Up w w') (r : Option Nat) : w.grownBy w' r := ⟨h.os, h.tape, h.output, h.size, fun k hk _ => h.block k hk⟩

theorem wf_small (z : Int) (h : -9223372036854775808 ≤ z ∧ z ≤ 9223372036854775807) : (Lit.int .i64 z).wf = true := WalkArith.wf_i64 h

theorem FP_le (t : List UInt8) : 0 ≤ FP t ∧ FP t < 1073741824 := by
  have := fp_le 65581 (by omega) (by omega) t
  unfold FP
  omega

/-- the identifiers of items fit -/
theorem wf_id {l : List Itm} (hb : Bag FP l) (k : Nat) (hk : k < l.length) : WfI (idOf l[k]) := by
  obtain ⟨_, h1, h2, h3, _⟩ := hb.ok _ (List.getElem_mem hk)
  have h4 := FP_le l[k].t
  refine ⟨wf_small _ ?_, wf_small _ ?_⟩
  · show _ ≤ l[k].s ∧ l[k].s ≤ _
    rw [h1]; omega
  · show _ ≤ l[k].n ∧ l[k].n ≤ _
    omega

/-- a block of one item's cells, just made -/
theorem item_new (W : World) (x : Itm) : (W.alloc (.cells (itC x).toArray 60)).cell? ⟨W.heap.size, 0, none⟩ = some (.int .i64 x.s) := World.cell?_alloc_new W _ _ 0

def UnRel (l : List Itm) (w : World) (B : Nat) (i : Value) (wr : World) : Prop := ∃ k : Nat, k ≤ l.length ∧ i = .int .i64 k ∧ Uses wr B k (l.take k) [] ∧ Below B w wr

def UnPost (w : World) (l : List Itm) (e : Ending) (w' : World) : Prop := ∃ B, e = .returned (.map (some B)) ∧ w.heap.size ≤ B ∧ Uses w' B l.length l [] ∧ Up w w'

set_option maxRecDepth 100000 in
set_option maxHeartbeats 1000000 in
theorem unused_any (v : Value) (l : List Itm) (w : World) (h : Items w v l) (hb : Bag FP l) : Calls Try.prog 36 #[v] w (UnPost w l) := by
  obtain ⟨o, c, rfl, h2, h3, h4⟩ := h
  unfold maxLen at h3
  have H4 := Lib.hid h4
  have HB := Lib.hid hb
  have hl := hb.len
  clear h4 hb
  have hmm := @run_makeMap Try.prog
  go_enter Try.func36, Try.ntmps36
  go_wp2_with fail
  clear hmm
  go_loopw [9] (fun i wr => UnRel l w w.heap.size i wr) (fun i _ => l.length - (intOf i).toNat)
  case atStart => exact ⟨0, Nat.zero_le _, rfl, (MapF.made w).congr (fun _ => rfl) (fun _ => rfl), Up.alloc _ _⟩
  case round =>
    obtain ⟨k, hk, rfl, hus, hu⟩ := hrel
    by_cases hlt : k < l.length
    · rcases H4.out with h5 | ⟨b, off, rfl, h5⟩
      · rw [h5] at hlt; simp at hlt
      · obtain ⟨a1, a2, a3, a4⟩ := h5 k hlt
        rw [← hu.cell (World.block_lt_of_cell? w _ a1)] at a1
        rw [← hu.cell (World.block_lt_of_cell? w _ a2)] at a2
        rw [← hu.cell (World.block_lt_of_cell? w _ a3)] at a3
        rw [← hu.cell (World.block_lt_of_cell? w _ a4)] at a4
        have HWF := Lib.hid (wf_id HB.out k hlt)
        have HT : Hid (l.take (k + 1) = l.take k ++ [l[k]]) := List.take_succ_eq_append_getElem hlt
        have HID : Hid (∀ W, Calls Try.prog 62 #[.agg #[.int .i64 l[k].s, .int .i64 l[k].n, .string (bs l[k].t), .int .i64 l[k].r]] W fun e w' => e = .returned (idV (idOf l[k])) ∧ Up W w') := fun W => identifier_any l[k] W
        generalize l[k] = x at *
        have HU := Lib.hid hu
        have HUS := Lib.hid hus
        have d1 : decide (k < l.length) = true := decide_eq_true hlt
        obtain ⟨xs, xn, xt, xr⟩ := x
        simp only at a1 a2 a3 a4 HID
        clear h5 hu hus
        go_wp2_with fail
        refine (HID.out _).mono ?_
        rintro e w1 ⟨rfl, u1⟩
        have HUS1 : Hid (Uses w1 w.heap.size k (l.take k) []) := (HUS.out.up (Up.alloc _ _)).up u1
        have HU1 : Hid (Up w w1) := (show Up w wr from HU.out).trans ((Up.alloc _ _).trans u1)
        clear u1
        go_wp2_with (at_mapUpdate; refine wp_store rfl _ _ _ rfl w.heap.size k _ _ rfl HUS1.out (by unfold maxLen; omega) (idOf ⟨xs, xn, xt, xr⟩) HWF.out 0 (by decide) rfl rfl ?_; intro w2 hm2 hg2)
        go_roundw
        case rel => exact ⟨k + 1, by omega, by go_num, by rw [HT.out]; exact Uses.start hm2, Below.grown HU1.out hg2 HU1.out.size (fun j hj => by cases hj; exact Nat.le_refl _)⟩
        case measure => simp only [intOf]; omega
    · have d1 : decide (k < l.length) = false := decide_eq_false hlt
      have hke : k = l.length := by omega
      subst hke
      rw [List.take_length] at hus
      have HUS := Lib.hid hus
      have HU := Lib.hid hu
      clear hus hu
      go_wp2_with fail
      go_ret
      exact ⟨w.heap.size, rfl, Nat.le_refl _, HUS.out, HU.out⟩

set_option maxRecDepth 100000 in
set_option maxHeartbeats 1000000 in
theorem count_any (i : Idn) (B n : Nat) (l : List Itm) (all : List Idn) (w : World) (hU : Uses w B n l all) (hn : n < maxLen) (hi : WfI i) (hin : i.1 = true → l.any (idB i) = true) (hall : all.length ≤ 100000) :
    Calls Try.prog 65 #[idV i, .map (some B)] w fun e w' => e = .returned (.tuple #[]) ∧ Uses w' B (n + 1) l (all ++ [i]) ∧ w.grownBy w' (some B) := by
  obtain ⟨b, s, m⟩ := i
  cases b with
  | false =>
    unfold idV
    simp only
    go_enter Try.func65, Try.ntmps65
    go_wp2_with fail
    go_end0
    exact ⟨rfl, (Uses.hole rfl (MapF.mono (hU.up (Up.alloc _ _)) (Nat.le_succ _))), (World.grownBy_alloc w _ _)⟩
  | true =>
    have hany := hin rfl
    have hA := (hU.up (Up.alloc w (.cells #[.bool true, .int .i64 s, .int .i64 m] 51))).up (Up.drew _)
    obtain ⟨st, h1, h2, h3, h4⟩ := MapF.inc hA hn (true, s, m) hi (by unfold hasU; exact hany)
    have hc : useU l all (true, s, m) = cnt all (true, s, m) := by unfold useU; rw [if_pos hany]
    rw [hc] at h1 h2 h3
    have hc1 := cnt_nonneg all (true, s, m)
    have hc2 := cnt_le all (true, s, m)
    obtain ⟨z, hz⟩ : ∃ z, cnt all (true, s, m) = z := ⟨_, rfl⟩
    have hw : IntKind.i64.wrap (cnt all (true, s, m) + 1) = cnt all (true, s, m) + 1 := IntWalk.i64_in _ (by omega)
    obtain ⟨w', h5, h6, h7⟩ := h4 (cnt all (true, s, m) + 1) (wf_small _ (by omega))
    have HM : Hid (Uses w' B (n + 1) l (all ++ [(true, s, m)])) := Uses.more hany h6
    have HG : Hid (w.grownBy w' (some B)) := (grown_up ((Up.alloc w _).trans (Up.drew _)) _).trans h7
    rw [hz] at h1 h2 hw h5
    unfold idV at h1 h2 ⊢
    unfold goInt at h1 h5
    simp only at h1 h2 ⊢
    clear h3 h4 h6 h7 hc hz hc1 hc2 hA hU hin hany
    go_enter Try.func65, Try.ntmps65
    go_wp2_with fail
    go_region
    all_goals
      go_end0
      exact ⟨rfl, HM.out, HG.out⟩

set_option maxRecDepth 100000 in
set_option maxHeartbeats 1000000 in
theorem checkBlock_any (i : Idn) (B n : Nat) (l : List Itm) (all : List Idn) (w : World) (hU : Uses w B n l all) (hi : WfI i) :
    Calls Try.prog 64 #[idV i, .map (some B)] w fun e w' => e = .returned (.int .i64 (errB l i)) ∧ Up w w' := by
  obtain ⟨b, s, m⟩ := i
  have HUS := Lib.hid hU
  have HWF := Lib.hid hi
  have he : errB l (b, s, m) = if !b && !(((b, s, m) : Idn) == noId) then 3 else if b && !(hasU l (b, s, m)) then 4 else 0 := rfl
  cases b with
  | false =>
    have e2 : (((false, s, m) : Idn) == noId) = ((s == 0) && (m == 0)) := by
      unfold noId
      rw [Bool.eq_iff_iff]
      simp
    rw [e2] at he
    obtain ⟨E, hE⟩ : ∃ E, errB l (false, s, m) = E := ⟨_, rfl⟩
    rw [hE] at he ⊢
    have hno : hasU l (false, s, m) = false := by
      unfold hasU
      rw [List.any_eq_false]
      intro x _
      unfold idB
      simp
    by_cases hz : s = 0 ∧ m = 0
    · obtain ⟨rfl, rfl⟩ := hz
      have HE := Lib.hid he
      have HH := Lib.hid hno
      clear he hE e2 hU hi hno
      unfold idV
      simp only
      go_enter Try.func64, Try.ntmps64
      go_wp2_with (at_lookup; refine wp_look_ok rfl _ _ rfl B n _ _ rfl (HUS.out.up (by first | exact Up.alloc _ _ | exact (Up.alloc _ _).trans (Up.alloc _ _))) (false, 0, 0) HWF.out rfl ?_; rw [HH.out])
      go_ret
      exact ⟨by rw [HE.out]; rfl, by first | exact Up.alloc _ _ | exact (Up.alloc _ _).trans (Up.alloc _ _)⟩
    · have hz2 : ((s == 0) && (m == 0)) = false := by
        rw [Bool.and_eq_false_iff]
        by_cases h0 : s = 0
        · right; simp; intro h1; exact hz ⟨h0, h1⟩
        · left; simpa using h0
      rw [hz2] at he
      have HE := Lib.hid he
      clear he hE e2 hU hi hno HUS HWF
      unfold idV
      simp only
      go_enter Try.func64, Try.ntmps64
      go_wp2_with fail
      all_goals
        first
        | (exfalso; omega)
        | (go_ret; exact ⟨by rw [HE.out]; rfl, Up.alloc _ _⟩)
  | true =>
    obtain ⟨E, hE⟩ : ∃ E, errB l (true, s, m) = E := ⟨_, rfl⟩
    rw [hE] at he ⊢
    cases hh : hasU l (true, s, m) with
    | false =>
      rw [hh] at he
      have HE := Lib.hid he
      have HH := Lib.hid hh
      clear he hE hU hi hh
      unfold idV
      simp only
      go_enter Try.func64, Try.ntmps64
      go_wp2_with (at_lookup; refine wp_look_ok rfl _ _ rfl B n _ _ rfl (HUS.out.up (Up.alloc _ _)) (true, s, m) HWF.out rfl ?_; rw [HH.out])
      go_ret
      exact ⟨by rw [HE.out]; rfl, Up.alloc _ _⟩
    | true =>
      rw [hh] at he
      have HE := Lib.hid he
      have HH := Lib.hid hh
      clear he hE hU hi hh
      unfold idV
      simp only
      go_enter Try.func64, Try.ntmps64
      go_wp2_with (at_lookup; refine wp_look_ok rfl _ _ rfl B n _ _ rfl (HUS.out.up (Up.alloc _ _)) (true, s, m) HWF.out rfl ?_; rw [HH.out])
      go_ret
      exact ⟨by rw [HE.out]; rfl, Up.alloc _ _⟩

end Go.Proofs.Ytnmdfdkagkpcaaa
