/-
  The texts VolA, VolB, one behind the other; each says below what it holds and on what conditions.
-/
import Derived.Test.YtcbppfndlagodaaGreatDoorJVolMakes13
import Derived.Test.YtcbppfndlagodaaGreatDoorJVolMakes06
import Derived.BigRegion
import Derived.Test.YtcbppfndlagodaaGreatDoorJVolMakes07

/-
  What vol's isNameByte, Name, unused, count and checkBlock return. Conditions: as each says.
-/
namespace Go.Proofs.YtcbppfndlagodaaGreatDoor
open Go.RowKit
open Go.Proofs
open Go.Maps
open WoolBag
open WoolVol

theorem grown_up {w w' : World} (h : Up w w') (r : Option Nat) : w.grownBy w' r := ⟨h.os, h.tape, h.output, h.size, fun k hk _ => h.block k hk⟩

theorem isName_any (c : UInt8) (w : World) : Calls Tryz.prog 81 #[.int .u8 ((c.toNat : Nat) : Int)] w fun e w' => e = .returned (.bool (nbB c)) ∧ w = w' := by
  have hv : nbB c = ((decide (97 ≤ c.toNat) && decide (c.toNat ≤ 122)) || (decide (48 ≤ c.toNat) && decide (c.toNat ≤ 57))) := rfl
  rw [hv]
  generalize c.toNat = z
  clear hv
  by_cases h1 : 97 ≤ z
  · by_cases h2 : z ≤ 122
    · go_enter Tryz.func81, Tryz.ntmps81
      go_wp2
      go_ret
      first | (simp; done) | (simp; constructor <;> omega) | (simp; omega)
    · by_cases h3 : 48 ≤ z
      · by_cases h4 : z ≤ 57
        · omega
        · have e : ((decide (97 ≤ z) && decide (z ≤ 122)) || (decide (48 ≤ z) && decide (z ≤ 57))) = false := by simp [h2, h4]
          rw [e]
          have d1 : decide ((z : Int) ≤ 57) = false := decide_eq_false (by omega)
          have d2 : decide ((z : Int) ≤ 122) = false := decide_eq_false (by omega)
          clear e
          go_enter Tryz.func81, Tryz.ntmps81
          go_wp2
          go_ret
          exact ⟨rfl, rfl⟩
      · omega
  · by_cases h3 : 48 ≤ z
    · by_cases h4 : z ≤ 57
      · go_enter Tryz.func81, Tryz.ntmps81
        go_wp2
        go_ret
        first | (simp; done) | (simp; constructor <;> omega) | (simp; omega)
      · go_enter Tryz.func81, Tryz.ntmps81
        go_wp2
        go_ret
        first | (simp; done) | (simp; constructor <;> omega) | (simp; omega)
    · go_enter Tryz.func81, Tryz.ntmps81
      go_wp2
      go_ret
      first | (simp; done) | (simp; constructor <;> omega) | (simp; omega)

def NameRel (s : List UInt8) (w : World) (i : Value) (wr : World) : Prop := ∃ k : Nat, k ≤ s.length ∧ i = .int .i64 k ∧ w = wr ∧ (s.take k).all nbB = true

set_option maxHeartbeats 400000 in
theorem name_any (s : List UInt8) (w : World) (hs : s.length ≤ 9223372036854775807) : Calls Tryz.prog 52 #[.string (bs s)] w fun e w' => e = .returned (.bool (nameB s)) ∧ w = w' := by
  have hsz := bs_size s
  by_cases h1 : s.length < 1
  · have hv : nameB s = false := by unfold nameB; simp; omega
    rw [hv]
    obtain ⟨n, hn⟩ : ∃ n, s.length = n := ⟨_, rfl⟩
    rw [hn] at hsz h1
    clear hn hv
    go_enter Tryz.func52, Tryz.ntmps52
    go_wp2
    go_ret
    exact ⟨rfl, rfl⟩
  by_cases h2 : 12 < s.length
  · have hv : nameB s = false := by unfold nameB; simp; omega
    rw [hv]
    obtain ⟨n, hn⟩ : ∃ n, s.length = n := ⟨_, rfl⟩
    rw [hn] at hsz h1 h2
    clear hn hv
    go_enter Tryz.func52, Tryz.ntmps52
    go_wp2
    go_ret
    exact ⟨rfl, rfl⟩
  have hv : nameB s = s.all nbB := by
    unfold nameB
    rw [decide_eq_true (by omega), decide_eq_true (by omega)]; simp
  rw [hv]
  clear hv
  obtain ⟨n, hn⟩ : ∃ n, s.length = n := ⟨_, rfl⟩
  have HN := Lib.hid hn
  rw [hn] at hsz h1 h2 hs
  clear hn
  go_enter Tryz.func52, Tryz.ntmps52
  go_wp2_with fail
  go_loopw [14] (fun i wr => NameRel s w i wr) (fun i _ => n - (intOf i).toNat)
  case atStart => exact ⟨0, Nat.zero_le _, rfl, rfl, rfl⟩
  case round =>
    obtain ⟨k, hk, rfl, rfl, hall⟩ := hrel
    rw [HN.out] at hk
    by_cases hlt : k < n
    · have hkl : k < s.length := by rw [HN.out]; exact hlt
      have hi := index_bs s k hkl
      have hst : (s.take (k + 1)).all nbB = nbB s[k] := by
        rw [List.take_succ_eq_append_getElem hkl, List.all_append, hall]; simp
      have hno : nbB s[k] = false → s.all nbB = false := by
        intro h
        cases ha : s.all nbB with
        | false => rfl
        | true => rw [List.all_eq_true] at ha; rw [ha _ (List.getElem_mem hkl)] at h; cases h
      have HST := Lib.hid hst
      have HNO := Lib.hid hno
      have HC := Lib.hid (fun W => isName_any s[k] W)
      clear hst hno hall
      generalize nbB s[k] = bb at *
      generalize (s[k].toNat : Nat) = z at *
      cases bb with
      | false =>
        have HF := Lib.hid (HNO.out rfl)
        go_wp2_with fail
        refine (HC.out _).mono ?_
        rintro e w1 ⟨rfl, rfl⟩
        go_wp2_with fail
        go_ret
        exact ⟨by rw [HF.out]; rfl, rfl⟩
      | true =>
        go_wp2_with fail
        refine (HC.out _).mono ?_
        rintro e w1 ⟨rfl, rfl⟩
        go_wp2_with fail
        go_roundw
        case rel => exact ⟨k + 1, by rw [HN.out]; omega, by go_num, rfl, HST.out⟩
        case measure => simp only [intOf]; omega
    · have hte : s.take k = s := List.take_of_length_le (by rw [HN.out]; omega)
      rw [hte] at hall
      have HF := Lib.hid hall
      clear hall hte
      go_wp2_with fail
      go_ret
      exact ⟨by rw [HF.out]; rfl, rfl⟩

theorem wf_small (z : Int) (h : -9223372036854775808 ≤ z ∧ z ≤ 9223372036854775807) : (Lit.int .i64 z).wf = true := WalkArith.wf_i64 h

theorem FP_le (t : List UInt8) : 0 ≤ FP t ∧ FP t < 1073741824 := by
  have := fp_le 65581 (by omega) (by omega) t
  unfold FP
  omega

/-- the identifiers of items fit -/
theorem wf_id {l : List Itm} (hb : Bag FP l) (k : Nat) (hk : k < l.length) : WfI (idOf l[k]) := by
  obtain ⟨_, h1, h2, h3, _⟩ := hb.ok _ (List.getElem_mem hk)
  have h4 := FP_le l[k].t
  refine ⟨wf_small _ ?_, wf_small _ ?_⟩
  · show _ ≤ l[k].s ∧ l[k].s ≤ _
    rw [h1]; omega
  · show _ ≤ l[k].n ∧ l[k].n ≤ _
    omega

/-- a block of one item's cells, just made -/
theorem item_new (W : World) (x : Itm) : (W.alloc (.cells (itC x).toArray 70)).cell? ⟨W.heap.size, 0, none⟩ = some (.int .i64 x.s) := World.cell?_alloc_new W _ _ 0

def UnRel (l : List Itm) (w : World) (B : Nat) (i : Value) (wr : World) : Prop := ∃ k : Nat, k ≤ l.length ∧ i = .int .i64 k ∧ Uses wr B k (l.take k) [] ∧ Below B w wr

def UnPost (w : World) (l : List Itm) (e : Ending) (w' : World) : Prop := ∃ B, e = .returned (.map (some B)) ∧ w.heap.size ≤ B ∧ Uses w' B l.length l [] ∧ Up w w'

set_option maxRecDepth 100000 in
set_option maxHeartbeats 1000000 in
theorem unused_any (v : Value) (l : List Itm) (w : World) (h : Items w v l) (hb : Bag FP l) : Calls Tryz.prog 49 #[v] w (UnPost w l) := by
  obtain ⟨o, c, rfl, h2, h3, h4⟩ := h
  unfold maxLen at h3
  have H4 := Lib.hid h4
  have HB := Lib.hid hb
  have hl := hb.len
  clear h4 hb
  have hmm := @run_makeMap Tryz.prog
  go_enter Tryz.func49, Tryz.ntmps49
  go_wp2_with fail
  clear hmm
  go_loopw [9] (fun i wr => UnRel l w w.heap.size i wr) (fun i _ => l.length - (intOf i).toNat)
  case atStart => exact ⟨0, Nat.zero_le _, rfl, (MapF.made w).congr (fun _ => rfl) (fun _ => rfl), Up.alloc _ _⟩
  case round =>
    obtain ⟨k, hk, rfl, hus, hu⟩ := hrel
    by_cases hlt : k < l.length
    · rcases H4.out with h5 | ⟨b, off, rfl, h5⟩
      · rw [h5] at hlt; simp at hlt
      · obtain ⟨a1, a2, a3, a4⟩ := h5 k hlt
        rw [← hu.cell (World.block_lt_of_cell? w _ a1)] at a1
        rw [← hu.cell (World.block_lt_of_cell? w _ a2)] at a2
        rw [← hu.cell (World.block_lt_of_cell? w _ a3)] at a3
        rw [← hu.cell (World.block_lt_of_cell? w _ a4)] at a4
        have HWF := Lib.hid (wf_id HB.out k hlt)
        have HT : Hid (l.take (k + 1) = l.take k ++ [l[k]]) := List.take_succ_eq_append_getElem hlt
        have HID : Hid (∀ W, Calls Tryz.prog 61 #[.agg #[.int .i64 l[k].s, .int .i64 l[k].n, .string (bs l[k].t), .int .i64 l[k].r]] W fun e w' => e = .returned (idV (idOf l[k])) ∧ Up W w') := fun W => identifier_any l[k] W
        generalize l[k] = x at *
        have HU := Lib.hid hu
        have HUS := Lib.hid hus
        have d1 : decide (k < l.length) = true := decide_eq_true hlt
        obtain ⟨xs, xn, xt, xr⟩ := x
        simp only at a1 a2 a3 a4 HID
        clear h5 hu hus
        go_wp2_with fail
        refine (HID.out _).mono ?_
        rintro e w1 ⟨rfl, u1⟩
        have HUS1 : Hid (Uses w1 w.heap.size k (l.take k) []) := (HUS.out.up (Up.alloc _ _)).up u1
        have HU1 : Hid (Up w w1) := (show Up w wr from HU.out).trans ((Up.alloc _ _).trans u1)
        clear u1
        go_wp2_with (at_mapUpdate; refine wp_store rfl _ _ _ rfl w.heap.size k _ _ rfl HUS1.out (by unfold maxLen; omega) (idOf ⟨xs, xn, xt, xr⟩) HWF.out 0 (by decide) rfl rfl ?_; intro w2 hm2 hg2)
        go_roundw
        case rel => exact ⟨k + 1, by omega, by go_num, by rw [HT.out]; exact Uses.start hm2, Below.grown HU1.out hg2 HU1.out.size (fun j hj => by cases hj; exact Nat.le_refl _)⟩
        case measure => simp only [intOf]; omega
    · have d1 : decide (k < l.length) = false := decide_eq_false hlt
      have hke : k = l.length := by omega
      subst hke
      rw [List.take_length] at hus
      have HUS := Lib.hid hus
      have HU := Lib.hid hu
      clear hus hu
      go_wp2_with fail
      go_ret
      exact ⟨w.heap.size, rfl, Nat.le_refl _, HUS.out, HU.out⟩

set_option maxRecDepth 100000 in
set_option maxHeartbeats 1000000 in
theorem count_any (i : Idn) (B n : Nat) (l : List Itm) (all : List Idn) (w : World) (hU : Uses w B n l all) (hn : n < maxLen) (hi : WfI i) (hin : i.1 = true → l.any (idB i) = true) (hall : all.length ≤ 100000) :
    Calls Tryz.prog 60 #[idV i, .map (some B)] w fun e w' => e = .returned (.tuple #[]) ∧ Uses w' B (n + 1) l (all ++ [i]) ∧ w.grownBy w' (some B) := by
  obtain ⟨b, s, m⟩ := i
  cases b with
  | false =>
    unfold idV
    simp only
    go_enter Tryz.func60, Tryz.ntmps60
    go_wp2_with fail
    go_end0
    exact ⟨rfl, (Uses.hole rfl (MapF.mono (hU.up (Up.alloc _ _)) (Nat.le_succ _))), (World.grownBy_alloc w _ _)⟩
  | true =>
    have hany := hin rfl
    have hA := (hU.up (Up.alloc w (.cells #[.bool true, .int .i64 s, .int .i64 m] 49))).up (Up.drew _)
    obtain ⟨st, h1, h2, h3, h4⟩ := MapF.inc hA hn (true, s, m) hi (by unfold hasU; exact hany)
    have hc : useU l all (true, s, m) = cnt all (true, s, m) := by unfold useU; rw [if_pos hany]
    rw [hc] at h1 h2 h3
    have hc1 := cnt_nonneg all (true, s, m)
    have hc2 := cnt_le all (true, s, m)
    obtain ⟨z, hz⟩ : ∃ z, cnt all (true, s, m) = z := ⟨_, rfl⟩
    have hw : IntKind.i64.wrap (cnt all (true, s, m) + 1) = cnt all (true, s, m) + 1 := IntWalk.i64_in _ (by omega)
    obtain ⟨w', h5, h6, h7⟩ := h4 (cnt all (true, s, m) + 1) (wf_small _ (by omega))
    have HM : Hid (Uses w' B (n + 1) l (all ++ [(true, s, m)])) := Uses.more hany h6
    have HG : Hid (w.grownBy w' (some B)) := (grown_up ((Up.alloc w _).trans (Up.drew _)) _).trans h7
    rw [hz] at h1 h2 hw h5
    unfold idV at h1 h2 ⊢
    unfold goInt at h1 h5
    simp only at h1 h2 ⊢
    clear h3 h4 h6 h7 hc hz hc1 hc2 hA hU hin hany
    go_enter Tryz.func60, Tryz.ntmps60
    go_wp2_with fail
    go_region
    all_goals
      go_end0
      exact ⟨rfl, HM.out, HG.out⟩

set_option maxRecDepth 100000 in
set_option maxHeartbeats 1000000 in
theorem checkBlock_any (i : Idn) (B n : Nat) (l : List Itm) (all : List Idn) (w : World) (hU : Uses w B n l all) (hi : WfI i) :
    Calls Tryz.prog 80 #[idV i, .map (some B)] w fun e w' => e = .returned (.int .i64 (errB l i)) ∧ Up w w' := by
  obtain ⟨b, s, m⟩ := i
  have HUS := Lib.hid hU
  have HWF := Lib.hid hi
  have he : errB l (b, s, m) = if !b && !(((b, s, m) : Idn) == noId) then 3 else if b && !(hasU l (b, s, m)) then 4 else 0 := rfl
  cases b with
  | false =>
    have e2 : (((false, s, m) : Idn) == noId) = ((s == 0) && (m == 0)) := by
      unfold noId
      rw [Bool.eq_iff_iff]
      simp
    rw [e2] at he
    obtain ⟨E, hE⟩ : ∃ E, errB l (false, s, m) = E := ⟨_, rfl⟩
    rw [hE] at he ⊢
    have hno : hasU l (false, s, m) = false := by
      unfold hasU
      rw [List.any_eq_false]
      intro x _
      unfold idB
      simp
    by_cases hz : s = 0 ∧ m = 0
    · obtain ⟨rfl, rfl⟩ := hz
      have HE := Lib.hid he
      have HH := Lib.hid hno
      clear he hE e2 hU hi hno
      unfold idV
      simp only
      go_enter Tryz.func80, Tryz.ntmps80
      go_wp2_with (at_lookup; refine wp_look_ok rfl _ _ rfl B n _ _ rfl (HUS.out.up (by first | exact Up.alloc _ _ | exact (Up.alloc _ _).trans (Up.alloc _ _))) (false, 0, 0) HWF.out rfl ?_; rw [HH.out])
      go_ret
      exact ⟨by rw [HE.out]; rfl, by first | exact Up.alloc _ _ | exact (Up.alloc _ _).trans (Up.alloc _ _)⟩
    · have hz2 : ((s == 0) && (m == 0)) = false := by
        rw [Bool.and_eq_false_iff]
        by_cases h0 : s = 0
        · right; simp; intro h1; exact hz ⟨h0, h1⟩
        · left; simpa using h0
      rw [hz2] at he
      have HE := Lib.hid he
      clear he hE e2 hU hi hno HUS HWF
      unfold idV
      simp only
      go_enter Tryz.func80, Tryz.ntmps80
      go_wp2_with fail
      all_goals
        first
        | (exfalso; omega)
        | (go_ret; exact ⟨by rw [HE.out]; rfl, Up.alloc _ _⟩)
  | true =>
    obtain ⟨E, hE⟩ : ∃ E, errB l (true, s, m) = E := ⟨_, rfl⟩
    rw [hE] at he ⊢
    cases hh : hasU l (true, s, m) with
    | false =>
      rw [hh] at he
      have HE := Lib.hid he
      have HH := Lib.hid hh
      clear he hE hU hi hh
      unfold idV
      simp only
      go_enter Tryz.func80, Tryz.ntmps80
      go_wp2_with (at_lookup; refine wp_look_ok rfl _ _ rfl B n _ _ rfl (HUS.out.up (Up.alloc _ _)) (true, s, m) HWF.out rfl ?_; rw [HH.out])
      go_ret
      exact ⟨by rw [HE.out]; rfl, Up.alloc _ _⟩
    | true =>
      rw [hh] at he
      have HE := Lib.hid he
      have HH := Lib.hid hh
      clear he hE hU hi hh
      unfold idV
      simp only
      go_enter Tryz.func80, Tryz.ntmps80
      go_wp2_with (at_lookup; refine wp_look_ok rfl _ _ rfl B n _ _ rfl (HUS.out.up (Up.alloc _ _)) (true, s, m) HWF.out rfl ?_; rw [HH.out])
      go_ret
      exact ⟨by rw [HE.out]; rfl, Up.alloc _ _⟩

end Go.Proofs.YtcbppfndlagodaaGreatDoor

/-
  What vol's checkVol, checkRefs and Check return. Conditions: as each says.
-/
namespace Go.Proofs.YtcbppfndlagodaaGreatDoor
open Go.RowKit
open Go.Proofs
open Go.Maps
open WoolBag
open WoolVol

theorem slt_bytes : ∀ a b : List UInt8, Op.bytesLess a b = slt a b
  | a, [] => by cases a <;> rfl
  | [], _ :: _ => rfl
  | x :: a, y :: b => by
    show (decide (x < y) || (x == y && Op.bytesLess a b)) = (decide (x < y) || (x == y && slt a b))
    rw [slt_bytes a b]

theorem sle_bs (a b : List UInt8) : ∀ W : World, (binOp .leq 9 (.string (bs a)) (.string (bs b))).run Tryz.prog W = .ok (.bool (sle a b)) W := by
  intro W
  have h1 : (bs a).toList = a := by rw [ByteArray.toList_eq, bs_list]
  have h2 : (bs b).toList = b := by rw [ByteArray.toList_eq, bs_list]
  simp [binOp, Op.stringOp, h1, h2, slt_bytes, sle]

theorem sgt_bs (a b : List UInt8) : ∀ W : World, (binOp .gtr 9 (.string (bs a)) (.string (bs b))).run Tryz.prog W = .ok (.bool (!(sle a b))) W := by
  intro W
  have h1 : (bs a).toList = a := by rw [ByteArray.toList_eq, bs_list]
  have h2 : (bs b).toList = b := by rw [ByteArray.toList_eq, bs_list]
  simp [binOp, Op.stringOp, h1, h2, slt_bytes, sle]

theorem slt_bs (a b : List UInt8) : ∀ W : World, (binOp .lss 9 (.string (bs a)) (.string (bs b))).run Tryz.prog W = .ok (.bool (slt a b)) W := by
  intro W
  have h1 : (bs a).toList = a := by rw [ByteArray.toList_eq, bs_list]
  have h2 : (bs b).toList = b := by rw [ByteArray.toList_eq, bs_list]
  simp [binOp, Op.stringOp, h1, h2, slt_bytes]

/-- a map's block holds no cells -/
theorem MapF.apart {w : World} {B n : Nat} {h : Idn → Bool} {c : Idn → Int} (k : MapF w B n h c) {p : Addr} {v : Value} (hc : w.cell? p = some v) : p.block ≠ B := by
  obtain ⟨D, ⟨es, clock, hb, _⟩, _⟩ := k
  intro e
  unfold World.cell? at hc
  rw [e, hb] at hc
  simp at hc

theorem Ids.apart {w : World} {B n : Nat} {h : Idn → Bool} {c : Idn → Int} (k : MapF w B n h c) {v : Value} {l : List Idn} (hi : Ids w v l) (hne : l ≠ []) : ∀ b, v.ownBlock = some b → some B ≠ some b := by
  obtain ⟨o, c', rfl, _, _⟩ := hi.slice
  obtain ⟨b', off, rfl, h1⟩ := hi.at hne
  intro b hb e
  cases hb
  cases e
  have hl : 0 < l.length := List.length_pos_iff.2 hne
  exact k.apart (h1 0 hl).1 rfl

/-- a cell kept by a growth of other blocks -/
theorem grown_cell {w w' : World} {B : Nat} (hg : w.grownBy w' (some B)) {p : Addr} {v : Value} (hc : w.cell? p = some v) (hne : p.block ≠ B) : w'.cell? p = some v := by
  have hlt := World.block_lt_of_cell? w _ hc
  have hb := hg.block p.block hlt (fun e => hne (by cases e; rfl))
  unfold World.cell? at hc ⊢
  rw [hb]; exact hc

def CVRel (x : Vo) (l : List Itm) (all : List Idn) (B n : Nat) (w0 : World) (i : Value) (wr : World) : Prop :=
  ∃ k : Nat, k ≤ x.bl.length ∧ i = .int .i64 k ∧ Uses wr B (n + k) l (all ++ x.bl.take k) ∧ w0.grownBy wr (some B) ∧ ∀ i ∈ x.bl.take k, errB l i = 0

def CVPost (x : Vo) (bf : List UInt8) (l : List Itm) (all : List Idn) (B n : Nat) (w : World) (e : Ending) (w' : World) : Prop :=
  e = .returned (.int .i64 (chkV l bf x)) ∧ w.grownBy w' (some B) ∧ (chkV l bf x = 0 → Uses w' B (n + 32) l (all ++ x.bl))

set_option maxRecDepth 100000 in
set_option maxHeartbeats 1000000 in
theorem checkVol_any (bf : List UInt8) (x : Vo) (u : Value) (B n : Nat) (l : List Itm) (all : List Idn) (w : World) (hx : Ids w u x.bl) (hU : Uses w B n l all) (hwf : ∀ i ∈ x.bl, WfI i) (hn : n ≤ 1000) (hall : all.length ≤ 1000) (hnm : x.nm.length ≤ 9223372036854775807) :
    Calls Tryz.prog 50 #[.string (bs bf), .agg #[.string (bs x.nm), u], .map (some B)] w (CVPost x bf l all B n w) := by
  have hle := sle_bs x.nm bf
  have HNM := Lib.hid (fun W => name_any x.nm W hnm)
  obtain ⟨o, c, rfl, hc1, hc2⟩ := hx.slice
  unfold maxLen at hc2
  have HX := Lib.hid hx
  have HUS := Lib.hid hU
  have HWF := Lib.hid hwf
  have hBl : B < w.heap.size := hU.lt
  clear hx hU hwf
  obtain ⟨E, hE⟩ : ∃ E, chkV l bf x = E := ⟨_, rfl⟩
  unfold CVPost
  rw [hE]
  unfold chkV at hE
  have HE := Lib.hid hE
  clear hE hnm
  obtain ⟨q, hq⟩ : ∃ q, nameB x.nm = q := ⟨_, rfl⟩
  obtain ⟨r, hr⟩ : ∃ r, sle x.nm bf = r := ⟨_, rfl⟩
  rw [hq] at HNM HE
  rw [hr] at hle HE
  clear hq hr
  obtain ⟨nm, hnm⟩ : ∃ nm, bs x.nm = nm := ⟨_, rfl⟩
  rw [hnm] at HNM hle ⊢
  clear hnm
  cases q with
  | false =>
    clear HX HUS HWF hle
    go_enter Tryz.func50, Tryz.ntmps50
    go_wp2_with fail
    refine (HNM.out _).mono ?_
    rintro e w1 ⟨rfl, rfl⟩
    go_wp2_with fail
    go_ret
    exact ⟨by rw [← HE.out]; rfl, World.grownBy_alloc w _ _, by rw [← HE.out]; intro h; cases h⟩
  | true =>
    cases r with
    | true =>
      clear HX HUS HWF
      go_enter Tryz.func50, Tryz.ntmps50
      go_wp2_with fail
      refine (HNM.out _).mono ?_
      rintro e w1 ⟨rfl, rfl⟩
      go_wp2_with fail
      go_ret
      exact ⟨by rw [← HE.out]; rfl, World.grownBy_alloc w _ _, by rw [← HE.out]; intro h; cases h⟩
    | false =>
      by_cases hbig : 32 < x.bl.length
      · have HE2 : Hid (E = 2) := by have := HE.out; rw [if_neg (by simp), if_pos hbig] at this; exact this.symm
        clear HX HUS HWF HE
        go_enter Tryz.func50, Tryz.ntmps50
        go_wp2_with fail
        refine (HNM.out _).mono ?_
        rintro e w1 ⟨rfl, rfl⟩
        go_wp2_with fail
        go_ret
        exact ⟨by rw [HE2.out]; rfl, World.grownBy_alloc w _ _, by rw [HE2.out]; intro h; cases h⟩
      · have HE2 : Hid (chkB l x.bl = E) := by have := HE.out; rw [if_neg (by simp), if_neg hbig] at this; exact this
        clear HE
        have HA : Hid (∀ _ : Nat, Uses (w.alloc (.cells #[.string nm, .slice o x.bl.length c] 47)) B n l all) := fun _ => HUS.out.up (Up.alloc _ _)
        obtain ⟨N, hN⟩ : ∃ N, x.bl.length = N := ⟨_, rfl⟩
        have HN := Lib.hid hN
        rw [hN] at hc1 hbig HA
        rw [hN]
        clear hN
        go_enter Tryz.func50, Tryz.ntmps50
        go_wp2_with fail
        refine (HNM.out _).mono ?_
        rintro e w1 ⟨rfl, rfl⟩
        go_wp2_with fail
        go_loopw [27] (fun i wr => CVRel x l all B n w i wr) (fun i _ => N - (intOf i).toNat)
        case atStart => exact ⟨0, Nat.zero_le _, rfl, by simpa using HA.out 0, World.grownBy_alloc w _ _, by simp⟩
        case round =>
          obtain ⟨k, hk, rfl, hus, hg, her⟩ := hrel
          rw [HN.out] at hk
          by_cases hlt : k < N
          · have hkl : k < x.bl.length := by rw [HN.out]; exact hlt
            obtain ⟨b, off, rfl, h5⟩ := HX.out.at (by intro e; rw [e] at hkl; simp at hkl)
            obtain ⟨a1, a2, a3⟩ := h5 k hkl
            have hbB : b ≠ B := HUS.out.apart a1
            have c1 := grown_cell hg a1 hbB
            have c2 := grown_cell hg a2 hbB
            have c3 := grown_cell hg a3 hbB
            have hw1 := HWF.out _ (List.getElem_mem hkl)
            have HT : Hid (x.bl.take (k + 1) = x.bl.take k ++ [x.bl[k]]) := List.take_succ_eq_append_getElem hkl
            have hstep := chkB_step her
            rw [List.drop_eq_getElem_cons hkl] at hstep
            have HSTEP := Lib.hid hstep
            have HER := Lib.hid her
            have HCB : Hid (∀ W, Uses W B (n + k) l (all ++ x.bl.take k) → Calls Tryz.prog 80 #[.agg #[.bool x.bl[k].1, .int .i64 x.bl[k].2.1, .int .i64 x.bl[k].2.2], .map (some B)] W fun e w' => e = .returned (.int .i64 (errB l x.bl[k])) ∧ Up W w') := fun W hW => checkBlock_any x.bl[k] B _ l _ W hW hw1
            have HCC : Hid (∀ W, errB l x.bl[k] = 0 → Uses W B (n + k) l (all ++ x.bl.take k) → Calls Tryz.prog 60 #[.agg #[.bool x.bl[k].1, .int .i64 x.bl[k].2.1, .int .i64 x.bl[k].2.2], .map (some B)] W fun e w' => e = .returned (.tuple #[]) ∧ Uses w' B (n + k + 1) l (all ++ x.bl.take k ++ [x.bl[k]]) ∧ W.grownBy w' (some B)) := fun W h0 hW =>
              count_any x.bl[k] B _ l _ W hW (by unfold maxLen; omega) hw1 (fun h1 => by
                unfold errB at h0
                rw [if_neg (by simp [h1])] at h0
                cases hh : l.any (idB x.bl[k]) with
                | true => rfl
                | false => rw [h1, hh] at h0; simp at h0) (by rw [List.length_append, List.length_take]; omega)
            have hwr : B < wr.heap.size := hus.lt
            have HUS1 := Lib.hid hus
            have HG := Lib.hid hg
            obtain ⟨R, hR⟩ : ∃ R, errB l x.bl[k] = R := ⟨_, rfl⟩
            have HR := Lib.hid hR
            rw [hR] at HCB HCC
            generalize x.bl[k].1 = xb at *
            generalize x.bl[k].2.1 = xs at *
            generalize x.bl[k].2.2 = xn at *
            have d1 : decide (k < N) = true := decide_eq_true hlt
            clear h5 a1 a2 a3 hus hg her hstep hw1 hR
            go_wp2_with fail
            refine (HCB.out _ (HUS1.out.up (Up.alloc _ _))).mono ?_
            rintro e w2 ⟨rfl, u2⟩
            have HU2 : Hid (Up wr w2) := (Up.alloc _ _).trans u2
            have hsz2 : wr.heap.size < (wr.alloc (.cells #[.bool xb, .int .i64 xs, .int .i64 xn] 49)).heap.size := by simp
            have e1 := (Below.cell u2 (p := ⟨wr.heap.size, 0, none⟩) hsz2).trans (World.cell?_alloc_new wr #[.bool xb, .int .i64 xs, .int .i64 xn] 49 0)
            have e2 := (Below.cell u2 (p := ⟨wr.heap.size, 1, none⟩) hsz2).trans (World.cell?_alloc_new wr #[.bool xb, .int .i64 xs, .int .i64 xn] 49 1)
            have e3 := (Below.cell u2 (p := ⟨wr.heap.size, 2, none⟩) hsz2).trans (World.cell?_alloc_new wr #[.bool xb, .int .i64 xs, .int .i64 xn] 49 2)
            clear u2 hsz2
            by_cases h0 : R = 0
            · subst h0
              go_wp2_with fail
              refine (HCC.out _ (by trivial) (HUS1.out.up HU2.out)).mono ?_
              rintro e w3 ⟨rfl, hus3, hg3⟩
              have HUS3 := Lib.hid hus3
              have HG3 : Hid (w.grownBy w3 (some B)) := (HG.out.trans (grown_up HU2.out _)).trans hg3
              clear hus3 hg3
              go_wp2_with fail
              go_roundw
              case rel => exact ⟨k + 1, by rw [HN.out]; omega, by go_num, by rw [HT.out, ← List.append_assoc]; exact HUS3.out, HG3.out, by rw [HT.out]; intro j hj; rw [List.mem_append] at hj; rcases hj with hj | hj; exact HER.out j hj; simp at hj; subst hj; exact HR.out⟩
              case measure => simp only [intOf]; omega
            · have hne : (R != 0) = true := by rw [bne_iff_ne]; exact h0
              have HER2 : Hid (E = R) := by
                have h1 := HE2.out
                rw [HSTEP.out] at h1
                unfold chkB at h1
                rw [HR.out, if_neg h0] at h1
                exact h1.symm
              have HG3 : Hid (w.grownBy w2 (some B)) := HG.out.trans (grown_up HU2.out _)
              clear h0
              go_wp2_with fail
              go_ret
              exact ⟨by rw [HER2.out]; rfl, HG3.out, fun h => by rw [← HER2.out, h] at hne; simp at hne⟩
          · have d1 : decide (k < N) = false := decide_eq_false hlt
            have hte : x.bl.take k = x.bl := List.take_of_length_le (by rw [HN.out]; omega)
            rw [hte] at hus her
            have HER : Hid (E = 0) := by rw [← HE2.out, chkB_zero]; exact her
            have HUS1 := Lib.hid hus
            have HG := Lib.hid hg
            clear hus hg her hte
            go_wp2_with fail
            go_ret
            exact ⟨by rw [HER.out]; rfl, HG.out, fun _ => HUS1.out.mono (by omega)⟩

end Go.Proofs.YtcbppfndlagodaaGreatDoor
