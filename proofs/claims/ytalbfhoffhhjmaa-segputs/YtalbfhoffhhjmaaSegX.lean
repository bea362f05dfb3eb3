/-
  What slices.IndexFunc and DeleteFunc of records by 'is it r?', and drop of SegPuts, return. Conditions: as each says.
-/
import Derived.Test.YtalbfhoffhhjmaaSegJ
import Derived.Test.YtalbfhoffhhjmaaSegP
namespace Go.Proofs.Ytalbfhoffhhjmaa
open Go.RowKit
open Go.Proofs
open WoolBag
open WoolSeg

def isR (r x : Rc) : Bool := decide (x = r)
theorem flr_cons (x : Rc) (l : List Rc) : fl rcC (x :: l) = rcC x ++ fl rcC l := rfl

theorem cells4R {w : World} {g a T : Nat} {A R : List Value} {u0 u1 u2 u3 : Value} (h : RowC w g T (A ++ (u0 :: u1 :: u2 :: u3 :: R))) (ha : A.length = a) :
    w.cell? ⟨g, a, none⟩ = some u0 ∧ w.cell? ⟨g, a + 1, none⟩ = some u1 ∧ w.cell? ⟨g, a + 2, none⟩ = some u2 ∧ w.cell? ⟨g, a + 3, none⟩ = some u3 := by
  subst ha
  refine ⟨h.cell ?_, h.cell ?_, h.cell ?_, h.cell ?_⟩ <;> simp
theorem RowC.set4R {w : World} {g a T : Nat} {A R : List Value} {u0 u1 u2 u3 : Value} (h : RowC w g T (A ++ (u0 :: u1 :: u2 :: u3 :: R))) (ha : A.length = a) (v0 v1 v2 v3 : Value) :
    RowC ((((w.setCell ⟨g, a, none⟩ v0).setCell ⟨g, a + 1, none⟩ v1).setCell ⟨g, a + 2, none⟩ v2).setCell ⟨g, a + 3, none⟩ v3) g T (A ++ (v0 :: v1 :: v2 :: v3 :: R)) := by
  subst ha
  have h4 := (((h.set A.length v0).set (A.length + 1) v1).set (A.length + 2) v2).set (A.length + 3) v3
  have e : (((((A ++ (u0 :: u1 :: u2 :: u3 :: R)).set A.length v0).set (A.length + 1) v1).set (A.length + 2) v2).set (A.length + 3) v3) = A ++ (v0 :: v1 :: v2 :: v3 :: R) := by
    rw [List.set_append_right _ _ (Nat.le_refl _), List.set_append_right _ _ (by omega), List.set_append_right _ _ (by omega), List.set_append_right _ _ (by omega)]
    simp [show A.length + 1 - A.length = 1 by omega, show A.length + 2 - A.length = 2 by omega, show A.length + 3 - A.length = 3 by omega]
  rw [e] at h4
  exact h4
theorem grown_set4R {w w' : World} {g a : Nat} (h : w.grownBy w' (some g)) (v0 v1 v2 v3 : Value) :
    w.grownBy ((((w'.setCell ⟨g, a, none⟩ v0).setCell ⟨g, a + 1, none⟩ v1).setCell ⟨g, a + 2, none⟩ v2).setCell ⟨g, a + 3, none⟩ v3) (some g) := grown_setCS (grown_setCS (grown_setCS (grown_setCS h _ _) _ _) _ _) _ _
theorem cons4R (st : List Value) (h : 4 ≤ st.length) : ∃ v0 v1 v2 v3 r, st = v0 :: v1 :: v2 :: v3 :: r := by
  match st, h with
  | v0 :: v1 :: v2 :: v3 :: r, _ => exact ⟨v0, v1, v2, v3, r, rfl⟩

theorem zeroRc_size (n : Nat) : (Builtin.zeroCells (Value.agg #[.bool false, .int .i64 0, .int .i64 0, .string ⟨#[]⟩]).cells n).toList.length = n * 4 := by
  unfold Builtin.zeroCells
  rw [Array.length_toList, Array.size_map, Array.size_range]
  rfl
theorem zeroRc_one (n : Nat) : ∀ u ∈ (Builtin.zeroCells (Value.agg #[.bool false, .int .i64 0, .int .i64 0, .string ⟨#[]⟩]).cells n).toList, u.oneCell' = true := by
  intro u hu
  unfold Builtin.zeroCells at hu
  simp at hu
  obtain ⟨i, _, rfl⟩ := hu
  have hc : (Value.agg #[.bool false, .int .i64 0, .int .i64 0, .string ⟨#[]⟩]).cells = #[.bool false, .int .i64 0, .int .i64 0, .string ⟨#[]⟩] := rfl
  rw [hc]
  have hm : i % 4 < 4 := Nat.mod_lt _ (by omega)
  show (#[Value.bool false, .int .i64 0, .int .i64 0, .string ⟨#[]⟩][i % 4]!).oneCell' = true
  match h : i % 4, hm with
  | 0, _ => rfl
  | 1, _ => rfl
  | 2, _ => rfl
  | 3, _ => rfl
theorem clear_someR {w : World} {g s c n : Nat} {L : List Value} (h : RowC w g 30 L) (h0 : 0 < n) (hs : s + n * 4 ≤ L.length) :
    ∃ Z, Z.length = n * 4 ∧ ∀ ty, (Builtin.clear_ #[22] ty #[.slice (some ⟨g, s, none⟩) n c]).run Try.prog w = .ok (.tuple #[]) (w.setRow g (splice L s Z).toArray) := by
  refine ⟨_, zeroRc_size n, fun ty => ?_⟩
  have hst := run_storeCells_at Try.prog g s 30 (Builtin.zeroCells (Value.agg #[.bool false, .int .i64 0, .int .i64 0, .string ⟨#[]⟩]).cells n).toList 0 L.toArray w h (by rw [zeroRc_size]; simpa using hs) (zeroRc_one n)
  simp only [Nat.add_zero] at hst
  obtain ⟨m, rfl⟩ : ∃ m, n = m + 1 := ⟨n - 1, by omega⟩
  simp [Builtin.clear_, run_underlying Try.underlying22, hst, splice]

theorem eg_isR : ∀ args w, (callFunc 23 args).run Try.prog w = .ok (.enter 23 args) w := enters_of Try.func23 (by kernel_rfl) rfl

theorem rec_ne {x r : Rc} (h : x ≠ r) : x.1.1 ≠ r.1.1 ∨ x.1.2.1 ≠ r.1.2.1 ∨ x.1.2.2 ≠ r.1.2.2 ∨ (x.2 == r.2) = false := by
  by_cases c0 : x.1.1 = r.1.1
  · by_cases c1 : x.1.2.1 = r.1.2.1
    · by_cases c2 : x.1.2.2 = r.1.2.2
      · refine .inr (.inr (.inr ?_))
        rw [beq_eq_false_iff_ne]
        exact fun c3 => h (Prod.ext (Prod.ext c0 (Prod.ext c1 c2)) c3)
      · exact .inr (.inr (.inl c2))
    · exact .inr (.inl c1)
  · exact .inl c0

set_option maxRecDepth 100000 in
set_option maxHeartbeats 1000000 in
theorem isR_in (x r : Rc) (P : Nat) (W : World) (hP : RowC W P 30 (rcC r)) :
    Calls Try.prog 23 #[rcA x, .pointer (some ⟨P, 0, none⟩)] W fun e w' => e = .returned (.bool (isR r x)) ∧ Up W w' := by
  have hlt := hP.lt
  have hne : P ≠ W.heap.size := by omega
  have r0 := hP.cell (j := 0) rfl
  have r1 := hP.cell (j := 1) rfl
  have r2 := hP.cell (j := 2) rfl
  have r3 := hP.cell (j := 3) rfl
  have htx := txt_eq x.2 r.2
  unfold rcA isR
  by_cases e : x = r
  · have HD : Hid (decide (x = r) = true) := decide_eq_true e
    rw [e] at htx
    subst e
    have hs : (x.2 == x.2) = true := by simp
    rw [hs] at htx
    rw [HD.out]
    clear HD hP
    go_enter Try.func23, Try.ntmps23
    go_wp2_with fail
    all_goals
      go_ret
      exact ⟨by simp_all, Up.alloc _ _⟩
  · have HD : Hid (decide (x = r) = false) := decide_eq_false e
    have hn := rec_ne e
    rw [HD.out]
    clear HD hP e
    generalize (x.2 == r.2) = Q at hn htx
    generalize x.1.1 = x0 at *
    generalize x.1.2.1 = x1 at *
    generalize x.1.2.2 = x2 at *
    generalize bs x.2 = x3 at *
    generalize r.1.1 = y0 at *
    generalize r.1.2.1 = y1 at *
    generalize r.1.2.2 = y2 at *
    generalize bs r.2 = y3 at *
    rcases hn with n0 | n0 | n0 | n0
    · have n1 : (x0 == y0) = false := beq_eq_false_iff_ne.2 n0
      go_enter Try.func23, Try.ntmps23
      go_wp2_with fail
      all_goals
        go_ret
        exact ⟨by simp_all, Up.alloc _ _⟩
    · have n1 : (x1 == y1) = false := beq_eq_false_iff_ne.2 n0
      go_enter Try.func23, Try.ntmps23
      go_wp2_with fail
      all_goals
        go_ret
        exact ⟨by simp_all, Up.alloc _ _⟩
    · have n1 : (x2 == y2) = false := beq_eq_false_iff_ne.2 n0
      go_enter Try.func23, Try.ntmps23
      go_wp2_with fail
      all_goals
        go_ret
        exact ⟨by simp_all, Up.alloc _ _⟩
    · go_enter Try.func23, Try.ntmps23
      go_wp2_with fail
      all_goals
        go_ret
        exact ⟨by simp_all, Up.alloc _ _⟩

def IfRRel (r : Rc) (s : List Rc) (w : World) (i : Value) (wr : World) : Prop :=
  ∃ k : Nat, k ≤ s.length ∧ i = .int .i64 (k : Int) ∧ Up w wr ∧ ∀ j (hj : j < s.length), j < k → s[j] ≠ r

set_option maxRecDepth 100000 in
set_option maxHeartbeats 2000000 in
theorem indexFR (v : Value) (s : List Rc) (r : Rc) (P : Nat) (w : World) (h : Recs w v s) (hP : RowC w P 30 (rcC r)) :
    Calls Try.prog 44 #[v, .func (.func 23) #[] #[.pointer (some ⟨P, 0, none⟩)]] w fun e w' => e = .returned (.int .i64 (ixR r s)) ∧ Up w w' := by
  have eg := eg_isR
  have HX := Lib.hid h
  have HP := Lib.hid hP
  obtain ⟨o, c, rfl, h2, h3⟩ := h.slice
  unfold maxLen at h3
  obtain ⟨R, hR⟩ : ∃ R, ixR r s = R := ⟨_, rfl⟩
  have HAT : Hid (∀ k (hk : k < s.length), s[k] = r → (∀ j (hj : j < s.length), j < k → s[j] ≠ r) → R = (k : Int)) := fun k hk h hb => hR.symm.trans (ixR_at hk h hb)
  have HNO : Hid ((∀ j (hj : j < s.length), s[j] ≠ r) → R = -1) := fun hb => hR.symm.trans (ixR_none hb)
  rw [hR]
  obtain ⟨n, hn⟩ : ∃ n, s.length = n := ⟨_, rfl⟩
  have HN := Lib.hid hn
  rw [hn] at h2 HX ⊢
  clear h hR hP hn
  go_enter Try.func44, Try.ntmps44
  go_wp2_with fail
  go_loopw [5, 8] (fun _ i wr => IfRRel r s w i wr) (fun _ i _ => n - (intOf i).toNat)
  case atStart => exact ⟨0, Nat.zero_le _, rfl, Up.refl _, fun j _ hj => absurd hj (by omega)⟩
  case round =>
    obtain ⟨k, hk, rfl, hu, hb⟩ := hrel
    rw [HN.out] at hk
    have HU := Lib.hid hu
    have HB := Lib.hid hb
    by_cases hlt : k < n
    · have hks : k < s.length := by rw [HN.out]; exact hlt
      obtain ⟨b, off, rfl, hat⟩ := HX.out.at (by rintro rfl; simp at hks)
      obtain ⟨a0, a1, a2, a3⟩ := hat k hks
      rw [← HU.out.cell (World.block_lt_of_cell? w _ a0)] at a0
      rw [← HU.out.cell (World.block_lt_of_cell? w _ a1)] at a1
      rw [← HU.out.cell (World.block_lt_of_cell? w _ a2)] at a2
      rw [← HU.out.cell (World.block_lt_of_cell? w _ a3)] at a3
      have hcall := isR_in s[k] r P wr (HP.out.up hu)
      have HE : Hid (isR r s[k] = true → R = (k : Int)) := fun h => HAT.out k hks (of_decide_eq_true h) HB.out
      have HBN : Hid (isR r s[k] = false → ∀ j (hj : j < s.length), j < k + 1 → s[j] ≠ r) := fun h j hj hjk => by
        rcases Nat.lt_or_ge j k with h' | h'
        · exact HB.out j hj h'
        · obtain rfl : j = k := by omega
          exact of_decide_eq_false h
      unfold rcA at hcall
      generalize isR r s[k] = Q at hcall HE HBN
      generalize s[k].1.1 = y0 at a0 hcall
      generalize s[k].1.2.1 = y1 at a1 hcall
      generalize s[k].1.2.2 = y2 at a2 hcall
      generalize bs s[k].2 = y3 at a3 hcall
      have HC := Lib.hid hcall
      have d1 : decide (k < n) = true := decide_eq_true hlt
      clear hat hu hb hcall hks
      cases Q with
      | true =>
        have HE2 := Lib.hid (HE.out rfl)
        clear HE HBN
        go_wp2_with (go_at_fn 23; refine HC.out.mono ?_; rintro e w1 ⟨rfl, u1⟩)
        go_ret
        exact ⟨by rw [HE2.out]; rfl, HU.out.trans u1⟩
      | false =>
        have HB2 := Lib.hid (HBN.out rfl)
        clear HE HBN
        go_wp2_with (go_at_fn 23; refine HC.out.mono ?_; rintro e w1 ⟨rfl, u1⟩)
        go_roundw
        case rel => exact ⟨k + 1, by rw [HN.out]; omega, by go_num, HU.out.trans u1, HB2.out⟩
        case measure => simp only [intOf]; omega
    · have d1 : decide (k < n) = false := decide_eq_false hlt
      have HE := Lib.hid (HNO.out fun j hj => hb j hj (by have := HN.out; omega))
      clear hu hb
      go_wp2_with fail
      go_ret
      exact ⟨by rw [HE.out]; rfl, HU.out⟩

/-- what slices.DeleteFunc leaves -/
def DelPostR (r : Rc) (l : List Rc) (g cap N : Nat) (w : World) (e : Ending) (w' : World) : Prop :=
  ∃ st : List Value, e = .returned (.slice (some ⟨g, 0, none⟩) (l.filter fun x => !isR r x).length cap) ∧ RowC w' g 30 (fl rcC (l.filter fun x => !isR r x) ++ st) ∧ w.grownBy w' (some g) ∧ (fl rcC (l.filter fun x => !isR r x) ++ st).length = N

def DelRelR (r : Rc) (l : List Rc) (g : Nat) (sp : List Value) (w : World) (i j : Value) (wr : World) : Prop :=
  ∃ (a b : Nat) (st : List Value), i = .int .i64 a ∧ j = .int .i64 b ∧ a < b ∧ b ≤ l.length ∧ ((l.take b).filter fun x => !isR r x).length = a ∧ st.length = (b - a) * 4 ∧
    RowC wr g 30 (fl rcC ((l.take b).filter fun x => !isR r x) ++ (st ++ (fl rcC (l.drop b) ++ sp))) ∧ w.grownBy wr (some g)

theorem filter_takeR {r : Rc} {l : List Rc} {b : Nat} (hb : b < l.length) : ((l.take (b + 1)).filter fun x => !isR r x) = ((l.take b).filter fun x => !isR r x) ++ (if isR r l[b] = true then [] else [l[b]]) := by
  rw [List.take_succ_eq_append_getElem hb, List.filter_append]
  congr 1
  rw [List.filter_cons]
  cases isR r l[b] <;> simp

theorem filter_allR {r : Rc} {l : List Rc} {k : Nat} (h : ∀ j (hj : j < l.length), j < k → isR r l[j] = false) : ((l.take k).filter fun x => !isR r x) = l.take k := by
  rw [List.filter_eq_self]
  intro x hx
  obtain ⟨j, hj, rfl⟩ := List.getElem_of_mem hx
  rw [List.length_take] at hj
  rw [List.getElem_take, h j (by omega) (by omega)]
  rfl

set_option maxRecDepth 100000 in
set_option maxHeartbeats 4000000 in
theorem deleteR_any (l : List Rc) (r : Rc) (P g cap : Nat) (sp : List Value) (w : World) (hrow : RowC w g 30 (fl rcC l ++ sp)) (hl : l.length ≤ 100000) (hc1 : l.length ≤ cap) (_hc2 : cap ≤ maxLen) (hP : RowC w P 30 (rcC r)) (hPg : P ≠ g) (hit : Recs w (.slice (some ⟨g, 0, none⟩) l.length cap) l) :
    Calls Try.prog 22 #[.slice (some ⟨g, 0, none⟩) l.length cap, .func (.func 23) #[] #[.pointer (some ⟨P, 0, none⟩)]] w (DelPostR r l g cap (fl rcC l ++ sp).length w) := by
  have eg := eg_isR
  have HIX := Lib.hid (indexFR _ l r P w hit hP)
  have HROW := Lib.hid hrow
  have HPP : Hid (∀ W, w.grownBy W (some g) → RowC W P 30 (rcC r)) := fun W hW => hP.kept hW (by intro e; cases e; exact hPg rfl)
  unfold maxLen at _hc2
  have hgl := hrow.lt
  have hix : (ixR r l = -1 ∧ ∀ x ∈ l, isR r x = false) ∨ ∃ k0, ∃ h : k0 < l.length, ixR r l = (k0 : Int) ∧ isR r l[k0] = true ∧ ∀ j (hj : j < l.length), j < k0 → isR r l[j] = false := by
    by_cases hm : r ∈ l
    · have hlt : l.idxOf r < l.length := List.idxOf_lt_length_iff.2 hm
      refine .inr ⟨l.idxOf r, hlt, by unfold ixR; rw [if_pos hm], decide_eq_true (List.getElem_idxOf hlt), fun j hj hjk => decide_eq_false fun e => ?_⟩
      have := List.not_of_lt_findIdx (p := (· == r)) (xs := l) (i := j) hjk
      simp [e] at this
    · exact .inl ⟨by unfold ixR; rw [if_neg hm], fun x hx => decide_eq_false fun e => hm (e ▸ hx)⟩
  obtain ⟨R, hR⟩ : ∃ R, ixR r l = R := ⟨_, rfl⟩
  rw [hR] at HIX hix
  obtain ⟨n, hn⟩ : ∃ n, l.length = n := ⟨_, rfl⟩
  have HN := Lib.hid hn
  have HIXX := Lib.hid hix
  rw [hn] at HIX hl hc1 ⊢
  clear hrow hit hn hix hR hP
  go_enter Try.func22, Try.ntmps22
  go_wp2_with fail
  refine HIX.out.mono ?_
  rintro e w1 ⟨rfl, u1⟩
  have HR1 := Lib.hid (HROW.out.up u1)
  have HG1 : Hid (w.grownBy w1 (some g)) := ⟨u1.os, u1.tape, u1.output, u1.size, fun j hj _ => u1.block j hj⟩
  have hgl1 : g < w1.heap.size := Nat.lt_of_lt_of_le hgl u1.size
  clear u1 HIX HROW
  rcases HIXX.out with ⟨rfl, hall0⟩ | ⟨k0, hk0, rfl, hp0, hbef⟩
  · have hall : (l.filter fun x => !isR r x) = l := by rw [List.filter_eq_self]; intro x hx; rw [hall0 x hx]; rfl
    have HALL := Lib.hid hall
    clear hall0 hall HIXX
    go_wp2_with fail
    go_ret
    refine ⟨sp, by rw [HALL.out, HN.out]; rfl, ?_, HG1.out, by rw [HALL.out]⟩
    rw [HALL.out]
    exact HR1.out
  · have hfa := filter_allR (r := r) (l := l) (k := k0) hbef
    have hf1 : ((l.take (k0 + 1)).filter fun x => !isR r x) = l.take k0 := by rw [filter_takeR hk0, if_pos hp0, hfa, List.append_nil]
    clear HIXX
    have HST : Hid (DelRelR r l g sp w (.int .i64 (k0 : Int)) (.int .i64 ((k0 + 1 : Nat) : Int)) w1) := by
      refine ⟨k0, k0 + 1, rcC l[k0], rfl, rfl, by omega, hk0, by rw [hf1, List.length_take]; omega, by rw [show k0 + 1 - k0 = 1 by omega]; rfl, ?_, HG1.out⟩
      rw [hf1]
      have e : fl rcC l = fl rcC (l.take k0) ++ (rcC l[k0] ++ fl rcC (l.drop (k0 + 1))) := by
        rw [← flr_cons, ← List.drop_eq_getElem_cons hk0, ← fl_append, List.take_append_drop]
      have hr := HR1.out
      rw [e, List.append_assoc, List.append_assoc] at hr
      exact hr
    rw [HN.out] at hk0
    have hw1 : IntKind.i64.wrap ((k0 : Int) + 1) = (k0 : Int) + 1 := IntWalk.i64_in _ (by omega)
    have hkm : ((k0 : Int) == -1) = false := by simp
    clear hp0 hbef hfa hf1
    go_wp2_with fail
    go_loopw [5, 6] (fun i j wr => DelRelR r l g sp w i j wr) (fun _ j _ => n - (intOf j).toNat)
    case atStart => exact HST.out
    case round =>
      obtain ⟨a, b, st, rfl, rfl, hab, hbl, hfl, hsl, hr, hgr⟩ := hrel
      rw [HN.out] at hbl
      have hgr1 : g < wr.heap.size := hr.lt
      have hILf : (fl rcC ((l.take b).filter fun x => !isR r x)).length = a * 4 := by rw [fl_length rcC_len, hfl]
      by_cases hlt : b < n
      · have hbL : b < l.length := by rw [HN.out]; exact hlt
        have d1 : decide (b < n) = true := decide_eq_true hlt
        have hdrop : fl rcC (l.drop b) = rcC l[b] ++ fl rcC (l.drop (b + 1)) := by rw [List.drop_eq_getElem_cons hbL, flr_cons]
        have hpre : (fl rcC ((l.take b).filter fun x => !isR r x) ++ st).length = b * 4 := by rw [List.length_append, hILf, hsl]; omega
        have hr' : RowC wr g 30 ((fl rcC ((l.take b).filter fun x => !isR r x) ++ st) ++ (.bool l[b].1.1 :: .int .i64 l[b].1.2.1 :: .int .i64 l[b].1.2.2 :: .string (bs l[b].2) :: (fl rcC (l.drop (b + 1)) ++ sp))) := by
          have h2 := hr
          rw [hdrop, List.append_assoc, ← List.append_assoc] at h2
          exact h2
        obtain ⟨c0, c1, c2, c3⟩ := cells4R hr' hpre
        have hpred' : Calls Try.prog 23 #[.agg #[.bool l[b].1.1, .int .i64 l[b].1.2.1, .int .i64 l[b].1.2.2, .string (bs l[b].2)], .pointer (some ⟨P, 0, none⟩)] (wr.alloc (.cells #[.bool l[b].1.1, .int .i64 l[b].1.2.1, .int .i64 l[b].1.2.2, .string (bs l[b].2)] 30)) fun e w' => e = .returned (.bool (isR r l[b])) ∧ Up (wr.alloc (.cells #[.bool l[b].1.1, .int .i64 l[b].1.2.1, .int .i64 l[b].1.2.2, .string (bs l[b].2)] 30)) w' := isR_in l[b] r P _ ((HPP.out wr hgr).up (Up.alloc _ _))
        have hft := filter_takeR (r := r) hbL
        obtain ⟨Pq, hPq⟩ : ∃ Pq, isR r l[b] = Pq := ⟨_, rfl⟩
        rw [hPq] at hpred' hft
        have HPR := Lib.hid hpred'
        have HFT := Lib.hid hft
        have HR' := Lib.hid hr'
        have HRW := Lib.hid hr
        have HGR := Lib.hid hgr
        have HQ := Lib.hid (heap_alloc_new wr (.cells #[.bool l[b].1.1, .int .i64 l[b].1.2.1, .int .i64 l[b].1.2.2, .string (bs l[b].2)] 30))
        have HDR := Lib.hid hdrop
        have HFL := Lib.hid hfl
        have HSL := Lib.hid hsl
        have HIL := Lib.hid hILf
        have hltA : wr.heap.size < (wr.alloc (.cells #[.bool l[b].1.1, .int .i64 l[b].1.2.1, .int .i64 l[b].1.2.2, .string (bs l[b].2)] 30)).heap.size := by simp
        have hwb : IntKind.i64.wrap ((b : Int) + 1) = (b : Int) + 1 := IntWalk.i64_in _ (by omega)
        have hwa : IntKind.i64.wrap ((a : Int) + 1) = (a : Int) + 1 := IntWalk.i64_in _ (by omega)
        clear hr hr' hgr hpred' hft hPq hdrop hpre hfl hsl hILf
        cases Pq with
        | true =>
          have HF1 : Hid (((l.take (b + 1)).filter fun x => !isR r x) = ((l.take b).filter fun x => !isR r x)) := by show _ = _; rw [HFT.out, if_pos rfl, List.append_nil]
          clear HFT
          go_wp2_with (go_at_call 23; refine HPR.out.mono ?_; rintro e w2 ⟨rfl, u2⟩)
          have hu := (Up.alloc wr (.cells #[.bool l[b].1.1, .int .i64 l[b].1.2.1, .int .i64 l[b].1.2.2, .string (bs l[b].2)] 30)).trans u2
          go_roundw
          case rel =>
            refine ⟨a, b + 1, st ++ rcC l[b], rfl, by go_num, by omega, by omega, ?_, ?_, ?_, ?_⟩
            · rw [HF1.out]; exact HFL.out
            · rw [List.length_append, HSL.out]; show _ + 4 = _; omega
            · rw [HF1.out]
              have h2 := HRW.out.up hu
              rw [HDR.out] at h2
              simpa [List.append_assoc] using h2
            · have hg := HGR.out
              exact ⟨hu.os.trans hg.os, hu.tape.trans hg.tape, hu.output.trans hg.output, Nat.le_trans hg.size hu.size, fun j hj hne => (hu.block j (Nat.lt_of_lt_of_le hj hg.size)).trans (hg.block j hj hne)⟩
          case measure => simp only [intOf]; omega
        | false =>
          have HF2 : Hid (((l.take (b + 1)).filter fun x => !isR r x) = ((l.take b).filter fun x => !isR r x) ++ [l[b]]) := by show _ = _; rw [HFT.out, if_neg (by simp)]
          clear HFT
          go_wp2_with fail
          refine HPR.out.mono ?_
          rintro e w2 ⟨rfl, u2⟩
          have hu := (Up.alloc wr (.cells #[.bool l[b].1.1, .int .i64 l[b].1.2.1, .int .i64 l[b].1.2.2, .string (bs l[b].2)] 30)).trans u2
          obtain ⟨v0, v1, v2, v3, st', hst⟩ := cons4R st (by rw [HSL.out]; omega)
          have hsl' : st'.length + 4 = (b - a) * 4 := by rw [← HSL.out, hst]; simp
          have hr2 := HRW.out.up hu
          rw [hst] at hr2
          have hr3 : RowC w2 g 30 (fl rcC ((l.take b).filter fun x => !isR r x) ++ (v0 :: v1 :: v2 :: v3 :: (st' ++ (fl rcC (l.drop b) ++ sp)))) := hr2
          obtain ⟨s0, s1, s2, s3⟩ := cells4R hr3 HIL.out
          have f0 := hr3.frozen (a * 4)
          have f1 := hr3.frozen (a * 4 + 1)
          have f2 := hr3.frozen (a * 4 + 2)
          have f3 := hr3.frozen (a * 4 + 3)
          have hx2 := (u2.block wr.heap.size hltA).trans HQ.out
          have x0 : w2.cell? ⟨wr.heap.size, 0, none⟩ = some (.bool l[b].1.1) := cell_of_row _ _ 0 _ _ _ hx2
          have x1 : w2.cell? ⟨wr.heap.size, 1, none⟩ = some (.int .i64 l[b].1.2.1) := cell_of_row _ _ 1 _ _ _ hx2
          have x2 : w2.cell? ⟨wr.heap.size, 2, none⟩ = some (.int .i64 l[b].1.2.2) := cell_of_row _ _ 2 _ _ _ hx2
          have x3 : w2.cell? ⟨wr.heap.size, 3, none⟩ = some (.string (bs l[b].2)) := cell_of_row _ _ 3 _ _ _ hx2
          have hset := hr3.set4R HIL.out (.bool l[b].1.1) (.int .i64 l[b].1.2.1) (.int .i64 l[b].1.2.2) (.string (bs l[b].2))
          have hg := HGR.out
          have hg2 : w.grownBy w2 (some g) := ⟨hu.os.trans hg.os, hu.tape.trans hg.tape, hu.output.trans hg.output, Nat.le_trans hg.size hu.size, fun j hj hne => (hu.block j (Nat.lt_of_lt_of_le hj hg.size)).trans (hg.block j hj hne)⟩
          have hg3 := grown_set4R (a := a * 4) hg2 (.bool l[b].1.1) (.int .i64 l[b].1.2.1) (.int .i64 l[b].1.2.2) (.string (bs l[b].2))
          obtain ⟨wn, hwn⟩ : ∃ wn, (((w2.setCell ⟨g, a * 4, none⟩ (.bool l[b].1.1)).setCell ⟨g, a * 4 + 1, none⟩ (.int .i64 l[b].1.2.1)).setCell ⟨g, a * 4 + 2, none⟩ (.int .i64 l[b].1.2.2)).setCell ⟨g, a * 4 + 3, none⟩ (.string (bs l[b].2)) = wn := ⟨_, rfl⟩
          rw [hwn] at hset hg3
          have HREL : Hid (DelRelR r l g sp w (.int .i64 ((a + 1 : Nat) : Int)) (.int .i64 ((b + 1 : Nat) : Int)) wn) := by
            refine ⟨a + 1, b + 1, st' ++ rcC l[b], rfl, rfl, by omega, by omega, ?_, ?_, ?_, hg3⟩
            · rw [HF2.out, List.length_append, HFL.out]; rfl
            · rw [List.length_append]; show _ + 4 = _; omega
            · rw [HF2.out, fl_append]
              have h2 := hset
              rw [HDR.out] at h2
              show RowC wn g 30 ((fl rcC ((l.take b).filter fun x => !isR r x) ++ fl rcC [l[b]]) ++ ((st' ++ rcC l[b]) ++ (fl rcC (l.drop (b + 1)) ++ sp)))
              rw [show fl rcC [l[b]] = rcC l[b] from List.append_nil (rcC l[b])]
              have e : (fl rcC ((l.take b).filter fun x => !isR r x) ++ rcC l[b]) ++ ((st' ++ rcC l[b]) ++ (fl rcC (l.drop (b + 1)) ++ sp)) = fl rcC ((l.take b).filter fun x => !isR r x) ++ (.bool l[b].1.1 :: .int .i64 l[b].1.2.1 :: .int .i64 l[b].1.2.2 :: .string (bs l[b].2) :: (st' ++ (rcC l[b] ++ fl rcC (l.drop (b + 1)) ++ sp))) := by
                simp [rcC, List.append_assoc]
              rw [e]
              exact h2
          have HW := Lib.hid hwn
          clear hr2 hr3 hset hg hg2 hg3 hx2 hwn u2 hu hst hsl'
          go_wp2_with fail
          rw [HW.out]
          go_roundw
          case rel => exact HREL.out
          case measure => simp only [intOf]; omega
      · have d1 : decide (b < n) = false := decide_eq_false hlt
        have hbn : b = n := by omega
        have htk : l.take b = l := List.take_of_length_le (by rw [HN.out]; omega)
        have hdk : l.drop b = [] := List.drop_of_length_le (by rw [HN.out]; omega)
        rw [htk] at hfl hr hILf
        rw [hdk] at hr
        have hr2 : RowC wr g 30 (fl rcC (l.filter fun x => !isR r x) ++ (st ++ sp)) := hr
        obtain ⟨Z, hZ, hcl⟩ := clear_someR (c := cap - a) hr2 (s := a * 4) (n := n - a) (by omega) (by rw [List.length_append, List.length_append, hILf, hsl]; omega)
        have hset := hr2.setRow (splice (fl rcC (l.filter fun x => !isR r x) ++ (st ++ sp)) (a * 4) Z)
        have hg3 := grown_setRowS hgr (splice (fl rcC (l.filter fun x => !isR r x) ++ (st ++ sp)) (a * 4) Z).toArray
        have hsp : splice (fl rcC (l.filter fun x => !isR r x) ++ (st ++ sp)) (a * 4) Z = fl rcC (l.filter fun x => !isR r x) ++ (Z ++ (fl rcC (l.filter fun x => !isR r x) ++ (st ++ sp)).drop (a * 4 + Z.length)) := by
          unfold splice
          rw [← hILf, List.take_left]
        obtain ⟨wn, hwn⟩ : ∃ wn, wr.setRow g (splice (fl rcC (l.filter fun x => !isR r x) ++ (st ++ sp)) (a * 4) Z).toArray = wn := ⟨_, rfl⟩
        rw [hwn] at hset hg3
        simp only [hwn] at hcl
        rw [hsp] at hset
        have HRES := Lib.hid hset
        have HZL : Hid ((fl rcC (l.filter fun x => !isR r x) ++ (Z ++ (fl rcC (l.filter fun x => !isR r x) ++ (st ++ sp)).drop (a * 4 + Z.length))).length = (fl rcC l ++ sp).length) := by
          have hLN := fl_length (f := rcC) rcC_len l
          have hn' := HN.out
          show _ = _
          rw [List.length_append, List.length_append, List.length_drop, List.length_append, List.length_append, List.length_append, hILf, hsl, hZ, hLN, hn']
          omega
        have HG3 := Lib.hid hg3
        have HFL := Lib.hid hfl
        have hac : ¬ cap = a := by omega
        have han : a ≤ n := by omega
        have hacp : a ≤ cap := by omega
        clear hr hr2 hset hg3 hsp hwn hgr hZ hsl hILf htk hdk hfl hbn
        go_wp2_with fail
        go_ret
        exact ⟨_, by rw [HFL.out]; rfl, HRES.out, HG3.out, HZL.out⟩

set_option maxRecDepth 100000 in
set_option maxHeartbeats 1000000 in
theorem deleteR_nil (r : Rc) (P cap : Nat) (w : World) (hc : cap ≤ maxLen) (hP : RowC w P 30 (rcC r)) :
    Calls Try.prog 22 #[.slice none 0 cap, .func (.func 23) #[] #[.pointer (some ⟨P, 0, none⟩)]] w fun e w' => e = .returned (.slice none 0 cap) ∧ Up w w' := by
  have hn : Recs w (.slice none 0 cap) [] := ⟨rfl, none, cap, rfl, Nat.zero_le _, hc, .inl rfl⟩
  have HIX := Lib.hid (indexFR _ [] r P w hn hP)
  have hr : ixR r [] = -1 := by unfold ixR; rw [if_neg (by simp)]
  rw [hr] at HIX
  clear hn hr hP hc
  go_enter Try.func22, Try.ntmps22
  go_wp2_with fail
  refine HIX.out.mono ?_
  rintro e w1 ⟨rfl, u1⟩
  go_wp2_with fail
  go_ret
  exact ⟨rfl, u1⟩

theorem filt_le (r : Rc) (l : List Rc) : (l.filter fun x => !isR r x).length ≤ l.length := List.length_filter_le _ _

set_option maxRecDepth 100000 in
set_option maxHeartbeats 1000000 in
theorem dropR_any (v : Value) (l : List Rc) (r : Rc) (P base : Nat) (w : World) (h : ORecs w base v l) (hP : RowC w P 30 (rcC r)) (hPb : P < base) (hl : l.length ≤ 100000) :
    Calls Try.prog 21 #[v, .pointer (some ⟨P, 0, none⟩)] w fun e w' => ∃ v', e = .returned v' ∧ ORecs w' base v' (l.filter fun x => !isR r x) ∧ w.grownBy w' v.ownBlock ∧ (∀ b, v'.ownBlock = some b → v.ownBlock = some b) := by
  have hrecs := h.recs
  rcases own_row h with ⟨rfl, h0, _⟩ | ⟨g, cap, sp, rfl, hg, hrow, hc1, hc2, hc3⟩
  · have hl0 : l = [] := List.eq_nil_of_length_eq_zero h0
    subst hl0
    have HD := Lib.hid (deleteR_nil r P 0 w (by unfold maxLen; omega) hP)
    clear h hP hrecs h0
    go_enter Try.func21, Try.ntmps21
    go_wp2_with fail
    refine HD.out.mono ?_
    rintro e w1 ⟨rfl, u1⟩
    have HU := Lib.hid u1
    clear u1
    go_wp2_with fail
    go_ret
    exact ⟨_, rfl, ORecs.nil _ _, ⟨HU.out.os, HU.out.tape, HU.out.output, HU.out.size, fun j hj _ => HU.out.block j hj⟩, fun b e => e⟩
  · have hsz := fl_length (f := rcC) rcC_len l
    have HD := Lib.hid (deleteR_any l r P g cap sp w hrow hl hc1 hc2 hP (by omega) hrecs)
    have HFL := Lib.hid (filt_le r l)
    have HG := Lib.hid hg
    have HC := Lib.hid (show l.length ≤ cap ∧ cap ≤ maxLen ∧ l.length * 4 + sp.length = cap * 4 from ⟨hc1, hc2, hc3⟩)
    have HRW := Lib.hid hrow
    generalize l.length = n at HD HFL HC
    have HSZ : Hid ((fl rcC l ++ sp).length = cap * 4) := by
      show _ = _
      rw [List.length_append, hsz]
      omega
    clear h hP hrecs hrow hc1 hc2 hc3 hg hl hsz hPb
    go_enter Try.func21, Try.ntmps21
    go_wp2_with fail
    refine HD.out.mono ?_
    rintro e w1 ⟨st, rfl, hr1, hg1, hz1⟩
    have HR1 := Lib.hid hr1
    have HG1 := Lib.hid hg1
    have HZ1 := Lib.hid (hz1.trans HSZ.out)
    have HFF := Lib.hid (fl_length (f := rcC) rcC_len (l.filter fun x => !isR r x))
    obtain ⟨F, hF⟩ : ∃ F, (l.filter fun x => !isR r x) = F := ⟨_, rfl⟩
    have HF := Lib.hid hF
    rw [hF] at HR1 HFL HZ1 HFF ⊢
    obtain ⟨nF, hnF⟩ : ∃ nF, F.length = nF := ⟨_, rfl⟩
    have HNF := Lib.hid hnF
    rw [hnF] at HFL HFF ⊢
    clear hr1 hg1 hz1 hnF hF
    go_wp2_with fail
    go_ret
    have hfl := HFL.out
    have hc := HC.out
    refine ⟨_, rfl, ?_, HG1.out, fun b e => e⟩
    have hz := HZ1.out
    rw [List.length_append, HFF.out] at hz
    have := own_mk (m := 4) (n := nF) (cap := cap) HG.out HR1.out HFF.out (by omega) hc.2.1 (by omega)
    rw [HF.out]
    unfold ORecs
    rw [HNF.out]
    exact this

end Go.Proofs.Ytalbfhoffhhjmaa
