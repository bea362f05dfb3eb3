/-
  What the reference's Bag returns: what is wrong with a bag. Condition: the row can be read.
-/
import Derived.Test.YtbeigaanlhaolaaGreatDoorJB29
import Derived.Test.YtbeigaanlhaolaaGreatDoorJB11
namespace Go.Proofs.YtbeigaanlhaolaaGreatDoor
open Go.RowKit
open Go.Proofs
open WoolBag

/-- a block that holds an item -/
def InRel.RowI' (wr : World) (X : Nat) (x : Itm) : Prop := wr.heap[X]? = some (.cells #[.int .i64 x.s, .int .i64 x.n, .string (bs x.t), .int .i64 x.r] 89 (0, 0))

/-- the inner loop: no text so far is the item's own -/
def InRel (l : List Itm) (x : Itm) (X : Nat) (k : Nat) (w : World) (i : Value) (wr : World) : Prop :=
  ∃ j : Nat, j ≤ k ∧ i = .int .i64 j ∧ Up w wr ∧ InRel.RowI' wr X x ∧ ∀ m (h : m < l.length), m < j → txtB x.t l[m] = false

theorem refPrintB (t : List UInt8) (w : World) (h : t.length ≤ 64) : Calls Tryz.prog 18 #[.int .i64 65581, .string (bs t)] w fun e w' => e = .returned (.int .i64 (FP t)) ∧ Up w w' := by
  have := refPrint_any 65581 (bs t) w (by omega) (by omega) (by rw [bs_size]; omega)
  rw [bs_list] at this
  exact this

theorem any_take {l : List Itm} {k : Nat} {t : List UInt8} (h : ∀ m (hm : m < l.length), m < k → txtB t l[m] = false) : (l.take k).any (txtB t) = false := by
  rw [Bool.eq_false_iff]
  intro ha
  obtain ⟨y, hy, e⟩ := List.any_eq_true.1 ha
  obtain ⟨m, hm, rfl⟩ := List.getElem_of_mem hy
  rw [List.length_take] at hm
  rw [List.getElem_take] at e
  rw [h m (by omega) (by omega)] at e
  cases e

theorem any_hit {l : List Itm} {k m : Nat} {t : List UInt8} (hm : m < l.length) (hk : m < k) (e : txtB t l[m] = true) : (l.take k).any (txtB t) = true := by
  rw [List.any_eq_true]
  exact ⟨l[m], by rw [List.mem_take_iff_getElem]; exact ⟨m, by omega, rfl⟩, e⟩

set_option maxRecDepth 100000 in
set_option maxHeartbeats 4000000 in
theorem refBag_any (v : Value) (l : List Itm) (w : World) (h : Items w v l) :
    Calls Tryz.prog 72 #[v] w fun e w' => e = .returned (.int .i64 (chk FP l)) ∧ Up w w' := by
  obtain ⟨o, c, rfl, h2, h3, h4⟩ := h
  unfold maxLen at h3
  by_cases hbig : 64 < l.length
  · have hv : chk FP l = 2 := by unfold chk; rw [if_pos hbig]
    rw [hv]
    clear hv h4
    go_enter Tryz.func72, Tryz.ntmps72
    go_wp2_with fail
    go_ret
    exact ⟨rfl, Up.refl _⟩
  have hv : chk FP l = chkL FP [] l := by unfold chk; rw [if_neg hbig]
  rw [hv]
  obtain ⟨E, hE⟩ : ∃ E, chkL FP [] l = E := ⟨_, rfl⟩
  rw [hE]
  have HE := Lib.hid hE
  have H4 := Lib.hid h4
  clear hv hE h4
  go_enter Tryz.func72, Tryz.ntmps72
  go_wp2_with fail
  go_loopw [12] (fun i wr => BagRel l w i wr) (fun i _ => l.length - (intOf i).toNat)
  case atStart => exact ⟨0, Nat.zero_le _, rfl, Up.refl w, rfl⟩
  case round =>
    obtain ⟨k, hk, rfl, hu, hck⟩ := hrel
    by_cases hlt : k < l.length
    case neg =>
      have d1 : decide (k < l.length) = false := decide_eq_false hlt
      rw [List.drop_of_length_le (by omega)] at hck
      have HER : Hid (E = 0) := HE.out.symm.trans hck
      clear hck
      go_wp2_with fail
      go_ret
      exact ⟨by rw [HER.out]; rfl, hu⟩
    rcases H4.out with h5 | ⟨b, off, rfl, h5⟩
    · rw [h5] at hlt; simp at hlt
    obtain ⟨a1, a2, a3, a4⟩ := h5 k hlt
    have k1 := World.block_lt_of_cell? w _ a1
    have hb1 : b < wr.heap.size := Nat.lt_of_lt_of_le k1 hu.size
    rw [← hu.cell (World.block_lt_of_cell? w _ a1)] at a1
    rw [← hu.cell (World.block_lt_of_cell? w _ a2)] at a2
    rw [← hu.cell (World.block_lt_of_cell? w _ a3)] at a3
    rw [← hu.cell (World.block_lt_of_cell? w _ a4)] at a4
    rw [List.drop_eq_getElem_cons hlt] at hck
    have hst : chkL FP (l.take k) (l[k] :: l.drop (k + 1)) = if errI FP (l.take k) l[k] = 0 then chkL FP (l.take (k + 1)) (l.drop (k + 1)) else errI FP (l.take k) l[k] := by
      rw [chkL, List.take_succ_eq_append_getElem hlt]
    rw [hst] at hck
    have HCK := Lib.hid hck
    have HEI : Hid (∀ e, errI FP (l.take k) l[k] = e → e ≠ 0 → E = e) := fun e he h0 => by
      have := HCK.out
      rw [he, if_neg h0] at this
      exact HE.out.symm.trans this
    have HOK : Hid (errI FP (l.take k) l[k] = 0 → chkL FP [] l = chkL FP (l.take (k + 1)) (l.drop (k + 1))) := fun h0 => by
      have := HCK.out
      rw [if_pos h0] at this
      exact this
    clear hst hck HCK
    obtain ⟨x, hx⟩ : ∃ x, l[k] = x := ⟨_, rfl⟩
    rw [hx] at a1 a2 a3 a4 HEI HOK
    have hsz := bs_size x.t
    have HQ := Lib.hid (heap_alloc_new wr (.cells #[.int .i64 x.s, .int .i64 x.n, .string (bs x.t), .int .i64 x.r] 89))
    have HU := Lib.hid hu
    have H5 := Lib.hid h5
    have d1 : decide (k < l.length) = true := decide_eq_true hlt
    clear h5 hu hx k1
    by_cases g1 : 64 < x.t.length
    · have HV := Lib.hid (HEI.out 2 (errI_2 _ _ _ g1) (by decide))
      rw [← hsz] at g1
      clear hsz
      go_wp2_with fail
      go_ret
      exact ⟨by rw [HV.out]; rfl, HU.out.trans (Up.alloc _ _)⟩
    have hs1 : (bs x.t).size ≤ 64 := by omega
    have HFP := Lib.hid (fun W => refPrintB x.t W (by omega))
    have HLL := Lib.hid g1
    obtain ⟨F, hF⟩ : ∃ F, FP x.t = F := ⟨_, rfl⟩
    rw [hF] at HFP
    have HF := Lib.hid hF
    clear hF hsz g1
    go_wp2_with fail
    have q0 := World.cell?_alloc_new wr #[.int .i64 x.s, .int .i64 x.n, .string (bs x.t), .int .i64 x.r] 89 0
    have q2 := World.cell?_alloc_new wr #[.int .i64 x.s, .int .i64 x.n, .string (bs x.t), .int .i64 x.r] 89 2
    have q4 : wr.heap.size < (wr.alloc (.cells #[.int .i64 x.s, .int .i64 x.n, .string (bs x.t), .int .i64 x.r] 89)).heap.size := by simp
    go_region_held3 (fun U => U.cell? ⟨wr.heap.size, 0, none⟩ = some (.int .i64 x.s) ∧ U.cell? ⟨wr.heap.size, 2, none⟩ = some (.string (bs x.t))) (go_keep)
      ((go_at_call 18; ((with_reducible refine (HFP.out _).mono ?_); rintro e w4 ⟨rfl, u4⟩; have f0 := (Below.cell u4 (p := ⟨wr.heap.size, 0, none⟩) q4).trans q0; have f2 := (Below.cell u4 (p := ⟨wr.heap.size, 2, none⟩) q4).trans q2)))
    all_goals
      have u4' := (Up.alloc wr (.cells #[.int .i64 x.s, .int .i64 x.n, .string (bs x.t), .int .i64 x.r] 89)).trans ((Up.drew _).trans u4)
      have hxb : w4.heap[wr.heap.size]? = some (.cells #[.int .i64 x.s, .int .i64 x.n, .string (bs x.t), .int .i64 x.r] 89 (0, 0)) := (u4.block wr.heap.size q4).trans HQ.out
      have HXB := Lib.hid hxb
      have HU4 := Lib.hid (HU.out.trans u4')
      have hXlt : wr.heap.size < w4.heap.size := Nat.lt_of_lt_of_le q4 u4.size
      have e0 : w4.cell? ⟨wr.heap.size, 0, none⟩ = some (.int .i64 x.s) := cell_of_row _ _ 0 _ _ _ hxb
      have e1 : w4.cell? ⟨wr.heap.size, 1, none⟩ = some (.int .i64 x.n) := cell_of_row _ _ 1 _ _ _ hxb
      have e2 : w4.cell? ⟨wr.heap.size, 2, none⟩ = some (.string (bs x.t)) := cell_of_row _ _ 2 _ _ _ hxb
      have e3 : w4.cell? ⟨wr.heap.size, 3, none⟩ = some (.int .i64 x.r) := cell_of_row _ _ 3 _ _ _ hxb
      clear f0 f2 q0 q2 q4 u4 hxb u4'
      generalize wr.heap.size = X at HXB hXlt e0 e1 e2 e3 ⊢
      by_cases g2 : F ≠ x.s
      · have HV := Lib.hid (HEI.out 6 (errI_6 _ _ _ HLL.out (by rw [HF.out]; exact fun h => g2 h.symm)) (by decide))
        have g3 : (F != x.s) = true := by rw [bne_iff_ne]; exact g2
        clear g2
        go_wp2_with fail
        go_ret
        exact ⟨by rw [HV.out]; rfl, HU4.out⟩
      have g2' := Decidable.not_not.1 g2
      have g3 : (F != x.s) = false := by rw [g2']; simp
      have HS : Hid (x.s = FP x.t) := by show _ = _; rw [HF.out, g2']
      clear g2 g2'
      by_cases g4 : argB x = true
      · have HV := Lib.hid (HEI.out 1 (errI_1 _ _ _ HLL.out HS.out g4) (by decide))
        unfold argB at g4
        simp only [Bool.or_eq_true, decide_eq_true_iff] at g4
        have HG := Lib.hid g4
        clear g4
        by_cases n1 : x.n < 0 ∨ 63 < x.n
        · have HN1 := Lib.hid n1
          clear n1
          go_wp2_with (go_at_call 15; refine (refWithin_no _ _ _ _ HN1.out).mono ?_; rintro e w' ⟨rfl, rfl⟩)
          go_ret
          exact ⟨by rw [HV.out]; rfl, HU4.out⟩
        · have HN1 : Hid (0 ≤ x.n ∧ x.n ≤ 63) := by show _ ∧ _; omega
          have HN2 : Hid (x.r < 1 ∨ 1000000 < x.r) := by show _ ∨ _; have := HG.out; omega
          clear n1
          go_wp2_with fail
          refine (refWithin_yes _ _ _ _ HN1.out.1 HN1.out.2).mono ?_
          rintro e w' ⟨rfl, rfl⟩
          go_wp2_with fail
          refine (refWithin_no _ _ _ _ HN2.out).mono ?_
          rintro e w' ⟨rfl, rfl⟩
          go_wp2_with fail
          go_ret
          exact ⟨by rw [HV.out]; rfl, HU4.out⟩
      have HG4 : Hid (argB x = false) := by show _ = _; simpa using g4
      have HAR := Lib.hid ((arg_iff x).1 HG4.out)
      clear g4
      go_wp2_with fail
      refine (refWithin_yes _ _ _ _ HAR.out.1 HAR.out.2.1).mono ?_
      rintro e w' ⟨rfl, rfl⟩
      go_wp2_with fail
      refine (refWithin_yes _ _ _ _ HAR.out.2.2.1 HAR.out.2.2.2).mono ?_
      rintro e w' ⟨rfl, rfl⟩
      by_cases hk0 : k = 0
      · have dk : decide (0 < (k : Int)) = false := by rw [decide_eq_false_iff_not]; omega
        have dk2 : decide (0 < k) = false := by rw [decide_eq_false_iff_not]; omega
        have HLT : Hid (lastB (l.take k) x = true) := by show _ = _; rw [hk0]; rfl
        have HK0 := Lib.hid hk0
        clear hk0
        have HE5 := Lib.hid (errI_5 FP (l.take k) x HLL.out HS.out HG4.out HLT.out)
        go_wp2_with fail
        go_quiet (fail)
        obtain ⟨w5, hw5⟩ : ∃ w5, w4.drewN nq = w5 := ⟨_, rfl⟩
        have u45 : Up w4 w5 := by rw [← hw5]; exact Up.drewN _ _
        have HU5 := Lib.hid (HU4.out.trans u45)
        have HST : Hid (InRel l x X k w (.int .i64 0) w5) := ⟨0, Nat.zero_le _, rfl, HU5.out, (u45.block X hXlt).trans HXB.out, fun m _ hm => by omega⟩
        rw [hw5]
        clear hw5 u45 e0 e1 e2 e3
        go_wp2_with fail
        go_loopw [76] (fun i wr => InRel l x X k w i wr) (fun i _ => k - (intOf i).toNat)
        case atStart => exact HST.out
        case round =>
          obtain ⟨j, hj, rfl, hu, hxq, hno⟩ := hrel
          have HN := Lib.hid hno
          clear hno
          by_cases hjk : j < k
          · obtain ⟨y1, y2, y3, y4⟩ := H5.out j (by omega)
            rw [← hu.cell (World.block_lt_of_cell? w _ y1)] at y1
            rw [← hu.cell (World.block_lt_of_cell? w _ y2)] at y2
            rw [← hu.cell (World.block_lt_of_cell? w _ y3)] at y3
            rw [← hu.cell (World.block_lt_of_cell? w _ y4)] at y4
            have hq := txt_eq (l[j]'(by omega)).t x.t
            obtain ⟨P, hP⟩ : ∃ P, txtB x.t (l[j]'(by omega)) = P := ⟨_, rfl⟩
            rw [show ((l[j]'(by omega)).t == x.t) = txtB x.t (l[j]'(by omega)) from rfl, hP] at hq
            have HPP := Lib.hid hP
            generalize (l[j]'(by omega)).s = ys at y1
            generalize (l[j]'(by omega)).n = yn at y2
            generalize bs (l[j]'(by omega)).t = yt at y3 hq
            generalize (l[j]'(by omega)).r = yr at y4
            have z2 : wr.cell? ⟨X, 2, none⟩ = some (.string (bs x.t)) := cell_of_row _ _ 2 _ _ _ hxq
            have hXq : X < wr.heap.size := (Array.getElem?_eq_some_iff.1 hxq).1
            have hXne : X ≠ wr.heap.size := by omega
            have HUQ : Hid (Up w (wr.alloc (.cells #[.int .i64 ys, .int .i64 yn, .string yt, .int .i64 yr] 89))) := hu.trans (Up.alloc _ _)
            have HXQ : Hid (InRel.RowI' (wr.alloc (.cells #[.int .i64 ys, .int .i64 yn, .string yt, .int .i64 yr] 89)) X x) := ((Up.alloc wr (.cells #[.int .i64 ys, .int .i64 yn, .string yt, .int .i64 yr] 89)).block X hXq).trans hxq
            have dj : decide (j < k) = true := decide_eq_true hjk
            clear hu hxq hP
            cases P with
            | true =>
              have HV := Lib.hid (HEI.out 5 (by rw [HE5.out, if_pos (any_hit (by omega) hjk HPP.out)]) (by decide))
              go_wp2_with fail
              go_ret
              exact ⟨by rw [HV.out]; rfl, HUQ.out⟩
            | false =>
              have HREL : Hid (InRel l x X k w (.int .i64 ((j + 1 : Nat) : Int)) (wr.alloc (.cells #[.int .i64 ys, .int .i64 yn, .string yt, .int .i64 yr] 89))) := by
                refine ⟨j + 1, by omega, rfl, HUQ.out, HXQ.out, fun m hm hmj => ?_⟩
                by_cases e : m = j
                · subst e; exact HPP.out
                · exact HN.out m hm (by omega)
              go_wp2_with fail
              go_roundw
              case rel => exact HREL.out
              case measure => simp only [intOf]; omega
          · have dj : decide (j < k) = false := decide_eq_false hjk
            have HREL : Hid (BagRel l w (.int .i64 ((k + 1 : Nat) : Int)) wr) := ⟨k + 1, by omega, rfl, hu, HOK.out (by rw [HE5.out, if_neg]; rw [any_take (fun m hm hmk => HN.out m hm (by omega))]; simp)⟩
            clear hu hxq
            go_wp2_with fail
            go_roundw
            case rel => exact HREL.out
            case measure => simp only [intOf]; omega
      · obtain ⟨K, hK⟩ : ∃ K, k = K + 1 := ⟨k - 1, by omega⟩
        have hKl : K < l.length := by omega
        have hlast : lastB (l.take k) x = behB l[K] x := by rw [hK]; exact last_take (by omega) x
        obtain ⟨y1, y2, _, _⟩ := H5.out K hKl
        have c1 := (HU4.out.cell (World.block_lt_of_cell? w _ y1)).trans y1
        have c2 := (HU4.out.cell (World.block_lt_of_cell? w _ y2)).trans y2
        unfold behB at hlast
        generalize l[K].s = as' at *
        generalize l[K].n = an at *
        have dk : decide (0 < (k : Int)) = true := by rw [decide_eq_true_iff]; omega
        have dk2 : decide (0 < k) = true := by rw [decide_eq_true_iff]; omega
        have dk3 : 0 < k := by omega
        have p1 : IntKind.i64.wrap ((k : Int) - 1) = (K : Int) := by rw [show (k : Int) - 1 = (K : Int) by omega]; exact IntWalk.i64_in _ (by omega)
        clear hK hk0 y1 y2
        by_cases r1 : x.s < as'
        · have HV := Lib.hid (HEI.out 3 (errI_3 _ _ _ HLL.out HS.out HG4.out (by rw [hlast]; simp; omega)) (by decide))
          have t1 : decide (x.s < as') = true := decide_eq_true r1
          clear hlast
          go_wp2_with fail
          go_quiet (fail)
          go_wp2_with fail
          go_ret
          exact ⟨by rw [HV.out]; rfl, HU4.out.trans (Up.drewN _ _)⟩
        have t1 : decide (x.s < as') = false := decide_eq_false r1
        by_cases r2 : as' = x.s
        · have t2 : (as' == x.s) = true := by simpa using r2
          by_cases r3 : x.n ≤ an
          · have HV := Lib.hid (HEI.out 3 (errI_3 _ _ _ HLL.out HS.out HG4.out (by rw [hlast]; simp; omega)) (by decide))
            have t3 : decide (x.n ≤ an) = true := decide_eq_true r3
            clear hlast r2
            go_wp2_with fail
            go_quiet (fail)
            go_wp2_with fail
            go_ret
            exact ⟨by rw [HV.out]; rfl, HU4.out.trans (Up.drewN _ _)⟩
          · have HLT : Hid (lastB (l.take k) x = true) := by show _ = _; rw [hlast]; simp; omega
            have t3 : decide (x.n ≤ an) = false := decide_eq_false r3
            clear hlast r2
            have HE5 := Lib.hid (errI_5 FP (l.take k) x HLL.out HS.out HG4.out HLT.out)
            go_wp2_with fail
            go_quiet (fail)
            obtain ⟨w5, hw5⟩ : ∃ w5, w4.drewN nq = w5 := ⟨_, rfl⟩
            have u45 : Up w4 w5 := by rw [← hw5]; exact Up.drewN _ _
            have HU5 := Lib.hid (HU4.out.trans u45)
            have HST : Hid (InRel l x X k w (.int .i64 0) w5) := ⟨0, Nat.zero_le _, rfl, HU5.out, (u45.block X hXlt).trans HXB.out, fun m _ hm => by omega⟩
            rw [hw5]
            clear hw5 u45 e0 e1 e2 e3
            go_wp2_with fail
            go_loopw [76] (fun i wr => InRel l x X k w i wr) (fun i _ => k - (intOf i).toNat)
            case atStart => exact HST.out
            case round =>
              obtain ⟨j, hj, rfl, hu, hxq, hno⟩ := hrel
              have HN := Lib.hid hno
              clear hno
              by_cases hjk : j < k
              · obtain ⟨y1, y2, y3, y4⟩ := H5.out j (by omega)
                rw [← hu.cell (World.block_lt_of_cell? w _ y1)] at y1
                rw [← hu.cell (World.block_lt_of_cell? w _ y2)] at y2
                rw [← hu.cell (World.block_lt_of_cell? w _ y3)] at y3
                rw [← hu.cell (World.block_lt_of_cell? w _ y4)] at y4
                have hq := txt_eq (l[j]'(by omega)).t x.t
                obtain ⟨P, hP⟩ : ∃ P, txtB x.t (l[j]'(by omega)) = P := ⟨_, rfl⟩
                rw [show ((l[j]'(by omega)).t == x.t) = txtB x.t (l[j]'(by omega)) from rfl, hP] at hq
                have HPP := Lib.hid hP
                generalize (l[j]'(by omega)).s = ys at y1
                generalize (l[j]'(by omega)).n = yn at y2
                generalize bs (l[j]'(by omega)).t = yt at y3 hq
                generalize (l[j]'(by omega)).r = yr at y4
                have z2 : wr.cell? ⟨X, 2, none⟩ = some (.string (bs x.t)) := cell_of_row _ _ 2 _ _ _ hxq
                have hXq : X < wr.heap.size := (Array.getElem?_eq_some_iff.1 hxq).1
                have hXne : X ≠ wr.heap.size := by omega
                have HUQ : Hid (Up w (wr.alloc (.cells #[.int .i64 ys, .int .i64 yn, .string yt, .int .i64 yr] 89))) := hu.trans (Up.alloc _ _)
                have HXQ : Hid (InRel.RowI' (wr.alloc (.cells #[.int .i64 ys, .int .i64 yn, .string yt, .int .i64 yr] 89)) X x) := ((Up.alloc wr (.cells #[.int .i64 ys, .int .i64 yn, .string yt, .int .i64 yr] 89)).block X hXq).trans hxq
                have dj : decide (j < k) = true := decide_eq_true hjk
                clear hu hxq hP
                cases P with
                | true =>
                  have HV := Lib.hid (HEI.out 5 (by rw [HE5.out, if_pos (any_hit (by omega) hjk HPP.out)]) (by decide))
                  go_wp2_with fail
                  go_ret
                  exact ⟨by rw [HV.out]; rfl, HUQ.out⟩
                | false =>
                  have HREL : Hid (InRel l x X k w (.int .i64 ((j + 1 : Nat) : Int)) (wr.alloc (.cells #[.int .i64 ys, .int .i64 yn, .string yt, .int .i64 yr] 89))) := by
                    refine ⟨j + 1, by omega, rfl, HUQ.out, HXQ.out, fun m hm hmj => ?_⟩
                    by_cases e : m = j
                    · subst e; exact HPP.out
                    · exact HN.out m hm (by omega)
                  go_wp2_with fail
                  go_roundw
                  case rel => exact HREL.out
                  case measure => simp only [intOf]; omega
              · have dj : decide (j < k) = false := decide_eq_false hjk
                have HREL : Hid (BagRel l w (.int .i64 ((k + 1 : Nat) : Int)) wr) := ⟨k + 1, by omega, rfl, hu, HOK.out (by rw [HE5.out, if_neg]; rw [any_take (fun m hm hmk => HN.out m hm (by omega))]; simp)⟩
                clear hu hxq
                go_wp2_with fail
                go_roundw
                case rel => exact HREL.out
                case measure => simp only [intOf]; omega
        · have t2 : (as' == x.s) = false := by simpa using r2
          have HLT : Hid (lastB (l.take k) x = true) := by show _ = _; rw [hlast]; simp; omega
          clear hlast r2
          have HE5 := Lib.hid (errI_5 FP (l.take k) x HLL.out HS.out HG4.out HLT.out)
          go_wp2_with fail
          go_quiet (fail)
          obtain ⟨w5, hw5⟩ : ∃ w5, w4.drewN nq = w5 := ⟨_, rfl⟩
          have u45 : Up w4 w5 := by rw [← hw5]; exact Up.drewN _ _
          have HU5 := Lib.hid (HU4.out.trans u45)
          have HST : Hid (InRel l x X k w (.int .i64 0) w5) := ⟨0, Nat.zero_le _, rfl, HU5.out, (u45.block X hXlt).trans HXB.out, fun m _ hm => by omega⟩
          rw [hw5]
          clear hw5 u45 e0 e1 e2 e3
          go_wp2_with fail
          go_loopw [76] (fun i wr => InRel l x X k w i wr) (fun i _ => k - (intOf i).toNat)
          case atStart => exact HST.out
          case round =>
            obtain ⟨j, hj, rfl, hu, hxq, hno⟩ := hrel
            have HN := Lib.hid hno
            clear hno
            by_cases hjk : j < k
            · obtain ⟨y1, y2, y3, y4⟩ := H5.out j (by omega)
              rw [← hu.cell (World.block_lt_of_cell? w _ y1)] at y1
              rw [← hu.cell (World.block_lt_of_cell? w _ y2)] at y2
              rw [← hu.cell (World.block_lt_of_cell? w _ y3)] at y3
              rw [← hu.cell (World.block_lt_of_cell? w _ y4)] at y4
              have hq := txt_eq (l[j]'(by omega)).t x.t
              obtain ⟨P, hP⟩ : ∃ P, txtB x.t (l[j]'(by omega)) = P := ⟨_, rfl⟩
              rw [show ((l[j]'(by omega)).t == x.t) = txtB x.t (l[j]'(by omega)) from rfl, hP] at hq
              have HPP := Lib.hid hP
              generalize (l[j]'(by omega)).s = ys at y1
              generalize (l[j]'(by omega)).n = yn at y2
              generalize bs (l[j]'(by omega)).t = yt at y3 hq
              generalize (l[j]'(by omega)).r = yr at y4
              have z2 : wr.cell? ⟨X, 2, none⟩ = some (.string (bs x.t)) := cell_of_row _ _ 2 _ _ _ hxq
              have hXq : X < wr.heap.size := (Array.getElem?_eq_some_iff.1 hxq).1
              have hXne : X ≠ wr.heap.size := by omega
              have HUQ : Hid (Up w (wr.alloc (.cells #[.int .i64 ys, .int .i64 yn, .string yt, .int .i64 yr] 89))) := hu.trans (Up.alloc _ _)
              have HXQ : Hid (InRel.RowI' (wr.alloc (.cells #[.int .i64 ys, .int .i64 yn, .string yt, .int .i64 yr] 89)) X x) := ((Up.alloc wr (.cells #[.int .i64 ys, .int .i64 yn, .string yt, .int .i64 yr] 89)).block X hXq).trans hxq
              have dj : decide (j < k) = true := decide_eq_true hjk
              clear hu hxq hP
              cases P with
              | true =>
                have HV := Lib.hid (HEI.out 5 (by rw [HE5.out, if_pos (any_hit (by omega) hjk HPP.out)]) (by decide))
                go_wp2_with fail
                go_ret
                exact ⟨by rw [HV.out]; rfl, HUQ.out⟩
              | false =>
                have HREL : Hid (InRel l x X k w (.int .i64 ((j + 1 : Nat) : Int)) (wr.alloc (.cells #[.int .i64 ys, .int .i64 yn, .string yt, .int .i64 yr] 89))) := by
                  refine ⟨j + 1, by omega, rfl, HUQ.out, HXQ.out, fun m hm hmj => ?_⟩
                  by_cases e : m = j
                  · subst e; exact HPP.out
                  · exact HN.out m hm (by omega)
                go_wp2_with fail
                go_roundw
                case rel => exact HREL.out
                case measure => simp only [intOf]; omega
            · have dj : decide (j < k) = false := decide_eq_false hjk
              have HREL : Hid (BagRel l w (.int .i64 ((k + 1 : Nat) : Int)) wr) := ⟨k + 1, by omega, rfl, hu, HOK.out (by rw [HE5.out, if_neg]; rw [any_take (fun m hm hmk => HN.out m hm (by omega))]; simp)⟩
              clear hu hxq
              go_wp2_with fail
              go_roundw
              case rel => exact HREL.out
              case measure => simp only [intOf]; omega

end Go.Proofs.YtbeigaanlhaolaaGreatDoor
