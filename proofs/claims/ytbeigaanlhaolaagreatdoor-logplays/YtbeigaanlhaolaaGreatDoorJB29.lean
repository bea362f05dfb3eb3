/-
  The texts RefFrm2, RefBag1, one behind the other; each says below what it holds and on what conditions.
-/
import Derived.Test.YtbeigaanlhaolaaGreatDoorJB28
import Derived.Deep.RegionHeld3
import Derived.BigRegion
import Derived.Test.YtbeigaanlhaolaaGreatDoorJB11

/-
  What the reference's Unframe returns, at every text. Condition: at most 2^47 - 4096 bytes.
-/
namespace Go.Proofs.YtbeigaanlhaolaaGreatDoor
open Go.RowKit
open Go.Proofs

theorem bl_eq (s : List UInt8) (h1 : 1 < s.length) (h2 : 2 < s.length) : bl s = 256 * s[1].toNat + s[2].toNat := by
  have e : (s.drop 1).take 2 = [s[1], s[2]] := by
    apply List.ext_getElem
    · simp; omega
    · intro i a b
      match i, b with
      | 0, _ => simp
      | 1, _ => simp
  unfold bl
  rw [e]
  show (0 * 256 + s[1].toNat) * 256 + s[2].toNat = _
  omega

theorem kind_eq (s : List UInt8) (h : 0 < s.length) : nv (s.take 1) = s[0].toNat ∧ s.take 1 = [s[0]] := by
  have e : s.take 1 = [s[0]] := by
    cases s with
    | nil => simp at h
    | cons x r => rfl
  refine ⟨?_, e⟩
  rw [e]
  show 0 * 256 + s[0].toNat = _
  omega

set_option maxRecDepth 100000 in
set_option maxHeartbeats 1000000 in
theorem unframe_any (s : List UInt8) (w : World) (hl : s.length ≤ 140737488351232) :
    Calls Tryz.prog 21 #[.string (bs s)] w fun e w' => e = .returned (getR s) ∧ Up w w' := by
  have hsz := bs_size s
  by_cases h1 : s.length < 3
  · have HV : Hid (getR s = .tuple #[.agg #[.int .i64 0, .string (bs [])], .int .i64 0, .int .i64 7]) := by
      show _ = _
      unfold getR getV
      rw [if_pos h1]
      rfl
    obtain ⟨n, hn⟩ : ∃ n, s.length = n := ⟨_, rfl⟩
    rw [hn] at hsz h1
    clear hn hl
    go_enter Tryz.func21, Tryz.ntmps21
    go_wp2_with fail
    exact bodyPost_ret (v := .tuple #[.agg #[.int .i64 0, .string ⟨#[]⟩], .int .i64 0, .int .i64 7]) (by simp [results, Tryz.results21, go_sem]) rfl ⟨by rw [HV.out]; rfl, Up.alloc _ _⟩
  have hi0 := index_bs s 0 (by omega)
  have hi1 := index_bs s 1 (by omega)
  have hi2 := index_bs s 2 (by omega)
  rw [show ((0 : Nat) : Int) = 0 from rfl] at hi0
  rw [show ((1 : Nat) : Int) = 1 from rfl] at hi1
  rw [show ((2 : Nat) : Int) = 2 from rfl] at hi2
  obtain ⟨hk, hka⟩ := kind_eq s (by omega)
  have hb := bl_eq s (by omega) (by omega)
  have hto := to_bs s 1 1 rfl (by omega)
  have hc0 : s[0].toNat < 256 := s[0].toNat_lt
  have hc1 : s[1].toNat < 256 := s[1].toNat_lt
  have hc2 : s[2].toNat < 256 := s[2].toNat_lt
  have HZ : Hid ((((bs (s.take 1)).toList == [0]) = true) ↔ nv (s.take 1) = 0) := by
    show _ ↔ _
    rw [ByteArray.toList_eq, bs_list, hka, beq_iff_eq]
    show _ ↔ 0 * 256 + s[0].toNat = 0
    constructor
    · intro h; simp at h; rw [h]; rfl
    · intro h
      have : s[0] = 0 := UInt8.toNat_inj.1 (by show s[0].toNat = 0; omega)
      rw [this]
  obtain ⟨x0, hx0⟩ : ∃ x, s[0].toNat = x := ⟨_, rfl⟩
  obtain ⟨x1, hx1⟩ : ∃ x, s[1].toNat = x := ⟨_, rfl⟩
  obtain ⟨x2, hx2⟩ : ∃ x, s[2].toNat = x := ⟨_, rfl⟩
  rw [hx0] at hi0 hk hc0
  rw [hx1] at hi1 hb hc1
  rw [hx2] at hi2 hb hc2
  have p0 : IntKind.i64.wrap (x0 : Int) = (x0 : Int) := wrap_i64_nat x0 (by omega)
  have p1 : IntKind.i64.wrap (x1 : Int) = (x1 : Int) := wrap_i64_nat x1 (by omega)
  have p2 : IntKind.i64.wrap (x2 : Int) = (x2 : Int) := wrap_i64_nat x2 (by omega)
  obtain ⟨L, hL⟩ : ∃ L, bl s = L := ⟨_, rfl⟩
  rw [hL] at hb
  have p3 : IntKind.i64.wrap (256 * (x1 : Int)) = ((256 * x1 : Nat) : Int) := by rw [show 256 * (x1 : Int) = ((256 * x1 : Nat) : Int) by omega]; exact wrap_i64_nat _ (by omega)
  have p4 : IntKind.i64.wrap (((256 * x1 : Nat) : Int) + (x2 : Int)) = (L : Int) := by rw [show ((256 * x1 : Nat) : Int) + (x2 : Int) = (L : Int) by omega]; exact wrap_i64_nat _ (by omega)
  have p4' : IntKind.i64.wrap (256 * (x1 : Int) + (x2 : Int)) = (L : Int) := by rw [show 256 * (x1 : Int) + (x2 : Int) = (L : Int) by omega]; exact wrap_i64_nat _ (by omega)
  obtain ⟨A, hA⟩ : ∃ A, s.take 1 = A := ⟨_, rfl⟩
  rw [hA] at hto HZ hk
  by_cases h2 : nv (s.take 1) = 0 ∨ 700 < bl s
  · have HV : Hid (getR s = .tuple #[.agg #[.int .i64 0, .string (bs [])], .int .i64 0, .int .i64 3]) := by
      show _ = _
      unfold getR getV
      rw [if_neg h1, if_pos h2]
      rfl
    rw [hA, hL] at h2
    have H2 : Hid (((bs A).toList == [0]) = true ∨ 700 < L) := by
      rcases h2 with h | h
      · exact .inl (HZ.out.2 h)
      · exact .inr h
    have hL1 : L < 65536 := by omega
    clear hA hL h2 hx0 hx1 hx2 hka hb HZ hk
    go_enter Tryz.func21, Tryz.ntmps21
    go_wp2_with fail
    go_region_held3 (fun _ => True) (trivial) (fail)
    all_goals
      by_cases h3 : ((bs A).toList == [0]) = true
      · clear H2
        go_wp2_with fail
        exact bodyPost_ret (v := .tuple #[.agg #[.int .i64 0, .string ⟨#[]⟩], .int .i64 0, .int .i64 3]) (by simp [results, Tryz.results21, go_sem]) rfl ⟨by rw [HV.out]; rfl, (Up.alloc _ _).trans (Up.drew _)⟩
      · have h4 : ((bs A).toList == [0]) = false := by simpa using h3
        have d2 : 700 < L := by rcases H2.out with h | h; exact absurd h h3; exact h
        clear H2 h3
        go_wp2_with fail
        exact bodyPost_ret (v := .tuple #[.agg #[.int .i64 0, .string ⟨#[]⟩], .int .i64 0, .int .i64 3]) (by simp [results, Tryz.results21, go_sem]) rfl ⟨by rw [HV.out]; rfl, (Up.alloc _ _).trans (Up.drew _)⟩
  have h3 : ¬ nv (s.take 1) = 0 := fun h => h2 (.inl h)
  have h4 : ¬ 700 < L := fun h => h2 (.inr (by rw [hL]; exact h))
  have f0 : ((bs A).toList == [0]) = false := by
    rw [hA] at h3
    have := mt HZ.out.1 h3
    simpa using this
  by_cases h5 : s.length < bl s + 7
  · have HV : Hid (getR s = .tuple #[.agg #[.int .i64 0, .string (bs [])], .int .i64 0, .int .i64 7]) := by
      show _ = _
      unfold getR getV
      rw [if_neg h1, if_neg h2, if_pos h5]
      rfl
    rw [hL] at h5
    clear hA hL h2 h3 hx0 hx1 hx2 hka hb HZ hk
    go_enter Tryz.func21, Tryz.ntmps21
    go_wp2_with fail
    go_region_held3 (fun _ => True) (trivial) (fail)
    all_goals
      go_wp2_with fail
      exact bodyPost_ret (v := .tuple #[.agg #[.int .i64 0, .string ⟨#[]⟩], .int .i64 0, .int .i64 7]) (by simp [results, Tryz.results21, go_sem]) rfl ⟨by rw [HV.out]; rfl, (Up.alloc _ _).trans (Up.drew _)⟩
  have hsl := slice_bs s 3 (3 + (L : Int)) 3 (3 + L) rfl (by omega) (by omega) (by omega)
  rw [show 3 + L - 3 = L by omega] at hsl
  have hto2 := to_bs s ((L : Int) + 7) (L + 7) (by omega) (by omega)
  have hfo := frm_of s (by omega)
  rw [hL, hA] at hfo
  have p5 : IntKind.i64.wrap (3 + (L : Int)) = 3 + (L : Int) := by rw [show 3 + (L : Int) = ((3 + L : Nat) : Int) by omega]; exact wrap_i64_nat _ (by omega)
  obtain ⟨E, hE⟩ : ∃ E, (s.drop 3).take L = E := ⟨_, rfl⟩
  obtain ⟨P, hP⟩ : ∃ P, s.take (L + 7) = P := ⟨_, rfl⟩
  have hEl : E.length ≤ 700 := by rw [← hE, List.length_take]; omega
  rw [hE] at hsl hfo
  rw [hP] at hto2 hfo
  rw [hk] at hfo
  have k1 : 1 ≤ x0 := by rw [hA, hk] at h3; omega
  have HP := Lib.hid (putR_ok (K := x0) (b := E) k1 (by omega) hEl)
  have HEL : Hid (E.length ≤ 140737488351232) := by show E.length ≤ 140737488351232; omega
  obtain ⟨F, hF⟩ : ∃ F, frm x0 E = F := ⟨_, rfl⟩
  rw [hF] at HP hfo
  have HPL : Hid (nv (s.take 1) = x0) := by show _ = _; rw [hA, hk]
  by_cases h6 : nv ((s.drop (3 + L)).take 4) = fp 1073741907 (s.take (3 + L))
  · have HV : Hid (getR s = .tuple #[.agg #[.int .i64 (x0 : Int), .string (bs E)], .int .i64 ((L + 7 : Nat) : Int), .int .i64 0]) := by
      show _ = _
      unfold getR getV
      rw [if_neg h1, if_neg h2, if_neg h5, hL, if_neg (by simpa using h6), hE, HPL.out]
      rfl
    have hFP : F = P := hfo.2 h6
    subst hFP
    rw [hL] at h5
    clear hA hL h2 h3 hx0 hx1 hx2 hka hb HZ hk hfo hE hP hF h6 HPL hEl
    go_enter Tryz.func21, Tryz.ntmps21
    go_wp2_with fail
    go_region_held3 (fun _ => True) (trivial) (fail)
    all_goals
      go_wp2_with fail
      go_region
      all_goals
        go_wp2_with fail
        refine (rframe_any (x0 : Int) E _ HEL.out).mono ?_
        rintro e w3 ⟨rfl, u3⟩
        rw [HP.out]
        have UW : Up (w.alloc (.cells #[.int .i64 0, .string ⟨#[]⟩] 32)) w3 := (Up.alloc _ _).trans ((Up.drew _).trans ((Up.drew _).trans u3))
        have B2 := (Box2.new (w.alloc (.cells #[.int .i64 0, .string ⟨#[]⟩] 32)) 32 (.int .i64 (x0 : Int)) (.string (bs E))).up ((Up.drew _).trans ((Up.drew _).trans u3))
        rw [World.size_alloc] at B2
        obtain ⟨c5, c6⟩ := B2.cells
        obtain ⟨⟨w2, hw2, e0, e1, hw⟩, hfz, c0, c1⟩ := set_box2 w w3 32 (.int .i64 0) (.string ⟨#[]⟩) (.int .i64 (x0 : Int)) (.string (bs E)) UW
        have HW := Lib.hid hw2
        clear hw2
        go_wp2_with fail
        rw [HW.out]
        exact bodyPost_ret (v := .tuple #[.agg #[.int .i64 (x0 : Int), .string (bs E)], .int .i64 ((L : Int) + 7), .int .i64 0]) (by simp [results, Tryz.results21, go_sem, e0, e1]) rfl ⟨by rw [HV.out, show ((L + 7 : Nat) : Int) = (L : Int) + 7 by omega], hw⟩
  · have HV : Hid (getR s = .tuple #[.agg #[.int .i64 0, .string (bs [])], .int .i64 0, .int .i64 6]) := by
      show _ = _
      unfold getR getV
      rw [if_neg h1, if_neg h2, if_neg h5, hL, if_pos h6]
      rfl
    have hFP : F ≠ P := fun h => h6 (hfo.1 h)
    have f1 : ((bs F).toList == (bs P).toList) = false := by
      rw [ByteArray.toList_eq, ByteArray.toList_eq, bs_list, bs_list]
      simpa using hFP
    rw [hL] at h5
    clear hA hL h2 h3 hx0 hx1 hx2 hka hb HZ hk hfo hE hP hF h6 HPL hEl hFP
    go_enter Tryz.func21, Tryz.ntmps21
    go_wp2_with fail
    go_region_held3 (fun _ => True) (trivial) (fail)
    all_goals
      go_wp2_with fail
      go_region
      all_goals
        go_wp2_with fail
        refine (rframe_any (x0 : Int) E _ HEL.out).mono ?_
        rintro e w3 ⟨rfl, u3⟩
        rw [HP.out]
        have UW : Up (w.alloc (.cells #[.int .i64 0, .string ⟨#[]⟩] 32)) w3 := (Up.alloc _ _).trans ((Up.drew _).trans ((Up.drew _).trans u3))
        have B2 := (Box2.new (w.alloc (.cells #[.int .i64 0, .string ⟨#[]⟩] 32)) 32 (.int .i64 (x0 : Int)) (.string (bs E))).up ((Up.drew _).trans ((Up.drew _).trans u3))
        rw [World.size_alloc] at B2
        obtain ⟨c5, c6⟩ := B2.cells
        obtain ⟨⟨w2, hw2, e0, e1, hw⟩, hfz, c0, c1⟩ := set_box2 w w3 32 (.int .i64 0) (.string ⟨#[]⟩) (.int .i64 0) (.string ⟨#[]⟩) UW
        have HW := Lib.hid hw2
        clear hw2
        go_wp2_with fail
        rw [HW.out]
        exact bodyPost_ret (v := .tuple #[.agg #[.int .i64 0, .string ⟨#[]⟩], .int .i64 0, .int .i64 6]) (by simp [results, Tryz.results21, go_sem, e0, e1]) rfl ⟨by rw [HV.out]; rfl, hw⟩

end Go.Proofs.YtbeigaanlhaolaaGreatDoor

/-
  What the reference's Item and Bag return: where an identifier's item stands, and what is wrong with a bag. Condition: the row can be read.
-/
namespace Go.Proofs.YtbeigaanlhaolaaGreatDoor
open Go.RowKit
open Go.Proofs
open WoolBag

def ItmRel (id : Bool × Int × Int) (l : List Itm) (w : World) (i : Value) (wr : World) : Prop :=
  ∃ k : Nat, k ≤ l.length ∧ i = .int .i64 k ∧ Up w wr ∧ BoxI wr w.heap.size 86 (.bool id.1) (.int .i64 id.2.1) (.int .i64 id.2.2) ∧ ∀ j (h : j < l.length), j < k → idB id l[j] = false

set_option maxRecDepth 100000 in
set_option maxHeartbeats 1000000 in
theorem refItem_any (v : Value) (l : List Itm) (ib : Bool) (is iN : Int) (w : World) (h : Items w v l) :
    Calls Tryz.prog 46 #[v, .agg #[.bool ib, .int .i64 is, .int .i64 iN]] w fun e w' => e = .returned (.int .i64 (ixI (idB (ib, is, iN)) l)) ∧ Up w w' := by
  obtain ⟨o, c, rfl, h2, h3, h4⟩ := h
  unfold maxLen at h3
  have H4 := Lib.hid h4
  obtain ⟨R, hR⟩ : ∃ R, ixI (idB (ib, is, iN)) l = R := ⟨_, rfl⟩
  rw [hR]
  unfold ixI at hR
  have HR := Lib.hid hR
  have HST : Hid (ItmRel (ib, is, iN) l w (.int .i64 0) (w.alloc (.cells #[.bool ib, .int .i64 is, .int .i64 iN] 86))) := ⟨0, Nat.zero_le _, rfl, Up.alloc _ _, BoxI.new w _ _ _ _, fun j _ hj => by omega⟩
  clear h4 hR
  go_enter Tryz.func46, Tryz.ntmps46
  go_wp2_with fail
  go_loopw [5, 9] (fun _ i wr => ItmRel (ib, is, iN) l w i wr) (fun _ i _ => l.length - (intOf i).toNat)
  case atStart => exact HST.out
  case round =>
    obtain ⟨k, hk, rfl, hu, hbx, hno⟩ := hrel
    have HN := Lib.hid hno
    clear hno
    by_cases hlt : k < l.length
    · rcases H4.out with h5 | ⟨b, off, rfl, h5⟩
      · rw [h5] at hlt; simp at hlt
      · obtain ⟨a1, a2, a3, a4⟩ := h5 k hlt
        rw [← hu.cell (World.block_lt_of_cell? w _ a1)] at a1
        rw [← hu.cell (World.block_lt_of_cell? w _ a2)] at a2
        rw [← hu.cell (World.block_lt_of_cell? w _ a3)] at a3
        rw [← hu.cell (World.block_lt_of_cell? w _ a4)] at a4
        obtain ⟨P, hP⟩ : ∃ P, idB (ib, is, iN) l[k] = P := ⟨_, rfl⟩
        have HPP := Lib.hid hP
        have hq : idB (ib, is, iN) l[k] = (ib && (l[k].s == is) && (l[k].n == iN)) := rfl
        rw [hq] at hP
        obtain ⟨x0, x1, x2⟩ := hbx.cells
        have hltb := hbx.lt
        have hneb : w.heap.size ≠ wr.heap.size := by omega
        generalize l[k].s = xs at a1 hP
        generalize l[k].n = xn at a2 hP
        generalize bs l[k].t = xt at a3
        generalize l[k].r = xr at a4
        have HU : Hid (Up w (wr.alloc (.cells #[.int .i64 xs, .int .i64 xn, .string xt, .int .i64 xr] 89))) := hu.trans (Up.alloc _ _)
        have HB := Lib.hid (hbx.up (Up.alloc wr (.cells #[.int .i64 xs, .int .i64 xn, .string xt, .int .i64 xr] 89)))
        have d1 : decide (k < l.length) = true := decide_eq_true hlt
        clear h5 hu hbx hq
        cases P with
        | true =>
          simp only [Bool.and_eq_true, beq_iff_eq] at hP
          obtain ⟨⟨rfl, rfl⟩, rfl⟩ := hP
          have HV : Hid (R = (k : Int)) := by
            show R = _
            rw [← HR.out, idx_of hlt HPP.out (fun j hj => HN.out j (by omega) hj)]
          go_wp2_with fail
          go_ret
          exact ⟨by rw [HV.out]; rfl, HU.out⟩
        | false =>
          have HREL : Hid (ItmRel (ib, is, iN) l w (.int .i64 ((k + 1 : Nat) : Int)) (wr.alloc (.cells #[.int .i64 xs, .int .i64 xn, .string xt, .int .i64 xr] 89))) := by
            refine ⟨k + 1, by omega, rfl, HU.out, HB.out, fun j hj hjk => ?_⟩
            by_cases e : j = k
            · subst e; exact HPP.out
            · exact HN.out j hj (by omega)
          cases ib with
          | false =>
            clear hP
            go_wp2_with fail
            go_roundw
            case rel => exact HREL.out
            case measure => simp only [intOf]; omega
          | true =>
            by_cases e1 : is = xs
            · subst e1
              have e2 : (iN == xn) = false := by simp at hP ⊢; exact fun h => hP h.symm
              clear hP
              go_wp2_with fail
              go_roundw
              case rel => exact HREL.out
              case measure => simp only [intOf]; omega
            · have e2 : (is == xs) = false := by simpa using e1
              clear hP e1
              go_wp2_with fail
              go_roundw
              case rel => exact HREL.out
              case measure => simp only [intOf]; omega
    · have d1 : decide (k < l.length) = false := decide_eq_false hlt
      have HV : Hid (R = -1) := by
        show R = -1
        rw [← HR.out, idx_none.2 (fun x hx => by obtain ⟨i, hi, rfl⟩ := List.getElem_of_mem hx; exact HN.out i hi (by omega))]
      have HU := Lib.hid hu
      clear hu hbx
      go_wp2_with fail
      go_ret
      exact ⟨by rw [HV.out]; rfl, HU.out⟩

end Go.Proofs.YtbeigaanlhaolaaGreatDoor
