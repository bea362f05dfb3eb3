/-
  What the reference's Takes and Segs return. Conditions: the rows can be read, and their lengths fit.
-/
import Derived.Test.YtomfbffaekpnlaaSegB
namespace Go.Proofs.Ytomfbffaekpnlaa
open Go.RowKit
open Go.Proofs
open WoolBag
open WoolSeg

def sumT (s : List Rc) : Nat := (s.map fun r => r.2.length).sum
theorem sumT_step {s : List Rc} {k : Nat} (h : k < s.length) : sumT (s.take (k + 1)) = sumT (s.take k) + s[k].2.length := by
  unfold sumT
  rw [List.take_succ_eq_append_getElem h, List.map_append, List.sum_append]
  simp
theorem sumT_le (s : List Rc) (k : Nat) : sumT (s.take k) ≤ sumT s := by
  unfold sumT
  conv => rhs; rw [← List.take_append_drop k s, List.map_append, List.sum_append]
  omega

def TkRel (s : List Rc) (w : World) (n i : Value) (wr : World) : Prop :=
  ∃ k : Nat, k ≤ s.length ∧ i = .int .i64 (k : Int) ∧ n = .int .i64 ((8 * s.length + sumT (s.take k) : Nat) : Int) ∧ Up w wr

set_option maxRecDepth 100000 in
set_option maxHeartbeats 1000000 in
theorem refTakes_any (v : Value) (s : List Rc) (w : World) (h : Recs w v s) (ht : takes s ≤ 4611686018427387904) :
    Calls Try.prog 14 #[v] w fun e w' => e = .returned (.int .i64 ((takes s : Nat) : Int)) ∧ Up w w' := by
  have HX := Lib.hid h
  obtain ⟨o, c, rfl, h2, h3⟩ := h.slice
  unfold maxLen at h3
  obtain ⟨T, hT⟩ : ∃ T, takes s = T := ⟨_, rfl⟩
  rw [hT] at ht ⊢
  have hform := takes_form s
  rw [hT] at hform
  have HTF : Hid (T = 8 * s.length + sumT s) := hform
  have hform2 : T = 8 * s.length + sumT s := hform
  have p0 : IntKind.i64.wrap (8 * (s.length : Int)) = ((8 * s.length : Nat) : Int) := by rw [show (8 : Int) * (s.length : Int) = ((8 * s.length : Nat) : Int) by omega]; exact IntWalk.i64_in _ (by omega)
  have hst0 : sumT (s.take 0) = 0 := rfl
  have HS0 := Lib.hid hst0
  clear h hT hform hst0
  go_enter Try.func14, Try.ntmps14
  go_wp2_with fail
  go_loopw [3, 11] (fun n i wr => TkRel s w n i wr) (fun _ i _ => s.length - (intOf i).toNat)
  case atStart => exact ⟨0, Nat.zero_le _, rfl, congrArg (Value.int IntKind.i64) (by rw [HS0.out]; omega), Up.refl w⟩
  case round =>
    obtain ⟨k, hk, rfl, rfl, hu⟩ := hrel
    by_cases hlt : k < s.length
    · obtain ⟨b, off, rfl, hat⟩ := HX.out.at (by rintro rfl; simp at hlt)
      obtain ⟨a0, a1, a2, a3⟩ := hat k hlt
      rw [← hu.cell (World.block_lt_of_cell? w _ a0)] at a0
      rw [← hu.cell (World.block_lt_of_cell? w _ a1)] at a1
      rw [← hu.cell (World.block_lt_of_cell? w _ a2)] at a2
      rw [← hu.cell (World.block_lt_of_cell? w _ a3)] at a3
      have hst := sumT_step hlt
      have hle := sumT_le s (k + 1)
      have hsz := bs_size s[k].2
      have d1 : decide (k < s.length) = true := decide_eq_true hlt
      have HU := Lib.hid hu
      obtain ⟨q, hq⟩ : ∃ q, 8 * s.length + sumT (s.take k) = q := ⟨_, rfl⟩
      obtain ⟨q1, hq1⟩ : ∃ q1, 8 * s.length + sumT (s.take (k + 1)) = q1 := ⟨_, rfl⟩
      have HQ1 := Lib.hid hq1
      obtain ⟨L, hL⟩ : ∃ L, s[k].2.length = L := ⟨_, rfl⟩
      rw [hL] at hst hsz
      have hqq : q1 = q + L := by omega
      have hq1T : q1 ≤ T := by omega
      rw [hq]
      generalize s[k].1.1 = x0 at a0
      generalize s[k].1.2.1 = x1 at a1
      generalize s[k].1.2.2 = x2 at a2
      generalize bs s[k].2 = x3 at a3 hsz
      have p2 : IntKind.i64.wrap ((q : Int) + (x3.size : Int)) = (q1 : Int) := by rw [hsz, show (q : Int) + (L : Int) = (q1 : Int) by omega]; exact IntWalk.i64_in _ (by omega)
      clear hu hat hq hq1 hL hst hle hform2 p0
      go_wp2_with fail
      go_roundw
      case rel => exact ⟨k + 1, by omega, by go_num, congrArg (Value.int IntKind.i64) (by rw [HQ1.out]; omega), HU.out.trans (Up.alloc _ _)⟩
      case measure => simp only [intOf]; omega
    · have d1 : decide (k < s.length) = false := decide_eq_false hlt
      have hks : s.take k = s := List.take_of_length_le (by omega)
      rw [hks, ← HTF.out]
      clear hks hform2 p0
      go_wp2_with fail
      go_ret
      exact ⟨rfl, hu⟩

def RsRel (l : List (List Rc)) (w : World) (i : Value) (wr : World) : Prop :=
  ∃ k : Nat, k ≤ l.length ∧ i = .int .i64 (k : Int) ∧ Up w wr ∧ errSs l = errSs (l.drop k)

theorem errR_form {r : Rc} (h : r.1.1 = false) : errR r = 3 := by unfold errR; rw [if_pos h]
theorem errR_large {r : Rc} (h : r.1.1 = true) (h2 : 64 < r.2.length) : errR r = 2 := by unfold errR; rw [if_neg (by simp [h]), if_pos h2]

set_option maxRecDepth 100000 in
set_option maxHeartbeats 4000000 in
theorem refSegs_any (v : Value) (l : List (List Rc)) (w : World) (h : Sgs w v l) (hm : ∀ s ∈ l, s.length ≤ 1000000000000000) :
    Calls Try.prog 6 #[v] w fun e w' => e = .returned (.int .i64 (WoolSeg.chk l)) ∧ Up w w' := by
  have HX := Lib.hid h
  obtain ⟨o, c, rfl, h2, h3⟩ := h.slice
  unfold maxLen at h3
  by_cases hbig : 16 < l.length
  · have hv : WoolSeg.chk l = 2 := by unfold WoolSeg.chk; rw [if_pos hbig]
    rw [hv]
    clear h hv HX hm
    go_enter Try.func6, Try.ntmps6
    go_wp2_with fail
    go_ret
    exact ⟨rfl, Up.refl _⟩
  have hv : WoolSeg.chk l = errSs l := by unfold WoolSeg.chk; rw [if_neg hbig]
  rw [hv]
  obtain ⟨E, hE⟩ : ∃ E, errSs l = E := ⟨_, rfl⟩
  rw [hE]
  have HE := Lib.hid hE
  have HM := Lib.hid hm
  clear h hv hE hm
  go_enter Try.func6, Try.ntmps6
  go_wp2_with fail
  go_loopw [12] (fun i wr => RsRel l w i wr) (fun i _ => l.length - (intOf i).toNat)
  case atStart => exact ⟨0, Nat.zero_le _, rfl, Up.refl w, rfl⟩
  case round =>
    obtain ⟨k, hk, rfl, hu, hck⟩ := hrel
    by_cases hlt : k < l.length
    · obtain ⟨b, off, rfl, hat⟩ := HX.out.at (by rintro rfl; simp at hlt)
      obtain ⟨x, a0, hx⟩ := hat k hlt
      rw [← hu.cell (World.block_lt_of_cell? w _ a0)] at a0
      rw [List.drop_eq_getElem_cons hlt, errSs] at hck
      have hms := HM.out _ (List.getElem_mem hlt)
      obtain ⟨s, hs⟩ : ∃ s, l[k] = s := ⟨_, rfl⟩
      rw [hs] at hck hx hms
      obtain ⟨o', c', hxe, hcx1, hcx2⟩ := hx.slice
      subst hxe
      have HXX := Lib.hid hx
      have HCK := Lib.hid hck
      have HU := Lib.hid hu
      have d1 : decide (k < l.length) = true := decide_eq_true hlt
      unfold maxLen at hcx2
      by_cases hn : s = []
      · have hck := HCK.out
        rw [if_pos (by subst hn; decide), show errS s = 3 by subst hn; rfl] at hck
        have HER := Lib.hid (HE.out.symm.trans hck)
        have hn0 : s.length = 0 := by rw [hn]; rfl
        clear hck hat hx hs hu HCK
        go_wp2_with fail
        go_ret
        exact ⟨by rw [HER.out]; rfl, HU.out⟩
      have HN := Lib.hid hn
      have d0 : ((s.length : Int) == 0) = false := by have := List.length_pos_iff.2 hn; simp; omega
      have d0' : (s.length == 0) = false := by have := List.length_pos_iff.2 hn; simp; omega
      clear hck hat hx hs hu hn
      go_wp2_with fail
      go_loopw [21] (fun i wx => SkRel s w i wx) (fun i _ => s.length - (intOf i).toNat)
      case atStart => exact ⟨0, Nat.zero_le _, rfl, HU.out, rfl, fun j _ hj => absurd hj (by omega)⟩
      case round =>
        obtain ⟨j, hj, rfl, hu, hcj, hok⟩ := hrel
        by_cases hlj : j < s.length
        · obtain ⟨b, off, rfl, hat⟩ := HXX.out.at (by rintro rfl; simp at hlj)
          obtain ⟨a0, a1, a2, a3⟩ := hat j hlj
          rw [← hu.cell (World.block_lt_of_cell? w _ a0)] at a0
          rw [← hu.cell (World.block_lt_of_cell? w _ a1)] at a1
          rw [← hu.cell (World.block_lt_of_cell? w _ a2)] at a2
          rw [← hu.cell (World.block_lt_of_cell? w _ a3)] at a3
          rw [List.drop_eq_getElem_cons hlj, errRs] at hcj
          have hfin : errR s[j] ≠ 0 → E = errR s[j] := fun hne => by
            rw [if_pos hne] at hcj
            have h5 := HCK.out
            have h6 := errS_go HN.out (by rw [hcj]; exact hne)
            rw [h6, hcj, if_pos hne] at h5
            exact HE.out.symm.trans h5
          have hgo : ∀ wF, Up wr wF → errR s[j] = 0 → SkRel s w (.int .i64 ((j + 1 : Nat) : Int)) wF := fun wF hF he => by
            rw [if_neg (by simp [he])] at hcj
            refine ⟨j + 1, by omega, rfl, hu.trans hF, hcj, fun i hi hij => ?_⟩
            rcases Nat.lt_or_ge i j with h | h
            · exact hok i hi h
            · obtain rfl : i = j := by omega
              exact he
          have HFIN := Lib.hid hfin
          have HGO := Lib.hid hgo
          have hsz := bs_size s[j].2
          have hz : s[j].1.1 = true → s[j].2.length ≤ 64 → errR s[j] = 0 := fun h1 h2 => errR_zero.2 ⟨h1, h2⟩
          have hb1 : s[j].1.1 = false → errR s[j] = 3 := fun h => errR_form h
          have hb2 : s[j].1.1 = true → 64 < s[j].2.length → errR s[j] = 2 := fun h h2 => errR_large h h2
          rw [← hsz] at hz hb2
          have HZ := Lib.hid hz
          have HB1 := Lib.hid hb1
          have HB2 := Lib.hid hb2
          generalize errR s[j] = R at HFIN HGO HZ HB1 HB2
          generalize s[j].1.1 = x0 at a0 HZ HB1 HB2
          generalize s[j].1.2.1 = x1 at a1
          generalize s[j].1.2.2 = x2 at a2
          generalize bs s[j].2 = x3 at a3 HZ HB2
          have d2 : decide (j < s.length) = true := decide_eq_true hlj
          have HU := Lib.hid (hu.trans (Up.alloc wr (.cells #[.bool x0, .int .i64 x1, .int .i64 x2, .string x3] 26)))
          clear hat hu hcj hok hfin hgo hsz hz hb1 hb2
          cases x0 with
          | false =>
            have hR := HB1.out rfl
            subst hR
            have HEE := Lib.hid (HFIN.out (by decide))
            go_wp2_with fail
            go_ret
            exact ⟨by rw [HEE.out]; rfl, HU.out⟩
          | true =>
            by_cases h64 : 64 < x3.size
            · have hR := HB2.out rfl h64
              subst hR
              have HEE := Lib.hid (HFIN.out (by decide))
              go_wp2_with fail
              go_ret
              exact ⟨by rw [HEE.out]; rfl, HU.out⟩
            · have HG := Lib.hid (HGO.out _ (Up.alloc wr (.cells #[.bool true, .int .i64 x1, .int .i64 x2, .string x3] 26)) (HZ.out rfl (by omega)))
              go_wp2_with fail
              go_roundw
              case rel => have := HG.out; simpa using this
              case measure => simp only [intOf]; omega
        · have d2 : decide (j < s.length) = false := decide_eq_false hlj
          rw [List.drop_of_length_le (by omega)] at hcj
          have HAL : Hid (∀ r ∈ s, errR r = 0) := fun r hr => by
            obtain ⟨i, hi, rfl⟩ := List.getElem_of_mem hr
            exact hok i hi (by omega)
          have hes := errS_end HN.out (show errRs s = 0 from hcj)
          have hck := HCK.out
          rw [hes] at hck
          have htk := takes_le (s := s) fun r hx => (errR_zero.1 (HAL.out r hx)).2
          have HTK := Lib.hid (refTakes_any _ s wr (HXX.out.up hu) (by omega))
          have HU2 := Lib.hid hu
          obtain ⟨T, hT⟩ : ∃ T, takes s = T := ⟨_, rfl⟩
          rw [hT] at hck HTK htk
          clear hok hcj hes hu hT
          go_wp2_with fail
          refine HTK.out.mono ?_
          rintro e w5 ⟨rfl, u5⟩
          have HU5 := Lib.hid (HU2.out.trans u5)
          clear u5
          by_cases ht : 200 < T
          · rw [if_pos ht, if_pos (by decide)] at hck
            have HEE := Lib.hid (HE.out.symm.trans hck)
            clear hck
            go_wp2_with fail
            go_ret
            exact ⟨by rw [HEE.out]; rfl, HU5.out⟩
          · rw [if_neg ht, if_neg (by decide)] at hck
            have HR := Lib.hid hck
            clear hck
            go_wp2_with fail
            go_roundw
            case rel => exact ⟨k + 1, by omega, by go_num, HU5.out, HR.out⟩
            case measure => simp only [intOf]; omega
    · have d1 : decide (k < l.length) = false := decide_eq_false hlt
      rw [List.drop_of_length_le (by omega)] at hck
      have HER : Hid (E = 0) := HE.out.symm.trans hck
      clear hck
      go_wp2_with fail
      go_ret
      exact ⟨by rw [HER.out]; rfl, hu⟩

end Go.Proofs.Ytomfbffaekpnlaa
