/-
  What slices.Index and slices.Contains return at rows of records. Condition: the row can be read.
-/
import Derived.Test.YtabhalajelbfoaaSegH
namespace Go.Proofs.Ytabhalajelbfoaa
open Go.RowKit
open Go.Proofs
open WoolBag
open WoolSeg

/-- where a record stands first, or -1 -/
def ixR (r : Rc) (s : List Rc) : Int := if r ∈ s then ((s.idxOf r : Nat) : Int) else -1
theorem ixR_in (r : Rc) (s : List Rc) : decide (0 ≤ ixR r s) = s.contains r := by
  unfold ixR
  by_cases h : r ∈ s
  · rw [if_pos h]
    have : s.contains r = true := List.contains_iff_mem.2 h
    rw [this, decide_eq_true_iff]
    omega
  · rw [if_neg h]
    have : s.contains r = false := by
      rw [Bool.eq_false_iff]
      exact fun e => h (List.contains_iff_mem.1 e)
    rw [this]
    rfl

theorem ixR_at {r : Rc} {s : List Rc} {k : Nat} (hk : k < s.length) (h : s[k] = r) (hb : ∀ j (hj : j < s.length), j < k → s[j] ≠ r) : ixR r s = (k : Int) := by
  have hm : r ∈ s := h ▸ List.getElem_mem hk
  unfold ixR
  rw [if_pos hm]
  have h1 : s.idxOf r ≤ k := by
    rcases Nat.lt_or_ge k (s.idxOf r) with hlt | hge
    · exact absurd h (by have := List.not_of_lt_findIdx (p := (· == r)) (xs := s) (i := k) hlt; simpa using this)
    · exact hge
  have h2 : ¬ s.idxOf r < k := fun hlt => by
    have hl : s.idxOf r < s.length := by omega
    exact hb _ hl hlt (List.getElem_idxOf hl)
  omega
theorem ixR_none {r : Rc} {s : List Rc} (hb : ∀ j (hj : j < s.length), s[j] ≠ r) : ixR r s = -1 := by
  unfold ixR
  rw [if_neg]
  intro h
  obtain ⟨j, hj, e⟩ := List.getElem_of_mem h
  exact hb j hj e

def IxRRel (r : Rc) (s : List Rc) (w : World) (i : Value) (wr : World) : Prop :=
  ∃ k : Nat, k ≤ s.length ∧ i = .int .i64 (k : Int) ∧ Up w wr ∧ ∀ j (hj : j < s.length), j < k → s[j] ≠ r

set_option maxRecDepth 100000 in
set_option maxHeartbeats 2000000 in
theorem indexR_any (v : Value) (s : List Rc) (r : Rc) (w : World) (h : Recs w v s) :
    Calls Try.prog 33 #[v, rcA r] w fun e w' => e = .returned (.int .i64 (ixR r s)) ∧ Up w w' := by
  have HX := Lib.hid h
  obtain ⟨o, c, rfl, h2, h3⟩ := h.slice
  unfold maxLen at h3
  obtain ⟨R, hR⟩ : ∃ R, ixR r s = R := ⟨_, rfl⟩
  have HAT : Hid (∀ k (hk : k < s.length), s[k] = r → (∀ j (hj : j < s.length), j < k → s[j] ≠ r) → R = (k : Int)) := fun k hk h hb => hR.symm.trans (ixR_at hk h hb)
  have HNO : Hid ((∀ j (hj : j < s.length), s[j] ≠ r) → R = -1) := fun hb => hR.symm.trans (ixR_none hb)
  rw [hR]
  unfold rcA
  have HRC : Hid (rcC r = [.bool r.1.1, .int .i64 r.1.2.1, .int .i64 r.1.2.2, .string (bs r.2)]) := rfl
  clear h hR
  go_enter Try.func33, Try.ntmps33
  go_wp2_with fail
  go_loopw [5, 8] (fun _ i wr => IxRRel r s (w.alloc (.cells #[.bool r.1.1, .int .i64 r.1.2.1, .int .i64 r.1.2.2, .string (bs r.2)] 36)) i wr) (fun _ i _ => s.length - (intOf i).toNat)
  case atStart => exact ⟨0, Nat.zero_le _, rfl, Up.refl _, fun j _ hj => absurd hj (by omega)⟩
  case round =>
    obtain ⟨k, hk, rfl, hu, hb⟩ := hrel
    have HU : Hid (Up w wr) := (Up.alloc _ _).trans hu
    have HU2 := Lib.hid hu
    have hrow : RowC wr w.heap.size 36 (rcC r) := by rw [HRC.out]; exact RowC.up (heap_alloc_new w _) hu
    have HB := Lib.hid hb
    by_cases hlt : k < s.length
    · obtain ⟨b, off, rfl, hat⟩ := HX.out.at (by rintro rfl; simp at hlt)
      obtain ⟨a0, a1, a2, a3⟩ := hat k hlt
      rw [← HU.out.cell (World.block_lt_of_cell? w _ a0)] at a0
      rw [← HU.out.cell (World.block_lt_of_cell? w _ a1)] at a1
      rw [← HU.out.cell (World.block_lt_of_cell? w _ a2)] at a2
      rw [← HU.out.cell (World.block_lt_of_cell? w _ a3)] at a3
      have r0 := hrow.cell (j := 0) rfl
      have r1 := hrow.cell (j := 1) rfl
      have r2 := hrow.cell (j := 2) rfl
      have r3 := hrow.cell (j := 3) rfl
      have d1 : decide (k < s.length) = true := decide_eq_true hlt
      have htx := txt_eq r.2 s[k].2
      by_cases e : s[k] = r
      · have HE := Lib.hid (HAT.out k hlt e hb)
        rw [e] at a0 a1 a2 a3
        clear hat hb hrow hu htx e
        go_wp2_with fail
        go_quiet (fail)
        all_goals
          go_wp2_with fail
          go_ret
          exact ⟨by rw [HE.out]; rfl, by first | exact HU.out.trans (Up.drewN _ _) | exact HU.out⟩
      · have HBN : Hid (∀ j (hj : j < s.length), j < k + 1 → s[j] ≠ r) := fun j hj hjk => by
          rcases Nat.lt_or_ge j k with h | h
          · exact HB.out j hj h
          · obtain rfl : j = k := by omega
            exact e
        have hne : r.1.1 ≠ s[k].1.1 ∨ r.1.2.1 ≠ s[k].1.2.1 ∨ r.1.2.2 ≠ s[k].1.2.2 ∨ (r.2 == s[k].2) = false := by
          by_cases c0 : r.1.1 = s[k].1.1
          · by_cases c1 : r.1.2.1 = s[k].1.2.1
            · by_cases c2 : r.1.2.2 = s[k].1.2.2
              · refine .inr (.inr (.inr ?_))
                rw [beq_eq_false_iff_ne]
                exact fun c3 => e (Prod.ext (Prod.ext c0.symm (Prod.ext c1.symm c2.symm)) c3.symm)
              · exact .inr (.inr (.inl c2))
            · exact .inr (.inl c1)
          · exact .inl c0
        generalize (r.2 == s[k].2) = Q at hne htx
        generalize s[k].1.1 = y0 at a0 hne
        generalize s[k].1.2.1 = y1 at a1 hne
        generalize s[k].1.2.2 = y2 at a2 hne
        generalize bs s[k].2 = y3 at a3 htx
        clear hat hb hrow hu e
        rcases hne with n0 | n0 | n0 | n0
        · have n1 : (r.1.1 == y0) = false := beq_eq_false_iff_ne.2 n0
          go_wp2_with fail
          go_quiet (fail)
          all_goals
            go_wp2_with fail
            go_roundw
            case rel => exact ⟨k + 1, by omega, by go_num, by first | exact HU2.out.trans (Up.drewN _ _) | exact HU2.out, HBN.out⟩
            case measure => simp only [intOf]; omega
        · have n1 : (r.1.2.1 == y1) = false := beq_eq_false_iff_ne.2 n0
          go_wp2_with fail
          go_quiet (fail)
          all_goals
            go_wp2_with fail
            go_roundw
            case rel => exact ⟨k + 1, by omega, by go_num, by first | exact HU2.out.trans (Up.drewN _ _) | exact HU2.out, HBN.out⟩
            case measure => simp only [intOf]; omega
        · have n1 : (r.1.2.2 == y2) = false := beq_eq_false_iff_ne.2 n0
          go_wp2_with fail
          go_quiet (fail)
          all_goals
            go_wp2_with fail
            go_roundw
            case rel => exact ⟨k + 1, by omega, by go_num, by first | exact HU2.out.trans (Up.drewN _ _) | exact HU2.out, HBN.out⟩
            case measure => simp only [intOf]; omega
        · subst n0
          go_wp2_with fail
          go_quiet (fail)
          all_goals
            go_wp2_with fail
            go_roundw
            case rel => exact ⟨k + 1, by omega, by go_num, by first | exact HU2.out.trans (Up.drewN _ _) | exact HU2.out, HBN.out⟩
            case measure => simp only [intOf]; omega
    · have d1 : decide (k < s.length) = false := decide_eq_false hlt
      have HE := Lib.hid (HNO.out fun j hj => hb j hj (by omega))
      clear hb hrow hu
      go_wp2_with fail
      go_ret
      exact ⟨by rw [HE.out]; rfl, HU.out⟩

set_option maxRecDepth 100000 in
theorem containsR_any (v : Value) (s : List Rc) (r : Rc) (w : World) (h : Recs w v s) :
    Calls Try.prog 13 #[v, rcA r] w fun e w' => e = .returned (.bool (s.contains r)) ∧ Up w w' := by
  have HI := Lib.hid (fun W (hW : Up w W) => indexR_any v s r W (h.up hW))
  obtain ⟨o, c, rfl, _, _⟩ := h.slice
  have hq := ixR_in r s
  unfold rcA at HI ⊢
  generalize ixR r s = R at HI hq
  have HQ := Lib.hid hq
  clear h hq
  go_enter Try.func13, Try.ntmps13
  go_wp2_with fail
  refine (HI.out _ (Up.alloc _ _)).mono ?_
  rintro e w1 ⟨rfl, u1⟩
  have HU : Hid (Up w w1) := (Up.alloc _ _).trans u1
  clear u1
  go_wp2_with fail
  go_ret
  exact ⟨by first | (rw [← HQ.out]; done) | (rw [← HQ.out]; rfl) | (rw [← HQ.out]; simp), HU.out⟩

end Go.Proofs.Ytabhalajelbfoaa
