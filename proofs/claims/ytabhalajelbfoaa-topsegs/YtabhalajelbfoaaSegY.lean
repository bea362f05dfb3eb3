/-
  What slices.ContainsFunc of segments by 'does r stand in it?' returns; begun of the top laws. Conditions: as each says.
-/
import Derived.Test.YtabhalajelbfoaaSegJ
import Derived.Test.YtabhalajelbfoaaKeep
namespace Go.Proofs.Ytabhalajelbfoaa
open Go.RowKit
open Go.Proofs
open WoolBag
open WoolSeg

theorem eg_hasR : ∀ args w, (callFunc 12 args).run Try.prog w = .ok (.enter 12 args) w := enters_of Try.func12 (by kernel_rfl) rfl

set_option maxRecDepth 100000 in
theorem hasR_in (v : Value) (s : List Rc) (r : Rc) (P : Nat) (W : World) (h : Recs W v s) (hP : RowC W P 36 (rcC r)) :
    Calls Try.prog 12 #[v, .pointer (some ⟨P, 0, none⟩)] W fun e w' => e = .returned (.bool (s.contains r)) ∧ Up W w' := by
  have HC := Lib.hid (containsR_any v s r W h)
  have r0 := hP.cell (j := 0) rfl
  have r1 := hP.cell (j := 1) rfl
  have r2 := hP.cell (j := 2) rfl
  have r3 := hP.cell (j := 3) rfl
  unfold rcA at HC
  generalize s.contains r = Q at HC ⊢
  generalize r.1.1 = y0 at *
  generalize r.1.2.1 = y1 at *
  generalize r.1.2.2 = y2 at *
  generalize bs r.2 = y3 at *
  obtain ⟨o, c, rfl, _, _⟩ := h.slice
  clear h hP
  go_enter Try.func12, Try.ntmps12
  go_wp2_with fail
  refine HC.out.mono ?_
  rintro e w1 ⟨rfl, u1⟩
  go_wp2_with fail
  go_ret
  exact ⟨rfl, u1⟩

def IfHRel (r : Rc) (l : List (List Rc)) (w : World) (i : Value) (wr : World) : Prop :=
  ∃ k : Nat, k ≤ l.length ∧ i = .int .i64 (k : Int) ∧ Up w wr ∧ ∀ j (hj : j < l.length), j < k → (l[j]).contains r = false

def HasPost (r : Rc) (l : List (List Rc)) (w : World) (e : Ending) (w' : World) : Prop :=
  ∃ K : Int, e = .returned (.int .i64 K) ∧ decide (0 ≤ K) = (l.any fun s => s.contains r) ∧ Up w w'

set_option maxRecDepth 100000 in
set_option maxHeartbeats 2000000 in
theorem indexFH (v : Value) (l : List (List Rc)) (r : Rc) (P : Nat) (w : World) (h : Sgs w v l) (hP : RowC w P 36 (rcC r)) :
    Calls Try.prog 32 #[v, .func (.func 12) #[] #[.pointer (some ⟨P, 0, none⟩)]] w (HasPost r l w) := by
  have eg := eg_hasR
  have HX := Lib.hid h
  have HP := Lib.hid hP
  obtain ⟨o, c, rfl, h2, h3⟩ := h.slice
  unfold maxLen at h3
  have HAT : Hid (∀ k (hk : k < l.length), (l[k]).contains r = true → decide (0 ≤ (k : Int)) = l.any fun s => s.contains r) := fun k hk h => by
    rw [decide_eq_true (Int.natCast_nonneg _), eq_comm, List.any_eq_true]
    exact ⟨l[k], List.getElem_mem hk, h⟩
  have HNO : Hid ((∀ j (hj : j < l.length), (l[j]).contains r = false) → decide ((0 : Int) ≤ -1) = l.any fun s => s.contains r) := fun hb => by
    have : (l.any fun s => s.contains r) = false := by
      rw [List.any_eq_false]
      intro s hs
      obtain ⟨j, hj, rfl⟩ := List.getElem_of_mem hs
      rw [hb j hj]
      simp
    rw [this]
    rfl
  obtain ⟨n, hn⟩ : ∃ n, l.length = n := ⟨_, rfl⟩
  have HN := Lib.hid hn
  rw [hn] at h2 HX ⊢
  clear h hP hn
  go_enter Try.func32, Try.ntmps32
  go_wp2_with fail
  go_loopw [5, 8] (fun _ i wr => IfHRel r l w i wr) (fun _ i _ => n - (intOf i).toNat)
  case atStart => exact ⟨0, Nat.zero_le _, rfl, Up.refl _, fun j _ hj => absurd hj (by omega)⟩
  case round =>
    obtain ⟨k, hk, rfl, hu, hb⟩ := hrel
    rw [HN.out] at hk
    have HU := Lib.hid hu
    have HB := Lib.hid hb
    by_cases hlt : k < n
    · have hks : k < l.length := by rw [HN.out]; exact hlt
      obtain ⟨b, off, rfl, hat⟩ := HX.out.at (by rintro rfl; simp at hks)
      obtain ⟨x, a0, hx⟩ := hat k hks
      rw [← HU.out.cell (World.block_lt_of_cell? w _ a0)] at a0
      have hcall := hasR_in x l[k] r P wr (hx.up hu) (HP.out.up hu)
      have HE : Hid ((l[k]).contains r = true → decide (0 ≤ (k : Int)) = l.any fun s => s.contains r) := fun h => HAT.out k hks h
      have HBN : Hid ((l[k]).contains r = false → ∀ j (hj : j < l.length), j < k + 1 → (l[j]).contains r = false) := fun h j hj hjk => by
        rcases Nat.lt_or_ge j k with h' | h'
        · exact HB.out j hj h'
        · obtain rfl : j = k := by omega
          exact h
      generalize (l[k]).contains r = Q at hcall HE HBN
      have HC := Lib.hid hcall
      have d1 : decide (k < n) = true := decide_eq_true hlt
      clear hat hu hb hcall hks hx
      cases Q with
      | true =>
        have HE2 := Lib.hid (HE.out rfl)
        clear HE HBN
        go_wp2_with (go_at_fn 12; refine HC.out.mono ?_; rintro e w1 ⟨rfl, u1⟩)
        go_ret
        exact ⟨_, rfl, HE2.out, HU.out.trans u1⟩
      | false =>
        have HB2 := Lib.hid (HBN.out rfl)
        clear HE HBN
        go_wp2_with (go_at_fn 12; refine HC.out.mono ?_; rintro e w1 ⟨rfl, u1⟩)
        go_roundw
        case rel => exact ⟨k + 1, by rw [HN.out]; omega, by go_num, HU.out.trans u1, HB2.out⟩
        case measure => simp only [intOf]; omega
    · have d1 : decide (k < n) = false := decide_eq_false hlt
      have HE := Lib.hid (HNO.out fun j hj => hb j hj (by have := HN.out; omega))
      clear hu hb
      go_wp2_with fail
      go_ret
      exact ⟨_, rfl, HE.out, HU.out⟩

set_option maxRecDepth 100000 in
theorem containsFH (v : Value) (l : List (List Rc)) (r : Rc) (P : Nat) (w : World) (h : Sgs w v l) (hP : RowC w P 36 (rcC r)) :
    Calls Try.prog 11 #[v, .func (.func 12) #[] #[.pointer (some ⟨P, 0, none⟩)]] w fun e w' => e = .returned (.bool (l.any fun s => s.contains r)) ∧ Up w w' := by
  have HI := Lib.hid (indexFH v l r P w h hP)
  obtain ⟨o, c, rfl, _, _⟩ := h.slice
  unfold HasPost at HI
  generalize (l.any fun s => s.contains r) = Q at HI ⊢
  clear h hP
  go_enter Try.func11, Try.ntmps11
  go_wp2_with fail
  refine HI.out.mono ?_
  rintro e w1 ⟨K, rfl, hK, u1⟩
  have HK := Lib.hid hK
  clear hK
  go_wp2_with fail
  go_ret
  exact ⟨by have := HK.out; simp_all, u1⟩

end Go.Proofs.Ytabhalajelbfoaa
