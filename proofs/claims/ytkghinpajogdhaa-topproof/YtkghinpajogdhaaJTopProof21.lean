/-
  The texts LogK, Items, one behind the other; each says below what it holds and on what conditions.
-/
import Derived.Test.YtkghinpajogdhaaJTopProof16
import Derived.Test.YtkghinpajogdhaaJTopProof20
import Derived.Test.YtkghinpajogdhaaJTopProof01
import Derived.Test.YtkghinpajogdhaaJTopProof09
import Derived.Lib.SliceRun
import Derived.Maps.AppendAt

/-
  What package log's hasUnused and Check return. Conditions: a deed that a call can be handed.
-/
namespace Go.Proofs.Ytkghinpajogdhaa
open Go.RowKit
open Go.Proofs
open WoolBag
open WoolVol

theorem empty_txt : (bs []).toList = [] := by rw [ByteArray.toList_eq, bs_list]

theorem bs_isEmpty (l : List UInt8) : (bs l).toList.isEmpty = l.isEmpty := by
  rw [ByteArray.toList_eq, bs_list]

/-- has a deed what its kind makes no use of? -/
def unB (o : Opn) : Bool := (!o.to.isEmpty && o.kd != 5) || ((!o.tx.isEmpty && o.kd != 3) || (o.pl != 0 && (o.kd == 2 || o.kd == 5)))

theorem chk_un (o : Opn) : chkO o = if o.kd < 1 ∨ 5 < o.kd then 1 else if nameB o.nm = false ∨ (o.kd = 5 ∧ nameB o.to = false) then 3 else if o.pl < 0 ∨ 32 < o.pl then 1 else if 64 < o.tx.length then 2 else if unB o = true then 3 else 0 := by
  have e : ((o.kd ≠ 5 ∧ o.to ≠ []) ∨ (o.kd ≠ 3 ∧ o.tx ≠ []) ∨ ((o.kd = 2 ∨ o.kd = 5) ∧ o.pl ≠ 0)) ↔ unB o = true := by
    unfold unB
    simp only [Bool.or_eq_true, Bool.and_eq_true, Bool.not_eq_true', List.isEmpty_eq_false_iff, bne_iff_ne, beq_iff_eq]
    constructor
    · rintro (⟨h1, h2⟩ | ⟨h1, h2⟩ | ⟨h1, h2⟩)
      · exact .inl ⟨h2, h1⟩
      · exact .inr (.inl ⟨h2, h1⟩)
      · exact .inr (.inr ⟨h2, h1⟩)
    · rintro (⟨h1, h2⟩ | ⟨h1, h2⟩ | ⟨h1, h2⟩)
      · exact .inl ⟨h2, h1⟩
      · exact .inr (.inl ⟨h2, h1⟩)
      · exact .inr (.inr ⟨h2, h1⟩)
  unfold chkO
  simp only [e]

theorem chkO_kd {o : Opn} (h : chkO o = 0) : 1 ≤ o.kd ∧ o.kd ≤ 5 := by
  unfold chkO at h
  by_cases h1 : o.kd < 1 ∨ 5 < o.kd
  · rw [if_pos h1] at h; cases h
  · omega

theorem text_cases (l : List UInt8) : (l = [] ∧ l.isEmpty = true) ∨ (0 < l.length ∧ l.isEmpty = false) := by
  cases l with
  | nil => exact .inl ⟨rfl, rfl⟩
  | cons _ _ => exact .inr ⟨by simp, rfl⟩

set_option maxRecDepth 100000 in
set_option maxHeartbeats 2000000 in
theorem hasUn_any (o : Opn) (w : World) : Calls Try.prog 35 #[opA o] w fun e w' => e = .returned (.bool (unB o)) ∧ Up w w' := by
  obtain ⟨kd, nm, ot, pl, tx⟩ := o
  unfold opA unB
  simp only
  have e1 := bs_isEmpty ot
  have e2 := bs_isEmpty tx
  have n1 : ∀ S : ByteArray, S.toList.isEmpty = true → S.toList = [] := fun S h => by simpa using h
  generalize ot.isEmpty = b1 at *
  generalize tx.isEmpty = b2 at *
  generalize bs nm = N
  generalize bs ot = S at *
  generalize bs tx = T at *
  cases b1 <;> cases b2
  · clear n1
    go_enter Try.func35, Try.ntmps35
    go_wp2_with fail
    all_goals (go_ret; refine ⟨?_, Up.alloc _ _⟩; first | (simp; done) | (simp; omega) | (simp_all; done) | (simp_all; omega))
  · have f2 := n1 T e2; clear n1
    go_enter Try.func35, Try.ntmps35
    go_wp2_with fail
    all_goals (go_ret; refine ⟨?_, Up.alloc _ _⟩; first | (simp; done) | (simp; omega) | (simp_all; done) | (simp_all; omega))
  · have f1 := n1 S e1; clear n1
    go_enter Try.func35, Try.ntmps35
    go_wp2_with fail
    all_goals (go_ret; refine ⟨?_, Up.alloc _ _⟩; first | (simp; done) | (simp; omega) | (simp_all; done) | (simp_all; omega))
  · have f1 := n1 S e1; have f2 := n1 T e2; clear n1
    go_enter Try.func35, Try.ntmps35
    go_wp2_with fail
    all_goals (go_ret; refine ⟨?_, Up.alloc _ _⟩; first | (simp; done) | (simp; omega) | (simp_all; done) | (simp_all; omega))

set_option maxRecDepth 100000 in
set_option maxHeartbeats 2000000 in
theorem checkO_any (o : Opn) (w : World) (ho : OpWf o) : Calls Try.prog 12 #[opA o] w fun e w' => e = .returned (.int .i64 (chkO o)) ∧ Up w w' := by
  have HU := Lib.hid (fun W => hasUn_any o W)
  have HN := Lib.hid (fun W => name_any o.nm W ho.2.1)
  have HT := Lib.hid (fun W => name_any o.to W ho.2.2.1)
  have hsz := bs_size o.tx
  have hl := ho.2.2.2.2
  obtain ⟨R, hR⟩ : ∃ R, chkO o = R := ⟨_, rfl⟩
  rw [hR]
  rw [chk_un] at hR
  clear ho
  unfold opA at *
  obtain ⟨kd, nm, ot, pl, tx⟩ := o
  simp only at *
  generalize unB ⟨kd, nm, ot, pl, tx⟩ = UB at *
  generalize nameB nm = NB at *
  generalize nameB ot = TB at *
  generalize tx.length = L at *
  generalize bs nm = N at *
  generalize bs ot = S at *
  generalize bs tx = T at *
  by_cases h1 : kd < 1 ∨ 5 < kd
  · rw [if_pos h1] at hR
    subst hR
    go_enter Try.func12, Try.ntmps12
    go_wp2_with fail
    all_goals first | omega | (go_ret; exact ⟨rfl, Up.alloc _ _⟩) | done
  rw [if_neg h1] at hR
  have k1 : decide (kd < 1) = false := decide_eq_false (by omega)
  have k2 : decide (5 < kd) = false := decide_eq_false (by omega)
  cases NB with
  | false =>
    rw [if_pos (.inl rfl)] at hR
    subst hR
    go_enter Try.func12, Try.ntmps12
    go_wp2_with fail
    refine (HN.out _).mono ?_
    rintro e w1 ⟨rfl, rfl⟩
    go_wp2_with fail
    go_ret
    exact ⟨rfl, Up.alloc _ _⟩
  | true =>
    by_cases h5 : kd = 5
    · subst h5
      cases TB with
      | false =>
        rw [if_pos (.inr ⟨rfl, rfl⟩)] at hR
        subst hR
        go_enter Try.func12, Try.ntmps12
        go_wp2_with fail
        refine (HN.out _).mono ?_
        rintro e w1 ⟨rfl, rfl⟩
        go_wp2_with fail
        refine (HT.out _).mono ?_
        rintro e w1 ⟨rfl, rfl⟩
        go_wp2_with fail
        go_ret
        exact ⟨rfl, Up.alloc _ _⟩
      | true =>
        rw [if_neg (by simp)] at hR
        by_cases h6 : pl < 0 ∨ 32 < pl
        · rw [if_pos h6] at hR
          subst hR
          go_enter Try.func12, Try.ntmps12
          go_wp2_with fail
          refine (HN.out _).mono ?_
          rintro e w1 ⟨rfl, rfl⟩
          go_wp2_with fail
          refine (HT.out _).mono ?_
          rintro e w1 ⟨rfl, rfl⟩
          go_wp2_with fail
          all_goals first | omega | (go_ret; exact ⟨rfl, Up.alloc _ _⟩) | done
        rw [if_neg h6] at hR
        have k3 : decide (pl < 0) = false := decide_eq_false (by omega)
        have k4 : decide (32 < pl) = false := decide_eq_false (by omega)
        by_cases h7 : 64 < L
        · rw [if_pos h7] at hR
          subst hR
          go_enter Try.func12, Try.ntmps12
          go_wp2_with fail
          refine (HN.out _).mono ?_
          rintro e w1 ⟨rfl, rfl⟩
          go_wp2_with fail
          refine (HT.out _).mono ?_
          rintro e w1 ⟨rfl, rfl⟩
          go_wp2_with fail
          all_goals first | omega | (go_ret; exact ⟨rfl, Up.alloc _ _⟩) | done
        rw [if_neg h7] at hR
        have k5 : decide (64 < (L : Int)) = false := decide_eq_false (by omega)
        go_enter Try.func12, Try.ntmps12
        go_wp2_with fail
        refine (HN.out _).mono ?_
        rintro e w1 ⟨rfl, rfl⟩
        go_wp2_with fail
        refine (HT.out _).mono ?_
        rintro e w1 ⟨rfl, rfl⟩
        go_wp2_with fail
        refine (HU.out _).mono ?_
        rintro e w1 ⟨rfl, u1⟩
        have HV := Lib.hid ((Up.alloc w (.cells #[.int .i64 5, .string N, .string S, .int .i64 pl, .string T] 29)).trans u1)
        have HR := Lib.hid hR
        clear hR
        cases UB <;> (go_wp2_with fail; go_ret; exact ⟨by rw [← HR.out]; rfl, HV.out⟩)
    · have hne : (kd == 5) = false := by rw [beq_eq_false_iff_ne]; exact h5
      rw [if_neg (by simp [h5])] at hR
      by_cases h6 : pl < 0 ∨ 32 < pl
      · rw [if_pos h6] at hR
        subst hR
        go_enter Try.func12, Try.ntmps12
        go_wp2_with fail
        refine (HN.out _).mono ?_
        rintro e w1 ⟨rfl, rfl⟩
        go_wp2_with fail
        all_goals first | omega | (go_ret; exact ⟨rfl, Up.alloc _ _⟩) | done
      rw [if_neg h6] at hR
      have k3 : decide (pl < 0) = false := decide_eq_false (by omega)
      have k4 : decide (32 < pl) = false := decide_eq_false (by omega)
      by_cases h7 : 64 < L
      · rw [if_pos h7] at hR
        subst hR
        go_enter Try.func12, Try.ntmps12
        go_wp2_with fail
        refine (HN.out _).mono ?_
        rintro e w1 ⟨rfl, rfl⟩
        go_wp2_with fail
        all_goals first | omega | (go_ret; exact ⟨rfl, Up.alloc _ _⟩) | done
      rw [if_neg h7] at hR
      have k5 : decide (64 < (L : Int)) = false := decide_eq_false (by omega)
      go_enter Try.func12, Try.ntmps12
      go_wp2_with fail
      refine (HN.out _).mono ?_
      rintro e w1 ⟨rfl, rfl⟩
      go_wp2_with fail
      refine (HU.out _).mono ?_
      rintro e w1 ⟨rfl, u1⟩
      have HV := Lib.hid ((Up.alloc w (.cells #[.int .i64 kd, .string N, .string S, .int .i64 pl, .string T] 29)).trans u1)
      have HR := Lib.hid hR
      clear hR
      cases UB <;> (go_wp2_with fail; go_ret; exact ⟨by rw [← HR.out]; rfl, HV.out⟩)

end Go.Proofs.Ytkghinpajogdhaa

/-
  Slices of items of a bag: that read as a list of items (Items), and that the call owns (OItems); their cells. Conditions: as each says.
-/
namespace Go.Proofs.Ytkghinpajogdhaa
open Go.RowKit
open Go.Proofs
open WoolBag

/-- an item's cells -/
def itC (x : Itm) : List Value := [.int .i64 x.s, .int .i64 x.n, .string (bs x.t), .int .i64 x.r]
/-- an item as a value -/
def itV (x : Itm) : Value := .agg #[.int .i64 x.s, .int .i64 x.n, .string (bs x.t), .int .i64 x.r]
/-- an identifier as a value -/
def idV (i : Bool × Int × Int) : Value := .agg #[.bool i.1, .int .i64 i.2.1, .int .i64 i.2.2]

/-- items as cells -/
def itL : List Itm → List Value
  | [] => []
  | x :: r => .int .i64 x.s :: .int .i64 x.n :: .string (bs x.t) :: .int .i64 x.r :: itL r

theorem itL_cons (x : Itm) (r : List Itm) : itL (x :: r) = itC x ++ itL r := rfl

theorem itL_append : ∀ a b : List Itm, itL (a ++ b) = itL a ++ itL b
  | [], _ => rfl
  | x :: r, b => by rw [List.cons_append, itL_cons, itL_cons, itL_append r b, List.append_assoc]

theorem itL_length : ∀ l : List Itm, (itL l).length = l.length * 4
  | [] => rfl
  | x :: r => by rw [itL_cons, List.length_append, itL_length r, List.length_cons]; unfold itC; simp; omega

theorem itL_take : ∀ (l : List Itm) (k : Nat), itL (l.take k) = (itL l).take (k * 4)
  | [], k => by simp [itL]
  | x :: r, 0 => by simp [itL]
  | x :: r, k + 1 => by
    rw [List.take_succ_cons, itL_cons, itL_cons, itL_take r k, List.take_append]
    have h4 : (itC x).length = 4 := rfl
    rw [h4, List.take_of_length_le (l := itC x) (by rw [h4]; omega), show (k + 1) * 4 - 4 = k * 4 by omega]

theorem itL_drop : ∀ (l : List Itm) (k : Nat), itL (l.drop k) = (itL l).drop (k * 4)
  | [], k => by simp [itL]
  | x :: r, 0 => by simp
  | x :: r, k + 1 => by
    rw [List.drop_succ_cons, itL_cons, itL_drop r k, List.drop_append]
    have h4 : (itC x).length = 4 := rfl
    rw [h4, List.drop_of_length_le (l := itC x) (by rw [h4]; omega), show (k + 1) * 4 - 4 = k * 4 by omega, List.nil_append]

theorem itL_get : ∀ (l : List Itm) (k : Nat) (h : k < l.length), (itL l)[k * 4]? = some (.int .i64 l[k].s) ∧ (itL l)[k * 4 + 1]? = some (.int .i64 l[k].n) ∧ (itL l)[k * 4 + 2]? = some (.string (bs l[k].t)) ∧ (itL l)[k * 4 + 3]? = some (.int .i64 l[k].r)
  | [], k, h => by simp at h
  | x :: r, 0, h => ⟨rfl, rfl, rfl, rfl⟩
  | x :: r, k + 1, h => by
    have ih := itL_get r k (by rw [List.length_cons] at h; omega)
    unfold itL
    rw [show (k + 1) * 4 = k * 4 + 1 + 1 + 1 + 1 by omega, show k * 4 + 1 + 1 + 1 + 1 + 1 = (k * 4 + 1) + 1 + 1 + 1 + 1 by omega, show k * 4 + 1 + 1 + 1 + 1 + 2 = (k * 4 + 2) + 1 + 1 + 1 + 1 by omega, show k * 4 + 1 + 1 + 1 + 1 + 3 = (k * 4 + 3) + 1 + 1 + 1 + 1 by omega]
    simp only [List.getElem?_cons_succ, List.getElem_cons_succ]
    exact ih

theorem itL_one : ∀ (l : List Itm), ∀ u ∈ itL l, u.oneCell' = true
  | [], u, h => by simp [itL] at h
  | x :: r, u, h => by
    rw [itL_cons, List.mem_append] at h
    rcases h with h | h
    · unfold itC at h
      simp at h
      rcases h with rfl | rfl | rfl | rfl <;> rfl
    · exact itL_one r u h

/-- the cell of one field, set -/
theorem itL_set : ∀ (l : List Itm) (k : Nat) (_ : k < l.length) (y : Itm), itL (l.set k y) = (itL l).take (k * 4) ++ (itC y ++ (itL l).drop (k * 4 + 4))
  | [], k, h, _ => by simp at h
  | x :: r, 0, h, y => by simp [itL_cons, itL, itC]
  | x :: r, k + 1, h, y => by
    rw [List.set_cons_succ, itL_cons, itL_set r k (by simpa using h) y, itL_cons, List.take_append, List.drop_append]
    have h4 : (itC x).length = 4 := rfl
    rw [h4, List.take_of_length_le (l := itC x) (by rw [h4]; omega), List.drop_of_length_le (l := itC x) (by rw [h4]; omega), show (k + 1) * 4 - 4 = k * 4 by omega, show (k + 1) * 4 + 4 - 4 = k * 4 + 4 by omega, List.nil_append, List.append_assoc]

theorem itInfo : (Try.prog.info? 92).map (fun i => (i.zero, i.size, i.bytes)) = some (some (.agg #[.int .i64 0, .int .i64 0, .string ⟨#[]⟩, .int .i64 0]), 4, 40) := by kernel_rfl

/-- a slice that reads as items -/
def Items (w : World) (v : Value) (l : List Itm) : Prop :=
  ∃ o c, v = .slice o l.length c ∧ l.length ≤ c ∧ c ≤ maxLen ∧ (l = [] ∨ ∃ b off, o = some ⟨b, off, none⟩ ∧ ∀ k (h : k < l.length),
    w.cell? ⟨b, off + k * 4, none⟩ = some (.int .i64 l[k].s) ∧ w.cell? ⟨b, off + k * 4 + 1, none⟩ = some (.int .i64 l[k].n) ∧ w.cell? ⟨b, off + k * 4 + 2, none⟩ = some (.string (bs l[k].t)) ∧ w.cell? ⟨b, off + k * 4 + 3, none⟩ = some (.int .i64 l[k].r))

theorem Items.below {w w' : World} {n : Nat} {v : Value} {l : List Itm} (h : Items w v l) (hu : Below n w w') (hn : ∀ b, v.ownBlock = some b → b < n) : Items w' v l := by
  obtain ⟨o, c, rfl, h2, h3, h4⟩ := h
  refine ⟨o, c, rfl, h2, h3, ?_⟩
  rcases h4 with h4 | ⟨b, off, rfl, h6⟩
  · exact .inl h4
  · refine .inr ⟨b, off, rfl, fun k hk => ?_⟩
    have hb : b < n := hn b rfl
    obtain ⟨a1, a2, a3, a4⟩ := h6 k hk
    exact ⟨(hu.cell (p := ⟨b, _, none⟩) hb).trans a1, (hu.cell (p := ⟨b, _, none⟩) hb).trans a2, (hu.cell (p := ⟨b, _, none⟩) hb).trans a3, (hu.cell (p := ⟨b, _, none⟩) hb).trans a4⟩

theorem Items.up {w w' : World} {v : Value} {l : List Itm} (h : Items w v l) (hu : Up w w') : Items w' v l := by
  obtain ⟨o, c, h1, h2, h3, h4⟩ := h
  refine ⟨o, c, h1, h2, h3, ?_⟩
  rcases h4 with h4 | ⟨b, off, h5, h6⟩
  · exact .inl h4
  · refine .inr ⟨b, off, h5, fun k hk => ?_⟩
    obtain ⟨a1, a2, a3, a4⟩ := h6 k hk
    exact ⟨(hu.cell (World.block_lt_of_cell? w _ a1)).trans a1, (hu.cell (World.block_lt_of_cell? w _ a2)).trans a2, (hu.cell (World.block_lt_of_cell? w _ a3)).trans a3, (hu.cell (World.block_lt_of_cell? w _ a4)).trans a4⟩

theorem Items.slice {w : World} {v : Value} {l : List Itm} (h : Items w v l) : ∃ o c, v = .slice o l.length c ∧ c ≤ maxLen := by
  obtain ⟨o, c, h1, _, h3, _⟩ := h
  exact ⟨o, c, h1, h3⟩

theorem Items.nil (w : World) : Items w (.slice none 0 0) [] := ⟨none, 0, rfl, Nat.le_refl _, by unfold maxLen; omega, .inl rfl⟩

/-- the items ahead of a place -/
theorem Items.front {w : World} {o : Option Addr} {n c : Nat} {l : List Itm} (h : Items w (.slice o n c) l) (k : Nat) (hk : k ≤ l.length) : Items w (.slice o k c) (l.take k) := by
  obtain ⟨o', c', h1, h2, h3, h4⟩ := h
  simp only [Value.slice.injEq] at h1
  obtain ⟨rfl, rfl, rfl⟩ := h1
  have hlen : (l.take k).length = k := by rw [List.length_take]; omega
  refine ⟨o, c, by rw [hlen], by omega, h3, ?_⟩
  rcases h4 with h4 | ⟨b, off, h5, h6⟩
  · left; rw [h4]; simp
  · right
    refine ⟨b, off, h5, fun j hj => ?_⟩
    rw [hlen] at hj
    rw [List.getElem_take]
    exact h6 j (by omega)

/-- a slice of items of the call's own -/
def OItems (w : World) (base : Nat) (v : Value) (l : List Itm) : Prop := w.ownsRow base 92 4 v l.length (itL l)

theorem OItems.items {w : World} {base : Nat} {v : Value} {l : List Itm} (h : OItems w base v l) : Items w v l := by
  have h' := h
  rcases h.2 with ⟨rfl, h0⟩ | ⟨g, cap, cur, rfl, _, _, h3, h4, _⟩
  · have : l = [] := List.eq_nil_of_length_eq_zero h0
    subst this
    exact Items.nil w
  · refine ⟨_, cap, rfl, h3, h4, .inr ⟨g, 0, rfl, fun k hk => ?_⟩⟩
    obtain ⟨a1, a2, a3, a4⟩ := itL_get l k hk
    have hc : ∀ j, j < l.length * 4 → w.cell? ⟨g, j, none⟩ = (itL l)[j]? := fun j hj => World.ownsRow.cellAt h' j (by omega)
    refine ⟨?_, ?_, ?_, ?_⟩
    · rw [Nat.zero_add]; exact (hc _ (by omega)).trans a1
    · rw [Nat.zero_add]; exact (hc _ (by omega)).trans a2
    · rw [Nat.zero_add]; exact (hc _ (by omega)).trans a3
    · rw [Nat.zero_add]; exact (hc _ (by omega)).trans a4

theorem OItems.below {w w' : World} {base n : Nat} {v : Value} {l : List Itm} (h : OItems w base v l) (hu : Below n w w') (hn : ∀ b, v.ownBlock = some b → b < n) : OItems w' base v l := by
  refine ⟨h.1, ?_⟩
  rcases h.2 with h | ⟨g, cap, cur, rfl, h2, h3, h4⟩
  · exact .inl h
  · refine .inr ⟨g, cap, cur, rfl, h2, ?_, h4⟩
    rw [← h3]; exact hu.block g (hn g rfl)

theorem OItems.up {w w' : World} {base : Nat} {v : Value} {l : List Itm} (h : OItems w base v l) (hu : Up w w') : OItems w' base v l :=
  h.below hu (fun b hb => (World.ownsRow.lt h b hb).2)

theorem OItems.base {w : World} {base base' : Nat} {v : Value} {l : List Itm} (h : OItems w base v l) (hb : base' ≤ base) : OItems w base' v l := by
  refine ⟨h.1, ?_⟩
  rcases h.2 with h | ⟨g, cap, cur, h1, h2, h3⟩
  · exact .inl h
  · exact .inr ⟨g, cap, cur, h1, by omega, h3⟩

theorem OItems.nil (w : World) (base : Nat) : OItems w base (.slice none 0 0) [] := World.ownsRow_nil w base _ _

end Go.Proofs.Ytkghinpajogdhaa
