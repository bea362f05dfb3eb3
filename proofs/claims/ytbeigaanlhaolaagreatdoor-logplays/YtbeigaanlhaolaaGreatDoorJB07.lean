/-
  The texts LogK, LogM, LogN, ByteS, Shelf, Clone, one behind the other; each says below what it holds and on what conditions.
-/
import Derived.Test.YtbeigaanlhaolaaGreatDoorJB06
import Derived.Test.YtbeigaanlhaolaaGreatDoorJB01
import Derived.OwnWalk
import Derived.Laws.OwnMore
import Derived.BigRegion
import Derived.Deep.RegionLaw
import Derived.Deep.AppendLies
import Derived.Shelf.LaysM
import Derived.Shelf.Strconv.Clone
import Derived.Test.YtbeigaanlhaolaaGreatDoorProg

/-
  What package log's hasUnused and Check return. Conditions: a deed that a call can be handed.
-/
namespace Go.Proofs.YtbeigaanlhaolaaGreatDoor
open Go.RowKit
open Go.Proofs
open WoolBag
open WoolVol

theorem empty_txt : (bs []).toList = [] := by rw [ByteArray.toList_eq, bs_list]

theorem bs_isEmpty (l : List UInt8) : (bs l).toList.isEmpty = l.isEmpty := by
  rw [ByteArray.toList_eq, bs_list]

/-- has a deed what its kind makes no use of? -/
def unB (o : Opn) : Bool := (!o.to.isEmpty && o.kd != 5) || ((!o.tx.isEmpty && o.kd != 3) || (o.pl != 0 && (o.kd == 2 || o.kd == 5)))

theorem chk_un (o : Opn) : chkO o = if o.kd < 1 ∨ 5 < o.kd then 1 else if nameB o.nm = false ∨ (o.kd = 5 ∧ nameB o.to = false) then 3 else if o.pl < 0 ∨ 32 < o.pl then 1 else if 64 < o.tx.length then 2 else if unB o = true then 3 else 0 := by
  have e : ((o.kd ≠ 5 ∧ o.to ≠ []) ∨ (o.kd ≠ 3 ∧ o.tx ≠ []) ∨ ((o.kd = 2 ∨ o.kd = 5) ∧ o.pl ≠ 0)) ↔ unB o = true := by
    unfold unB
    simp only [Bool.or_eq_true, Bool.and_eq_true, Bool.not_eq_true', List.isEmpty_eq_false_iff, bne_iff_ne, beq_iff_eq]
    constructor
    · rintro (⟨h1, h2⟩ | ⟨h1, h2⟩ | ⟨h1, h2⟩)
      · exact .inl ⟨h2, h1⟩
      · exact .inr (.inl ⟨h2, h1⟩)
      · exact .inr (.inr ⟨h2, h1⟩)
    · rintro (⟨h1, h2⟩ | ⟨h1, h2⟩ | ⟨h1, h2⟩)
      · exact .inl ⟨h2, h1⟩
      · exact .inr (.inl ⟨h2, h1⟩)
      · exact .inr (.inr ⟨h2, h1⟩)
  unfold chkO
  simp only [e]

theorem chkO_kd {o : Opn} (h : chkO o = 0) : 1 ≤ o.kd ∧ o.kd ≤ 5 := by
  unfold chkO at h
  by_cases h1 : o.kd < 1 ∨ 5 < o.kd
  · rw [if_pos h1] at h; cases h
  · omega

set_option maxRecDepth 100000 in
set_option maxHeartbeats 2000000 in
theorem hasUn_any (o : Opn) (w : World) : Calls Tryz.prog 53 #[opA o] w fun e w' => e = .returned (.bool (unB o)) ∧ Up w w' := by
  obtain ⟨kd, nm, ot, pl, tx⟩ := o
  unfold opA unB
  simp only
  have e1 := bs_isEmpty ot
  have e2 := bs_isEmpty tx
  have n1 : ∀ S : ByteArray, S.toList.isEmpty = true → S.toList = [] := fun S h => by simpa using h
  generalize ot.isEmpty = b1 at *
  generalize tx.isEmpty = b2 at *
  generalize bs nm = N
  generalize bs ot = S at *
  generalize bs tx = T at *
  cases b1 <;> cases b2
  · clear n1
    go_enter Tryz.func53, Tryz.ntmps53
    go_wp2_with fail
    all_goals (go_ret; refine ⟨?_, Up.alloc _ _⟩; first | (simp; done) | (simp; omega) | (simp_all; done) | (simp_all; omega))
  · have f2 := n1 T e2; clear n1
    go_enter Tryz.func53, Tryz.ntmps53
    go_wp2_with fail
    all_goals (go_ret; refine ⟨?_, Up.alloc _ _⟩; first | (simp; done) | (simp; omega) | (simp_all; done) | (simp_all; omega))
  · have f1 := n1 S e1; clear n1
    go_enter Tryz.func53, Tryz.ntmps53
    go_wp2_with fail
    all_goals (go_ret; refine ⟨?_, Up.alloc _ _⟩; first | (simp; done) | (simp; omega) | (simp_all; done) | (simp_all; omega))
  · have f1 := n1 S e1; have f2 := n1 T e2; clear n1
    go_enter Tryz.func53, Tryz.ntmps53
    go_wp2_with fail
    all_goals (go_ret; refine ⟨?_, Up.alloc _ _⟩; first | (simp; done) | (simp; omega) | (simp_all; done) | (simp_all; omega))

set_option maxRecDepth 100000 in
set_option maxHeartbeats 2000000 in
theorem checkO_any (o : Opn) (w : World) (ho : OpWf o) : Calls Tryz.prog 25 #[opA o] w fun e w' => e = .returned (.int .i64 (chkO o)) ∧ Up w w' := by
  have HU := Lib.hid (fun W => hasUn_any o W)
  have HN := Lib.hid (fun W => name_any o.nm W ho.2.1)
  have HT := Lib.hid (fun W => name_any o.to W ho.2.2.1)
  have hsz := bs_size o.tx
  have hl := ho.2.2.2.2
  obtain ⟨R, hR⟩ : ∃ R, chkO o = R := ⟨_, rfl⟩
  rw [hR]
  rw [chk_un] at hR
  clear ho
  unfold opA at *
  obtain ⟨kd, nm, ot, pl, tx⟩ := o
  simp only at *
  generalize unB ⟨kd, nm, ot, pl, tx⟩ = UB at *
  generalize nameB nm = NB at *
  generalize nameB ot = TB at *
  generalize tx.length = L at *
  generalize bs nm = N at *
  generalize bs ot = S at *
  generalize bs tx = T at *
  by_cases h1 : kd < 1 ∨ 5 < kd
  · rw [if_pos h1] at hR
    subst hR
    go_enter Tryz.func25, Tryz.ntmps25
    go_wp2_with fail
    all_goals first | omega | (go_ret; exact ⟨rfl, Up.alloc _ _⟩) | done
  rw [if_neg h1] at hR
  have k1 : decide (kd < 1) = false := decide_eq_false (by omega)
  have k2 : decide (5 < kd) = false := decide_eq_false (by omega)
  cases NB with
  | false =>
    rw [if_pos (.inl rfl)] at hR
    subst hR
    go_enter Tryz.func25, Tryz.ntmps25
    go_wp2_with fail
    refine (HN.out _).mono ?_
    rintro e w1 ⟨rfl, rfl⟩
    go_wp2_with fail
    go_ret
    exact ⟨rfl, Up.alloc _ _⟩
  | true =>
    by_cases h5 : kd = 5
    · subst h5
      cases TB with
      | false =>
        rw [if_pos (.inr ⟨rfl, rfl⟩)] at hR
        subst hR
        go_enter Tryz.func25, Tryz.ntmps25
        go_wp2_with fail
        refine (HN.out _).mono ?_
        rintro e w1 ⟨rfl, rfl⟩
        go_wp2_with fail
        refine (HT.out _).mono ?_
        rintro e w1 ⟨rfl, rfl⟩
        go_wp2_with fail
        go_ret
        exact ⟨rfl, Up.alloc _ _⟩
      | true =>
        rw [if_neg (by simp)] at hR
        by_cases h6 : pl < 0 ∨ 32 < pl
        · rw [if_pos h6] at hR
          subst hR
          go_enter Tryz.func25, Tryz.ntmps25
          go_wp2_with fail
          refine (HN.out _).mono ?_
          rintro e w1 ⟨rfl, rfl⟩
          go_wp2_with fail
          refine (HT.out _).mono ?_
          rintro e w1 ⟨rfl, rfl⟩
          go_wp2_with fail
          all_goals first | omega | (go_ret; exact ⟨rfl, Up.alloc _ _⟩) | done
        rw [if_neg h6] at hR
        have k3 : decide (pl < 0) = false := decide_eq_false (by omega)
        have k4 : decide (32 < pl) = false := decide_eq_false (by omega)
        by_cases h7 : 64 < L
        · rw [if_pos h7] at hR
          subst hR
          go_enter Tryz.func25, Tryz.ntmps25
          go_wp2_with fail
          refine (HN.out _).mono ?_
          rintro e w1 ⟨rfl, rfl⟩
          go_wp2_with fail
          refine (HT.out _).mono ?_
          rintro e w1 ⟨rfl, rfl⟩
          go_wp2_with fail
          all_goals first | omega | (go_ret; exact ⟨rfl, Up.alloc _ _⟩) | done
        rw [if_neg h7] at hR
        have k5 : decide (64 < (L : Int)) = false := decide_eq_false (by omega)
        go_enter Tryz.func25, Tryz.ntmps25
        go_wp2_with fail
        refine (HN.out _).mono ?_
        rintro e w1 ⟨rfl, rfl⟩
        go_wp2_with fail
        refine (HT.out _).mono ?_
        rintro e w1 ⟨rfl, rfl⟩
        go_wp2_with fail
        refine (HU.out _).mono ?_
        rintro e w1 ⟨rfl, u1⟩
        have HV := Lib.hid ((Up.alloc w (.cells #[.int .i64 5, .string N, .string S, .int .i64 pl, .string T] 27)).trans u1)
        have HR := Lib.hid hR
        clear hR
        cases UB <;> (go_wp2_with fail; go_ret; exact ⟨by rw [← HR.out]; rfl, HV.out⟩)
    · have hne : (kd == 5) = false := by rw [beq_eq_false_iff_ne]; exact h5
      rw [if_neg (by simp [h5])] at hR
      by_cases h6 : pl < 0 ∨ 32 < pl
      · rw [if_pos h6] at hR
        subst hR
        go_enter Tryz.func25, Tryz.ntmps25
        go_wp2_with fail
        refine (HN.out _).mono ?_
        rintro e w1 ⟨rfl, rfl⟩
        go_wp2_with fail
        all_goals first | omega | (go_ret; exact ⟨rfl, Up.alloc _ _⟩) | done
      rw [if_neg h6] at hR
      have k3 : decide (pl < 0) = false := decide_eq_false (by omega)
      have k4 : decide (32 < pl) = false := decide_eq_false (by omega)
      by_cases h7 : 64 < L
      · rw [if_pos h7] at hR
        subst hR
        go_enter Tryz.func25, Tryz.ntmps25
        go_wp2_with fail
        refine (HN.out _).mono ?_
        rintro e w1 ⟨rfl, rfl⟩
        go_wp2_with fail
        all_goals first | omega | (go_ret; exact ⟨rfl, Up.alloc _ _⟩) | done
      rw [if_neg h7] at hR
      have k5 : decide (64 < (L : Int)) = false := decide_eq_false (by omega)
      go_enter Tryz.func25, Tryz.ntmps25
      go_wp2_with fail
      refine (HN.out _).mono ?_
      rintro e w1 ⟨rfl, rfl⟩
      go_wp2_with fail
      refine (HU.out _).mono ?_
      rintro e w1 ⟨rfl, u1⟩
      have HV := Lib.hid ((Up.alloc w (.cells #[.int .i64 kd, .string N, .string S, .int .i64 pl, .string T] 27)).trans u1)
      have HR := Lib.hid hR
      clear hR
      cases UB <;> (go_wp2_with fail; go_ret; exact ⟨by rw [← HR.out]; rfl, HV.out⟩)

end Go.Proofs.YtbeigaanlhaolaaGreatDoor

/-
  Deeds as bytes, and logs of deeds, in plain words, by whatever fingerprint and frames: what is written is read; a log is played. Conditions: as each says.
-/
namespace WoolVol
open WoolBag

variable {F : List UInt8 → Int}

/-! ytbeigaanlhaolaagreatdoor# deeds as bytes -/

/-- a text behind its length -/
def lenT (t : List UInt8) : List UInt8 := UInt8.ofNat t.length :: t

/-- the encoding of a deed -/
def encO (o : Opn) : List UInt8 := UInt8.ofNat o.kd.toNat :: UInt8.ofNat o.pl.toNat :: (lenT o.nm ++ (lenT o.to ++ lenT o.tx))

/-- a text behind its length, and what follows -/
def takeT : List UInt8 → Option (List UInt8 × List UInt8)
  | [] => none
  | n :: r => if r.length < n.toNat then none else some (r.take n.toNat, r.drop n.toNat)

/-- the deed whose encoding a text is -/
def decO : List UInt8 → Option Opn
  | k :: a :: r =>
    match takeT r with
    | none => none
    | some (n, r1) =>
      match takeT r1 with
      | none => none
      | some (t, r2) =>
        match takeT r2 with
        | none => none
        | some (x, r3) => if r3 = [] ∧ chkO ⟨(k.toNat : Int), n, t, (a.toNat : Int), x⟩ = 0 then some ⟨(k.toNat : Int), n, t, (a.toNat : Int), x⟩ else none
  | _ => none

theorem takeT_len (t r : List UInt8) (h : t.length < 256) : takeT (lenT t ++ r) = some (t, r) := by
  have e : (UInt8.ofNat t.length).toNat = t.length := by rw [UInt8.toNat_ofNat']; omega
  show (if (t ++ r).length < (UInt8.ofNat t.length).toNat then none else some ((t ++ r).take (UInt8.ofNat t.length).toNat, (t ++ r).drop (UInt8.ofNat t.length).toNat)) = _
  rw [e, if_neg (by rw [List.length_append]; omega)]
  simp

theorem takeT_back {s t r : List UInt8} (h : takeT s = some (t, r)) : s = lenT t ++ r ∧ t.length < 256 := by
  cases s with
  | nil => simp [takeT] at h
  | cons n s =>
    simp only [takeT] at h
    by_cases hl : s.length < n.toNat
    · rw [if_pos hl] at h; cases h
    · rw [if_neg hl] at h
      simp only [Option.some.injEq, Prod.mk.injEq] at h
      obtain ⟨rfl, rfl⟩ := h
      have hn : n.toNat < 256 := n.toNat_lt
      have hlen : (s.take n.toNat).length = n.toNat := by rw [List.length_take]; omega
      refine ⟨?_, by omega⟩
      unfold lenT
      rw [hlen]
      simp

theorem nameB_len {s : List UInt8} (h : nameB s = true) : 1 ≤ s.length ∧ s.length ≤ 12 := by
  unfold nameB at h
  simp only [Bool.and_eq_true, decide_eq_true_eq] at h
  exact h.1

/-- a deed that is in order -/
theorem chkO_ok {o : Opn} (h : chkO o = 0) : 1 ≤ o.kd ∧ o.kd ≤ 5 ∧ nameB o.nm = true ∧ (o.kd = 5 → nameB o.to = true) ∧ 0 ≤ o.pl ∧ o.pl ≤ 32 ∧ o.tx.length ≤ 64 ∧ (o.kd ≠ 5 → o.to = []) ∧ (o.kd ≠ 3 → o.tx = []) ∧ ((o.kd = 2 ∨ o.kd = 5) → o.pl = 0) := by
  unfold chkO at h
  by_cases h1 : o.kd < 1 ∨ 5 < o.kd
  · rw [if_pos h1] at h; cases h
  rw [if_neg h1] at h
  by_cases h2 : nameB o.nm = false ∨ (o.kd = 5 ∧ nameB o.to = false)
  · rw [if_pos h2] at h; cases h
  rw [if_neg h2] at h
  by_cases h3 : o.pl < 0 ∨ 32 < o.pl
  · rw [if_pos h3] at h; cases h
  rw [if_neg h3] at h
  by_cases h4 : 64 < o.tx.length
  · rw [if_pos h4] at h; cases h
  rw [if_neg h4] at h
  by_cases h5 : (o.kd ≠ 5 ∧ o.to ≠ []) ∨ (o.kd ≠ 3 ∧ o.tx ≠ []) ∨ ((o.kd = 2 ∨ o.kd = 5) ∧ o.pl ≠ 0)
  · rw [if_pos h5] at h; cases h
  refine ⟨by omega, by omega, ?_, fun e => ?_, by omega, by omega, by omega, fun e => ?_, fun e => ?_, fun e => ?_⟩
  · cases e : nameB o.nm with
    | true => rfl
    | false => exact absurd (.inl e) h2
  · cases e2 : nameB o.to with
    | true => rfl
    | false => exact absurd (.inr ⟨e, e2⟩) h2
  · apply Classical.byContradiction
    intro hne
    exact h5 (.inl ⟨e, hne⟩)
  · apply Classical.byContradiction
    intro hne
    exact h5 (.inr (.inl ⟨e, hne⟩))
  · apply Classical.byContradiction
    intro hne
    exact h5 (.inr (.inr ⟨e, hne⟩))

theorem chkO_to {o : Opn} (h : chkO o = 0) : o.to.length ≤ 12 := by
  obtain ⟨_, _, _, h4, _, _, _, h8, _⟩ := chkO_ok h
  by_cases e : o.kd = 5
  · exact (nameB_len (h4 e)).2
  · rw [h8 e]; simp

theorem encO_len {o : Opn} (h : chkO o = 0) : (encO o).length = 5 + o.nm.length + o.to.length + o.tx.length ∧ (encO o).length ≤ 93 ∧ 6 ≤ (encO o).length := by
  obtain ⟨_, _, h3, h4, _, _, h7, h8, _⟩ := chkO_ok h
  have hn := nameB_len h3
  have ht := chkO_to h
  have e : (encO o).length = 5 + o.nm.length + o.to.length + o.tx.length := by
    unfold encO lenT
    simp only [List.length_cons, List.length_append]
    omega
  omega

theorem dec_enc {o : Opn} (h : chkO o = 0) : decO (encO o) = some o := by
  obtain ⟨h1, h2, h3, h4, h5, h6, h7, h8, _⟩ := chkO_ok h
  have hn := nameB_len h3
  have ht := chkO_to h
  have ek : ((UInt8.ofNat o.kd.toNat).toNat : Int) = o.kd := by rw [UInt8.toNat_ofNat']; omega
  have ea : ((UInt8.ofNat o.pl.toNat).toNat : Int) = o.pl := by rw [UInt8.toNat_ofNat']; omega
  have e3 : takeT (lenT o.tx) = some (o.tx, []) := by
    have := takeT_len o.tx [] (by omega)
    rwa [List.append_nil] at this
  unfold encO decO
  simp only [takeT_len o.nm _ (by omega), takeT_len o.to _ (by omega), e3, ek, ea]
  rw [if_pos ⟨trivial, h⟩]

theorem enc_dec {s : List UInt8} {o : Opn} (h : decO s = some o) : s = encO o ∧ chkO o = 0 := by
  match s, h with
  | [], h => simp [decO] at h
  | [_], h => simp [decO] at h
  | k :: a :: r, h =>
    simp only [decO] at h
    cases h1 : takeT r with
    | none => rw [h1] at h; simp at h
    | some p =>
      obtain ⟨n, r1⟩ := p
      rw [h1] at h
      simp only at h
      cases h2 : takeT r1 with
      | none => rw [h2] at h; simp at h
      | some p =>
        obtain ⟨t, r2⟩ := p
        rw [h2] at h
        simp only at h
        cases h3 : takeT r2 with
        | none => rw [h3] at h; simp at h
        | some p =>
          obtain ⟨x, r3⟩ := p
          rw [h3] at h
          simp only at h
          by_cases hc : r3 = [] ∧ chkO ⟨(k.toNat : Int), n, t, (a.toNat : Int), x⟩ = 0
          · rw [if_pos hc] at h
            simp only [Option.some.injEq] at h
            subst h
            obtain ⟨rfl, hc⟩ := hc
            refine ⟨?_, hc⟩
            have b1 := (takeT_back h1).1
            have b2 := (takeT_back h2).1
            have b3 := (takeT_back h3).1
            rw [List.append_nil] at b3
            unfold encO
            simp only [Int.toNat_natCast]
            rw [b1, b2, b3]
            simp
          · rw [if_neg hc] at h; cases h

/-! ytbeigaanlhaolaagreatdoor# logs -/

variable (F)

variable {F}

/-- frames: what makes one of a body, what gets one -/
structure Frames (R : List UInt8 → List UInt8) (G : List UInt8 → (Nat × List UInt8) × Nat × Nat) : Prop where
  len : ∀ b, (R b).length = b.length + 7
  got : ∀ b more : List UInt8, b.length ≤ 700 → G (R b ++ more) = ((1, b), b.length + 7, 0)
  cut : ∀ (b : List UInt8) (k : Nat), b.length ≤ 700 → k < b.length + 7 → (G ((R b).take k)).2.2 = 7
  ok : ∀ s, (G s).2.2 = 0 → 7 ≤ (G s).2.1 ∧ (G s).2.1 ≤ s.length

variable (F) in
/-- a log played from a state, n deeds done -/
def playG (G : List UInt8 → (Nat × List UInt8) × Nat × Nat) : Nat → Sta → List UInt8 → Nat → Sta × Nat × Int
  | 0, st, _, n => (st, n, 0)
  | k + 1, st, s, n =>
    if s = [] ∨ (G s).2.2 = 7 then (st, n, 0)
    else if (G s).2.2 ≠ 0 then (zeroS, 0, ((G s).2.2 : Int))
    else if n = 200 then (zeroS, 0, 2)
    else match decO (G s).1.2 with
      | none => (zeroS, 0, 3)
      | some o => if (G s).1.1 ≠ 1 ∨ (doO F st o).2 ≠ 0 then (zeroS, 0, 3) else playG G k (doO F st o).1 (s.drop (G s).2.1) (n + 1)

theorem play_fuel {R : List UInt8 → List UInt8} {G : List UInt8 → (Nat × List UInt8) × Nat × Nat} (hf : Frames R G) : ∀ (k m : Nat) (st : Sta) (s : List UInt8) (n : Nat), s.length < k → s.length < m → playG F G k st s n = playG F G m st s n
  | 0, _, _, _, _, h, _ => by omega
  | _ + 1, 0, _, _, _, _, h => by omega
  | k + 1, m + 1, st, s, n, hk, hm => by
    unfold playG
    by_cases h1 : s = [] ∨ (G s).2.2 = 7
    · rw [if_pos h1, if_pos h1]
    rw [if_neg h1, if_neg h1]
    by_cases h2 : (G s).2.2 ≠ 0
    · rw [if_pos h2, if_pos h2]
    rw [if_neg h2, if_neg h2]
    by_cases h3 : n = 200
    · rw [if_pos h3, if_pos h3]
    rw [if_neg h3, if_neg h3]
    cases decO (G s).1.2 with
    | none => rfl
    | some o =>
      simp only
      by_cases h4 : (G s).1.1 ≠ 1 ∨ (doO F st o).2 ≠ 0
      · rw [if_pos h4, if_pos h4]
      rw [if_neg h4, if_neg h4]
      have h5 := hf.ok s (by omega)
      have h6 : (s.drop (G s).2.1).length = s.length - (G s).2.1 := List.length_drop
      exact play_fuel hf k m _ _ _ (by omega) (by omega)

variable (F) in
/-- what Replay answers -/
def replayG (G : List UInt8 → (Nat × List UInt8) × Nat × Nat) (s : List UInt8) : Sta × Nat × Int := playG F G (s.length + 1) zeroS s 0

/-- the log of deeds -/
def logG (R : List UInt8 → List UInt8) (l : List Opn) : List UInt8 := (l.map fun o => R (encO o)).flatten

theorem logG_nil (R : List UInt8 → List UInt8) : logG R [] = [] := rfl
theorem logG_cons (R : List UInt8 → List UInt8) (o : Opn) (l : List Opn) : logG R (o :: l) = R (encO o) ++ logG R l := by unfold logG; simp
theorem logG_append (R : List UInt8 → List UInt8) (a b : List Opn) : logG R (a ++ b) = logG R a ++ logG R b := by unfold logG; simp

end WoolVol

/-
  Deeds read off bytes as the program reads them, in plain words: the raw deed, and that it is the one whose encoding the bytes are. Conditions: as each says.
-/
namespace WoolVol

/-- the text that s begins with, behind its length, as much as is there, and what is left -/
def cutR : List UInt8 → List UInt8 × List UInt8
  | [] => ([], [])
  | n :: r => (r.take n.toNat, r.drop n.toNat)

/-- the deed that bytes begin with -/
def rawO : List UInt8 → Opn
  | k :: a :: r => ⟨(k.toNat : Int), (cutR r).1, (cutR (cutR r).2).1, (a.toNat : Int), (cutR (cutR (cutR r).2).2).1⟩
  | _ => ⟨0, [], [], 0, []⟩

theorem cutR_len (t r : List UInt8) (h : t.length < 256) : cutR (lenT t ++ r) = (t, r) := by
  have e : (UInt8.ofNat t.length).toNat = t.length := by rw [UInt8.toNat_ofNat']; omega
  show ((t ++ r).take (UInt8.ofNat t.length).toNat, (t ++ r).drop (UInt8.ofNat t.length).toNat) = _
  rw [e]
  simp

theorem raw_enc {o : Opn} (h : chkO o = 0) : rawO (encO o) = o := by
  obtain ⟨h1, h2, h3, h4, h5, h6, h7, h8, _⟩ := chkO_ok h
  have hn := nameB_len h3
  have ht := chkO_to h
  have ek : ((UInt8.ofNat o.kd.toNat).toNat : Int) = o.kd := by rw [UInt8.toNat_ofNat']; omega
  have ea : ((UInt8.ofNat o.pl.toNat).toNat : Int) = o.pl := by rw [UInt8.toNat_ofNat']; omega
  have e3 : cutR (lenT o.tx) = (o.tx, []) := by
    have := cutR_len o.tx [] (by omega)
    rwa [List.append_nil] at this
  unfold encO rawO
  simp only [cutR_len o.nm _ (by omega), cutR_len o.to _ (by omega), e3, ek, ea]

/-- what Decode answers -/
theorem dec_raw (s : List UInt8) : decO s = if s.length < 2 then none else if chkO (rawO s) = 0 ∧ encO (rawO s) = s then some (rawO s) else none := by
  by_cases h2 : s.length < 2
  · rw [if_pos h2]
    match s, h2 with
    | [], _ => rfl
    | [_], _ => rfl
  · rw [if_neg h2]
    by_cases hc : chkO (rawO s) = 0 ∧ encO (rawO s) = s
    · rw [if_pos hc]
      have := dec_enc hc.1
      rwa [hc.2] at this
    · rw [if_neg hc]
      cases e : decO s with
      | none => rfl
      | some o =>
        obtain ⟨h3, h4⟩ := enc_dec e
        have h5 := raw_enc h4
        rw [← h3] at h5
        exact absurd ⟨by rw [h5]; exact h4, by rw [h5]; exact h3.symm⟩ hc

theorem cutR_le (s : List UInt8) : (cutR s).1.length ≤ s.length ∧ (cutR s).2.length ≤ s.length ∧ (cutR s).1.length ≤ 255 := by
  cases s with
  | nil => simp [cutR]
  | cons n r =>
    have := n.toNat_lt
    simp only [cutR, List.length_cons, List.length_take, List.length_drop]
    omega

theorem rawO_le (s : List UInt8) : (rawO s).nm.length ≤ 255 ∧ (rawO s).to.length ≤ 255 ∧ (rawO s).tx.length ≤ 255 ∧ 0 ≤ (rawO s).kd ∧ (rawO s).kd ≤ 255 ∧ 0 ≤ (rawO s).pl ∧ (rawO s).pl ≤ 255 := by
  match s with
  | [] => simp [rawO]
  | [_] => simp [rawO]
  | k :: a :: r =>
    have hk := k.toNat_lt
    have ha := a.toNat_lt
    refine ⟨(cutR_le r).2.2, (cutR_le _).2.2, (cutR_le _).2.2, ?_, ?_, ?_, ?_⟩ <;> simp only [rawO] <;> omega

end WoolVol

/-
  Slices of bytes that the call owns, and the string of one. Conditions: as each says.
-/
namespace Go.Proofs.YtbeigaanlhaolaaGreatDoor
open Go.RowKit
open Go.Proofs

/-- bytes as cells -/
def byteL (l : List UInt8) : List Value := l.map fun c : UInt8 => .int .u8 (c.toNat : Int)

theorem byteL_length (l : List UInt8) : (byteL l).length = l.length := by simp [byteL]
theorem byteL_get (l : List UInt8) (j : Nat) (h : j < l.length) : (byteL l)[j]? = some (.int .u8 ((l[j].toNat : Nat) : Int)) := by
  simp [byteL, h]
theorem byteL_snoc (l : List UInt8) (x : UInt8) : byteL (l ++ [x]) = byteL l ++ [.int .u8 (x.toNat : Int)] := by simp [byteL]

theorem byteInfo : (Tryz.prog.info? 5).map (fun i => (i.zero, i.size, i.bytes)) = some (some (.int .u8 0), 1, 1) := by kernel_rfl

/-- a slice of bytes that reads as a list -/
def Bytes (w : World) (base : Nat) (v : Value) (l : List UInt8) : Prop := w.ownsRow base 5 1 v l.length (byteL l)

theorem Bytes.up {w w' : World} {base : Nat} {v : Value} {l : List UInt8} (h : Bytes w base v l) (hu : Up w w') : Bytes w' base v l := by
  refine ⟨h.1, ?_⟩
  rcases h.2 with h | ⟨g, cap, cur, h1, h2, h3, h4⟩
  · exact .inl h
  · refine .inr ⟨g, cap, cur, h1, h2, ?_, h4⟩
    have hg : g < w.heap.size := by
      rcases Nat.lt_or_ge g w.heap.size with hlt | hge
      · exact hlt
      · rw [Array.getElem?_eq_none hge] at h3; cases h3
    rw [← h3]; exact hu.block g hg

theorem Bytes.nil (w : World) (base : Nat) : Bytes w base (.slice none 0 0) [] := World.ownsRow_nil _ _ _ _

theorem conv_none (w : World) : (convert 43 9 (.slice none 0 0)).run Tryz.prog w = .ok (.string ⟨#[]⟩) w := by
  rw [run_convert_bytes_string w 43 9 5 none 0 0 Tryz.underlying43 Tryz.underlying5 Tryz.underlying9]
  rfl

theorem Bytes.conv {w : World} {base : Nat} {v : Value} {l : List UInt8} (h : Bytes w base v l) : (convert 43 9 v).run Tryz.prog w = .ok (.string ⟨l.toArray⟩) w := by
  rcases h.2 with ⟨rfl, h0⟩ | ⟨g, cap, cur, rfl, _⟩
  · have : l = [] := List.eq_nil_of_length_eq_zero h0
    subst this
    exact conv_none w
  · refine run_convert_bytes_back (P := Tryz.prog) _ 43 9 5 _ cap l Tryz.underlying43 Tryz.underlying5 Tryz.underlying9 ?_
    intro j hj
    have := (World.ownsRow.cellAt h j (by omega)).trans (byteL_get l j hj)
    rw [← this]
    congr 1
    unfold Addr.add
    split
    · rename_i e; subst e; rfl
    · simp

theorem conv_byte (c : UInt8) (v : World) : (convert 43 9 (.slice (some ⟨v.heap.size, 0, none⟩) 1 1)).run Tryz.prog (v.alloc (.cells #[.int .u8 (c.toNat : Int)] 5)) = .ok (.string ⟨#[c]⟩) (v.alloc (.cells #[.int .u8 (c.toNat : Int)] 5)) := by
  refine run_convert_bytes_back (P := Tryz.prog) _ 43 9 5 _ 1 [c] Tryz.underlying43 Tryz.underlying5 Tryz.underlying9 ?_
  intro j hj
  have : j = 0 := by simpa using hj
  subst this
  exact World.cell?_alloc_mark _ _ _ _ 0

end Go.Proofs.YtbeigaanlhaolaaGreatDoor

/-
  Contracts of library functions at this program, each one application of a theorem of the library: what is proved is what each says. Conditions: as each says.
-/
namespace Go.Proofs
open Go.Shelf
def Tryz.laysM316_ren : Go.Shelf.Ren := ⟨fun | 316 => 65 | n => n, fun | 9 => 9 | 3 => 3 | 4 => 4 | 37 => 43 | 0 => 0 | 127 => 69 | 5 => 5 | n => n, fun | n => n⟩
theorem Tryz.laysM316 : Go.Proofs.LaysM.n316 Tryz.prog Tryz.laysM316_ren := {
  mixed := by kernel_rfl
  f316 := Tryz.func65.trans (congrArg some (by kernel_rfl))
  t0 := Tryz.underlying0
  a0 := Tryz.isAgg0
  z0 := Tryz.sizeOf0
  v0 := Tryz.zeroValue0
  t3 := Tryz.underlying3
  a3 := Tryz.isAgg3
  z3 := Tryz.sizeOf3
  v3 := Tryz.zeroValue3
  t4 := Tryz.underlying4
  a4 := Tryz.isAgg4
  z4 := Tryz.sizeOf4
  v4 := Tryz.zeroValue4
  t9 := Tryz.underlying9
  a9 := Tryz.isAgg9
  z9 := Tryz.sizeOf9
  v9 := Tryz.zeroValue9
  t37 := Tryz.underlying43
  a37 := Tryz.isAgg43
  z37 := Tryz.sizeOf43
  v37 := Tryz.zeroValue43
  t127 := Tryz.underlying69
  a127 := Tryz.isAgg69
  z127 := Tryz.sizeOf69
  v127 := Tryz.zeroValue69
  t5 := Tryz.underlying5
  a5 := Tryz.isAgg5
  z5 := Tryz.sizeOf5
  v5 := Tryz.zeroValue5
  i0 := by kernel_rfl
  i3 := by kernel_rfl
  i4 := by kernel_rfl
  i5 := by kernel_rfl
  i9 := by kernel_rfl
  i37 := by kernel_rfl
  i127 := by kernel_rfl }
open Go.RowKit in
theorem Tryz.stringslite_Clone (s : ByteArray) (w : World) (hlim : s.size ≤ 281474976710656) :
    Calls Tryz.prog 65 #[.string s] w fun e w' => e = .returned (.string s) ∧ Below w.heap.size w w' := Any.stringslite_Clone Tryz.laysM316 s w hlim
end Go.Proofs

/-
  What strings.Clone returns: the text. Condition: at most 1000 bytes.
-/
namespace Go.Proofs.YtbeigaanlhaolaaGreatDoor
open Go.RowKit
open Go.Proofs

theorem clone_str (s : ByteArray) (w : World) (hlim : s.size ≤ 1000) :
    Calls Tryz.prog 35 #[.string s] w fun e w' => e = .returned (.string s) ∧ Up w w' := by
  go_enter Tryz.func35, Tryz.ntmps35
  go_wp2_with fail
  refine (Tryz.stringslite_Clone s _ (by omega)).mono ?_
  rintro e w1 ⟨rfl, u1⟩
  have HU : Up w w1 := u1
  clear u1
  go_wp2_with fail
  go_ret
  exact ⟨rfl, HU⟩

end Go.Proofs.YtbeigaanlhaolaaGreatDoor
