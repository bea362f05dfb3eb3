/-
  The texts OpOne, OpRow, NameV, LogK, one behind the other; each says below what it holds and on what conditions.
-/
import Derived.Test.YtnmdfdkagkpcaaaJDiffCopies15
import Derived.Deep.Slices
import Derived.Deep.Fields
import Derived.ChangeSame
import Derived.SizedLaws
import Derived.ChangeOld
import Derived.Test.YtnmdfdkagkpcaaaJDiffCopies08
import Derived.Test.YtnmdfdkagkpcaaaJDiffCopies01
import Derived.Test.YtnmdfdkagkpcaaaJDiffCopies10
import Derived.BigRegion

/-
  A deed that came in reads as a deed. Conditions: it can be read as data.
-/
namespace Go.Proofs.Ytnmdfdkagkpcaaa
open Go.RowKit
open Go.Proofs
open Go.ChangeShapes Go.WideShapes Go.Deep
open WoolVol

theorem cellsOp : Try.prog.cellsOf 44 = 5 := by kernel_rfl
theorem cellsIntO : Try.prog.cellsOf 3 = 1 := by kernel_rfl
theorem cellsStrO : Try.prog.cellsOf 9 = 1 := by kernel_rfl
theorem bytesOp : Try.prog.bytesOf 44 = 64 := by kernel_rfl

section
variable {H : Type} {enc : TypeId × Value → H} {w : World} {base : Nat} {spare : Nat → Bool} {held : Bool}

set_option maxRecDepth 100000 in
theorem op_cells {n : Nat} {cs : List Value} {y : DataW H × List MemPlace} (h : DataW.trod enc Try.prog w base spare held n 44 cs = some y) : ∃ x : Opn, cs = opC x ∧ OpWf x := by
  obtain ⟨xs, m, _, _, hl, hxl, hf⟩ := DataW.trod_struct Try.underlying44 h
  rw [cellsOp] at hl
  match cs, hl with
  | [c0, c1, c2, c3, c4], _ =>
    match xs, hxl with
    | [x0, x1, x2, x3, x4], _ =>
      have f0 : DataW.trod enc Try.prog w base spare held m 3 [c0] = some x0 := by simpa [cellsIntO, cellsStrO] using hf 0 _ rfl
      have f1 : DataW.trod enc Try.prog w base spare held m 9 [c1] = some x1 := by simpa [cellsIntO, cellsStrO] using hf 1 _ rfl
      have f2 : DataW.trod enc Try.prog w base spare held m 9 [c2] = some x2 := by simpa [cellsIntO, cellsStrO] using hf 2 _ rfl
      have f3 : DataW.trod enc Try.prog w base spare held m 3 [c3] = some x3 := by simpa [cellsIntO, cellsStrO] using hf 3 _ rfl
      have f4 : DataW.trod enc Try.prog w base spare held m 9 [c4] = some x4 := by simpa [cellsIntO, cellsStrO] using hf 4 _ rfl
      obtain ⟨k, hk, _, hw0⟩ := DataW.trod_int Try.underlying3 f0
      obtain ⟨t1, ht1, _, hw1⟩ := DataW.trod_string Try.underlying9 f1
      obtain ⟨t2, ht2, _, hw2⟩ := DataW.trod_string Try.underlying9 f2
      obtain ⟨k3, hk3, _, hw3⟩ := DataW.trod_int Try.underlying3 f3
      obtain ⟨t4, ht4, _, hw4⟩ := DataW.trod_string Try.underlying9 f4
      simp at hk ht1 ht2 hk3 ht4
      unfold maxLen at hw1 hw2 hw4
      refine ⟨⟨k, t1.data.toList, t2.data.toList, k3, t4.data.toList⟩, ?_, hw0, ?_, ?_, hw3, ?_⟩
      · unfold opC; rw [hk, ht1, ht2, hk3, ht4, bs_of, bs_of, bs_of]
      · show t1.data.toList.length ≤ _; rw [ba_length]; omega
      · show t2.data.toList.length ≤ _; rw [ba_length]; omega
      · show t4.data.toList.length ≤ _; rw [ba_length]; omega

set_option maxRecDepth 100000 in
theorem open_op {r : Reach} {b0 : Nat} {v : Value} {d : DataW H} {ps : List MemPlace} (hval : Value.okWide Try.prog w r b0 44 v) (hd : DataW.Trod enc Try.prog w base spare held 44 v d ps) :
    ∃ o : Opn, v = opA o ∧ OpWf o := by
  simp only [Value.okWide, Try.underlying44] at hval
  obtain ⟨cs, rfl, hsz, _⟩ := hval
  obtain ⟨fuel, hf⟩ := hd
  obtain ⟨o, ho, hw⟩ := op_cells hf
  refine ⟨o, ?_, hw⟩
  obtain ⟨l, hcl⟩ : ∃ l, cs = l.toArray := ⟨cs.toList, by simp⟩
  subst hcl
  have e : l = opC o := by simpa [Value.cells] using ho
  subst e
  rfl

end

end Go.Proofs.Ytnmdfdkagkpcaaa

/-
  A slice of deeds that came in reads as deeds. Conditions: it can be read as data.
-/
namespace Go.Proofs.Ytnmdfdkagkpcaaa
open Go.RowKit
open Go.Proofs
open Go.ChangeShapes Go.WideShapes Go.Deep
open WoolVol

section
variable {H : Type} {enc : TypeId × Value → H} {w : World} {base : Nat} {spare : Nat → Bool} {held : Bool}

theorem open_ops {fuel : Nat} {cs : List Value} {x : DataW H × List MemPlace} (h : DataW.trod enc Try.prog w base (fun _ => true) held fuel 22 cs = some x) :
    ∃ (o : Option Addr) (len cap : Nat) (l : List Opn), cs = [.slice o len cap] ∧ Ops w (.slice o len cap) l := by
  obtain ⟨o, len, cap, l, h1, h2, h3, h4⟩ := open_rowT opC OpWf opC_len (by omega) Try.underlying22 cellsOp (fun n cs y hy => op_cells hy) h
  exact ⟨o, len, cap, l, h1, h3, h4⟩

/-- how many places were read -/
theorem ops_data {fuel : Nat} {cs : List Value} {x : DataW H × List MemPlace} (h : DataW.trod enc Try.prog w base (fun _ => true) held fuel 22 cs = some x) :
    ∃ (o : Option Addr) (len cap : Nat), cs = [.slice o len cap] ∧ (cap = 0 ∨ ∃ es sp, x.1 = .slice es sp ∧ es.length + sp.length = cap) := by
  rcases open_slice Try.underlying22 h with ⟨rfl, _⟩ | ⟨a, len, cap, m, n, D, Pl, rfl, _, hl, hm, hmm, hx, hi⟩
  · exact ⟨none, 0, 0, rfl, .inl rfl⟩
  · rw [if_pos rfl] at hmm
    refine ⟨some a, len, cap, rfl, .inr ⟨_, _, congrArg Prod.fst hx, ?_⟩⟩
    rw [List.length_map, List.length_map, List.length_range, List.length_range, hmm]
    omega

end

end Go.Proofs.Ytnmdfdkagkpcaaa

/-
  What vol's isNameByte and Name return. Conditions: as each says.
-/
namespace Go.Proofs.Ytnmdfdkagkpcaaa
open Go.RowKit
open Go.Proofs
open WoolBag
open WoolVol

theorem isName_any (c : UInt8) (w : World) : Calls Try.prog 82 #[.int .u8 ((c.toNat : Nat) : Int)] w fun e w' => e = .returned (.bool (nbB c)) ∧ w = w' := by
  have hv : nbB c = ((decide (97 ≤ c.toNat) && decide (c.toNat ≤ 122)) || (decide (48 ≤ c.toNat) && decide (c.toNat ≤ 57))) := rfl
  rw [hv]
  generalize c.toNat = z
  clear hv
  by_cases h1 : 97 ≤ z
  · by_cases h2 : z ≤ 122
    · go_enter Try.func82, Try.ntmps82
      go_wp2
      go_ret
      first | (simp; done) | (simp; constructor <;> omega) | (simp; omega)
    · by_cases h3 : 48 ≤ z
      · by_cases h4 : z ≤ 57
        · omega
        · have e : ((decide (97 ≤ z) && decide (z ≤ 122)) || (decide (48 ≤ z) && decide (z ≤ 57))) = false := by simp [h2, h4]
          rw [e]
          have d1 : decide ((z : Int) ≤ 57) = false := decide_eq_false (by omega)
          have d2 : decide ((z : Int) ≤ 122) = false := decide_eq_false (by omega)
          clear e
          go_enter Try.func82, Try.ntmps82
          go_wp2
          go_ret
          exact ⟨rfl, rfl⟩
      · omega
  · by_cases h3 : 48 ≤ z
    · by_cases h4 : z ≤ 57
      · go_enter Try.func82, Try.ntmps82
        go_wp2
        go_ret
        first | (simp; done) | (simp; constructor <;> omega) | (simp; omega)
      · go_enter Try.func82, Try.ntmps82
        go_wp2
        go_ret
        first | (simp; done) | (simp; constructor <;> omega) | (simp; omega)
    · go_enter Try.func82, Try.ntmps82
      go_wp2
      go_ret
      first | (simp; done) | (simp; constructor <;> omega) | (simp; omega)

def NameRel (s : List UInt8) (w : World) (i : Value) (wr : World) : Prop := ∃ k : Nat, k ≤ s.length ∧ i = .int .i64 k ∧ w = wr ∧ (s.take k).all nbB = true

set_option maxHeartbeats 400000 in
theorem name_any (s : List UInt8) (w : World) (hs : s.length ≤ 9223372036854775807) : Calls Try.prog 63 #[.string (bs s)] w fun e w' => e = .returned (.bool (nameB s)) ∧ w = w' := by
  have hsz := bs_size s
  by_cases h1 : s.length < 1
  · have hv : nameB s = false := by unfold nameB; simp; omega
    rw [hv]
    obtain ⟨n, hn⟩ : ∃ n, s.length = n := ⟨_, rfl⟩
    rw [hn] at hsz h1
    clear hn hv
    go_enter Try.func63, Try.ntmps63
    go_wp2
    go_ret
    exact ⟨rfl, rfl⟩
  by_cases h2 : 12 < s.length
  · have hv : nameB s = false := by unfold nameB; simp; omega
    rw [hv]
    obtain ⟨n, hn⟩ : ∃ n, s.length = n := ⟨_, rfl⟩
    rw [hn] at hsz h1 h2
    clear hn hv
    go_enter Try.func63, Try.ntmps63
    go_wp2
    go_ret
    exact ⟨rfl, rfl⟩
  have hv : nameB s = s.all nbB := by
    unfold nameB
    rw [decide_eq_true (by omega), decide_eq_true (by omega)]; simp
  rw [hv]
  clear hv
  obtain ⟨n, hn⟩ : ∃ n, s.length = n := ⟨_, rfl⟩
  have HN := Lib.hid hn
  rw [hn] at hsz h1 h2 hs
  clear hn
  go_enter Try.func63, Try.ntmps63
  go_wp2_with fail
  go_loopw [14] (fun i wr => NameRel s w i wr) (fun i _ => n - (intOf i).toNat)
  case atStart => exact ⟨0, Nat.zero_le _, rfl, rfl, rfl⟩
  case round =>
    obtain ⟨k, hk, rfl, rfl, hall⟩ := hrel
    rw [HN.out] at hk
    by_cases hlt : k < n
    · have hkl : k < s.length := by rw [HN.out]; exact hlt
      have hi := index_bs s k hkl
      have hst : (s.take (k + 1)).all nbB = nbB s[k] := by
        rw [List.take_succ_eq_append_getElem hkl, List.all_append, hall]; simp
      have hno : nbB s[k] = false → s.all nbB = false := by
        intro h
        cases ha : s.all nbB with
        | false => rfl
        | true => rw [List.all_eq_true] at ha; rw [ha _ (List.getElem_mem hkl)] at h; cases h
      have HST := Lib.hid hst
      have HNO := Lib.hid hno
      have HC := Lib.hid (fun W => isName_any s[k] W)
      clear hst hno hall
      generalize nbB s[k] = bb at *
      generalize (s[k].toNat : Nat) = z at *
      cases bb with
      | false =>
        have HF := Lib.hid (HNO.out rfl)
        go_wp2_with fail
        refine (HC.out _).mono ?_
        rintro e w1 ⟨rfl, rfl⟩
        go_wp2_with fail
        go_ret
        exact ⟨by rw [HF.out]; rfl, rfl⟩
      | true =>
        go_wp2_with fail
        refine (HC.out _).mono ?_
        rintro e w1 ⟨rfl, rfl⟩
        go_wp2_with fail
        go_roundw
        case rel => exact ⟨k + 1, by rw [HN.out]; omega, by go_num, rfl, HST.out⟩
        case measure => simp only [intOf]; omega
    · have hte : s.take k = s := List.take_of_length_le (by rw [HN.out]; omega)
      rw [hte] at hall
      have HF := Lib.hid hall
      clear hall hte
      go_wp2_with fail
      go_ret
      exact ⟨by rw [HF.out]; rfl, rfl⟩

end Go.Proofs.Ytnmdfdkagkpcaaa

/-
  What package log's hasUnused and Check return. Conditions: a deed that a call can be handed.
-/
namespace Go.Proofs.Ytnmdfdkagkpcaaa
open Go.RowKit
open Go.Proofs
open WoolBag
open WoolVol

theorem empty_txt : (bs []).toList = [] := by rw [ByteArray.toList_eq, bs_list]

theorem bs_isEmpty (l : List UInt8) : (bs l).toList.isEmpty = l.isEmpty := by
  rw [ByteArray.toList_eq, bs_list]

/-- has a deed what its kind makes no use of? -/
def unB (o : Opn) : Bool := (!o.to.isEmpty && o.kd != 5) || ((!o.tx.isEmpty && o.kd != 3) || (o.pl != 0 && (o.kd == 2 || o.kd == 5)))

theorem chk_un (o : Opn) : chkO o = if o.kd < 1 ∨ 5 < o.kd then 1 else if nameB o.nm = false ∨ (o.kd = 5 ∧ nameB o.to = false) then 3 else if o.pl < 0 ∨ 32 < o.pl then 1 else if 64 < o.tx.length then 2 else if unB o = true then 3 else 0 := by
  have e : ((o.kd ≠ 5 ∧ o.to ≠ []) ∨ (o.kd ≠ 3 ∧ o.tx ≠ []) ∨ ((o.kd = 2 ∨ o.kd = 5) ∧ o.pl ≠ 0)) ↔ unB o = true := by
    unfold unB
    simp only [Bool.or_eq_true, Bool.and_eq_true, Bool.not_eq_true', List.isEmpty_eq_false_iff, bne_iff_ne, beq_iff_eq]
    constructor
    · rintro (⟨h1, h2⟩ | ⟨h1, h2⟩ | ⟨h1, h2⟩)
      · exact .inl ⟨h2, h1⟩
      · exact .inr (.inl ⟨h2, h1⟩)
      · exact .inr (.inr ⟨h2, h1⟩)
    · rintro (⟨h1, h2⟩ | ⟨h1, h2⟩ | ⟨h1, h2⟩)
      · exact .inl ⟨h2, h1⟩
      · exact .inr (.inl ⟨h2, h1⟩)
      · exact .inr (.inr ⟨h2, h1⟩)
  unfold chkO
  simp only [e]

theorem chkO_kd {o : Opn} (h : chkO o = 0) : 1 ≤ o.kd ∧ o.kd ≤ 5 := by
  unfold chkO at h
  by_cases h1 : o.kd < 1 ∨ 5 < o.kd
  · rw [if_pos h1] at h; cases h
  · omega

theorem text_cases (l : List UInt8) : (l = [] ∧ l.isEmpty = true) ∨ (0 < l.length ∧ l.isEmpty = false) := by
  cases l with
  | nil => exact .inl ⟨rfl, rfl⟩
  | cons _ _ => exact .inr ⟨by simp, rfl⟩

set_option maxRecDepth 100000 in
set_option maxHeartbeats 2000000 in
theorem hasUn_any (o : Opn) (w : World) : Calls Try.prog 75 #[opA o] w fun e w' => e = .returned (.bool (unB o)) ∧ Up w w' := by
  obtain ⟨kd, nm, ot, pl, tx⟩ := o
  unfold opA unB
  simp only
  have e1 := bs_isEmpty ot
  have e2 := bs_isEmpty tx
  have n1 : ∀ S : ByteArray, S.toList.isEmpty = true → S.toList = [] := fun S h => by simpa using h
  generalize ot.isEmpty = b1 at *
  generalize tx.isEmpty = b2 at *
  generalize bs nm = N
  generalize bs ot = S at *
  generalize bs tx = T at *
  cases b1 <;> cases b2
  · clear n1
    go_enter Try.func75, Try.ntmps75
    go_wp2_with fail
    all_goals (go_ret; refine ⟨?_, Up.alloc _ _⟩; first | (simp; done) | (simp; omega) | (simp_all; done) | (simp_all; omega))
  · have f2 := n1 T e2; clear n1
    go_enter Try.func75, Try.ntmps75
    go_wp2_with fail
    all_goals (go_ret; refine ⟨?_, Up.alloc _ _⟩; first | (simp; done) | (simp; omega) | (simp_all; done) | (simp_all; omega))
  · have f1 := n1 S e1; clear n1
    go_enter Try.func75, Try.ntmps75
    go_wp2_with fail
    all_goals (go_ret; refine ⟨?_, Up.alloc _ _⟩; first | (simp; done) | (simp; omega) | (simp_all; done) | (simp_all; omega))
  · have f1 := n1 S e1; have f2 := n1 T e2; clear n1
    go_enter Try.func75, Try.ntmps75
    go_wp2_with fail
    all_goals (go_ret; refine ⟨?_, Up.alloc _ _⟩; first | (simp; done) | (simp; omega) | (simp_all; done) | (simp_all; omega))

set_option maxRecDepth 100000 in
set_option maxHeartbeats 2000000 in
theorem checkO_any (o : Opn) (w : World) (ho : OpWf o) : Calls Try.prog 51 #[opA o] w fun e w' => e = .returned (.int .i64 (chkO o)) ∧ Up w w' := by
  have HU := Lib.hid (fun W => hasUn_any o W)
  have HN := Lib.hid (fun W => name_any o.nm W ho.2.1)
  have HT := Lib.hid (fun W => name_any o.to W ho.2.2.1)
  have hsz := bs_size o.tx
  have hl := ho.2.2.2.2
  obtain ⟨R, hR⟩ : ∃ R, chkO o = R := ⟨_, rfl⟩
  rw [hR]
  rw [chk_un] at hR
  clear ho
  unfold opA at *
  obtain ⟨kd, nm, ot, pl, tx⟩ := o
  simp only at *
  generalize unB ⟨kd, nm, ot, pl, tx⟩ = UB at *
  generalize nameB nm = NB at *
  generalize nameB ot = TB at *
  generalize tx.length = L at *
  generalize bs nm = N at *
  generalize bs ot = S at *
  generalize bs tx = T at *
  by_cases h1 : kd < 1 ∨ 5 < kd
  · rw [if_pos h1] at hR
    subst hR
    go_enter Try.func51, Try.ntmps51
    go_wp2_with fail
    all_goals first | omega | (go_ret; exact ⟨rfl, Up.alloc _ _⟩) | done
  rw [if_neg h1] at hR
  have k1 : decide (kd < 1) = false := decide_eq_false (by omega)
  have k2 : decide (5 < kd) = false := decide_eq_false (by omega)
  cases NB with
  | false =>
    rw [if_pos (.inl rfl)] at hR
    subst hR
    go_enter Try.func51, Try.ntmps51
    go_wp2_with fail
    refine (HN.out _).mono ?_
    rintro e w1 ⟨rfl, rfl⟩
    go_wp2_with fail
    go_ret
    exact ⟨rfl, Up.alloc _ _⟩
  | true =>
    by_cases h5 : kd = 5
    · subst h5
      cases TB with
      | false =>
        rw [if_pos (.inr ⟨rfl, rfl⟩)] at hR
        subst hR
        go_enter Try.func51, Try.ntmps51
        go_wp2_with fail
        refine (HN.out _).mono ?_
        rintro e w1 ⟨rfl, rfl⟩
        go_wp2_with fail
        refine (HT.out _).mono ?_
        rintro e w1 ⟨rfl, rfl⟩
        go_wp2_with fail
        go_ret
        exact ⟨rfl, Up.alloc _ _⟩
      | true =>
        rw [if_neg (by simp)] at hR
        by_cases h6 : pl < 0 ∨ 32 < pl
        · rw [if_pos h6] at hR
          subst hR
          go_enter Try.func51, Try.ntmps51
          go_wp2_with fail
          refine (HN.out _).mono ?_
          rintro e w1 ⟨rfl, rfl⟩
          go_wp2_with fail
          refine (HT.out _).mono ?_
          rintro e w1 ⟨rfl, rfl⟩
          go_wp2_with fail
          all_goals first | omega | (go_ret; exact ⟨rfl, Up.alloc _ _⟩) | done
        rw [if_neg h6] at hR
        have k3 : decide (pl < 0) = false := decide_eq_false (by omega)
        have k4 : decide (32 < pl) = false := decide_eq_false (by omega)
        by_cases h7 : 64 < L
        · rw [if_pos h7] at hR
          subst hR
          go_enter Try.func51, Try.ntmps51
          go_wp2_with fail
          refine (HN.out _).mono ?_
          rintro e w1 ⟨rfl, rfl⟩
          go_wp2_with fail
          refine (HT.out _).mono ?_
          rintro e w1 ⟨rfl, rfl⟩
          go_wp2_with fail
          all_goals first | omega | (go_ret; exact ⟨rfl, Up.alloc _ _⟩) | done
        rw [if_neg h7] at hR
        have k5 : decide (64 < (L : Int)) = false := decide_eq_false (by omega)
        go_enter Try.func51, Try.ntmps51
        go_wp2_with fail
        refine (HN.out _).mono ?_
        rintro e w1 ⟨rfl, rfl⟩
        go_wp2_with fail
        refine (HT.out _).mono ?_
        rintro e w1 ⟨rfl, rfl⟩
        go_wp2_with fail
        refine (HU.out _).mono ?_
        rintro e w1 ⟨rfl, u1⟩
        have HV := Lib.hid ((Up.alloc w (.cells #[.int .i64 5, .string N, .string S, .int .i64 pl, .string T] 44)).trans u1)
        have HR := Lib.hid hR
        clear hR
        cases UB <;> (go_wp2_with fail; go_ret; exact ⟨by rw [← HR.out]; rfl, HV.out⟩)
    · have hne : (kd == 5) = false := by rw [beq_eq_false_iff_ne]; exact h5
      rw [if_neg (by simp [h5])] at hR
      by_cases h6 : pl < 0 ∨ 32 < pl
      · rw [if_pos h6] at hR
        subst hR
        go_enter Try.func51, Try.ntmps51
        go_wp2_with fail
        refine (HN.out _).mono ?_
        rintro e w1 ⟨rfl, rfl⟩
        go_wp2_with fail
        all_goals first | omega | (go_ret; exact ⟨rfl, Up.alloc _ _⟩) | done
      rw [if_neg h6] at hR
      have k3 : decide (pl < 0) = false := decide_eq_false (by omega)
      have k4 : decide (32 < pl) = false := decide_eq_false (by omega)
      by_cases h7 : 64 < L
      · rw [if_pos h7] at hR
        subst hR
        go_enter Try.func51, Try.ntmps51
        go_wp2_with fail
        refine (HN.out _).mono ?_
        rintro e w1 ⟨rfl, rfl⟩
        go_wp2_with fail
        all_goals first | omega | (go_ret; exact ⟨rfl, Up.alloc _ _⟩) | done
      rw [if_neg h7] at hR
      have k5 : decide (64 < (L : Int)) = false := decide_eq_false (by omega)
      go_enter Try.func51, Try.ntmps51
      go_wp2_with fail
      refine (HN.out _).mono ?_
      rintro e w1 ⟨rfl, rfl⟩
      go_wp2_with fail
      refine (HU.out _).mono ?_
      rintro e w1 ⟨rfl, u1⟩
      have HV := Lib.hid ((Up.alloc w (.cells #[.int .i64 kd, .string N, .string S, .int .i64 pl, .string T] 44)).trans u1)
      have HR := Lib.hid hR
      clear hR
      cases UB <;> (go_wp2_with fail; go_ret; exact ⟨by rw [← HR.out]; rfl, HV.out⟩)

end Go.Proofs.Ytnmdfdkagkpcaaa
