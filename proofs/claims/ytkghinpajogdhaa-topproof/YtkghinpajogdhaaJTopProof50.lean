/-
  The texts TreeE, TreeF, LawTree1, one behind the other; each says below what it holds and on what conditions.
-/
import Derived.Test.YtkghinpajogdhaaJTopProof49
import Derived.Test.YtkghinpajogdhaaJTopProof46
import Derived.Test.YtkghinpajogdhaaJTopProof05

/-
  Pieces of slices of texts and of steps; what Verify of package tree returns. Conditions: as each says.
-/
namespace Go.Proofs.Ytkghinpajogdhaa
open Go.RowKit
open Go.Proofs
open WoolTree

/-! ytkghinpajogdhaa# pieces -/

theorem add_offT (b off k : Nat) : (⟨b, off, none⟩ : Addr).add k = ⟨b, off + k, none⟩ := by
  unfold Addr.add
  split
  · rename_i e; subst e; rfl
  · rfl

theorem Txs.len {w : World} {o : Option Addr} {n c : Nat} {l : List (List UInt8)} (h : Txs w (.slice o n c) l) : n = l.length ∧ l.length ≤ c := by
  obtain ⟨o', c', e, h1, _⟩ := h.slice
  simp only [Value.slice.injEq] at e
  obtain ⟨_, rfl, rfl⟩ := e
  exact ⟨rfl, h1⟩

theorem Stps.len {w : World} {o : Option Addr} {n c : Nat} {l : List (Bool × Int)} (h : Stps w (.slice o n c) l) : n = l.length ∧ l.length ≤ c := by
  obtain ⟨o', c', e, h1, _⟩ := h.slice
  simp only [Value.slice.injEq] at e
  obtain ⟨_, rfl, rfl⟩ := e
  exact ⟨rfl, h1⟩

theorem size_str (W : World) : (sizeOf 9).run Try.prog W = .ok 1 W := by
  obtain ⟨i, hi, _, hz1, _⟩ := info_parts (show (Try.prog.info? 9).map (fun i => (i.zero, i.size, i.bytes)) = some (some (.string ⟨#[]⟩), 1, 16) by kernel_rfl)
  simp [sizeOf, typeInfo, hi, hz1]

theorem size_step (W : World) : (sizeOf 68).run Try.prog W = .ok 2 W := by
  obtain ⟨i, hi, _, hz1, _⟩ := info_parts stInfo
  simp [sizeOf, typeInfo, hi, hz1]

/-- a piece of a slice of texts -/
theorem Txs.sub {w : World} {o : Option Addr} {n c : Nat} {l : List (List UInt8)} (h : Txs w (.slice o n c) l) (a b : Nat) (hab : a ≤ b) (hb : b ≤ l.length) : Txs w (.slice (if c = a then o else o.map (·.add (a * 1))) (b - a) (c - a)) ((l.take b).drop a) := by
  obtain ⟨h0, o', c', e, h2, h3, h4⟩ := h
  simp only [Value.slice.injEq] at e
  obtain ⟨rfl, rfl, rfl⟩ := e
  have hlen : ((l.take b).drop a).length = b - a := by rw [List.length_drop, List.length_take]; omega
  refine ⟨by rw [fl_length txC_len], _, c - a, by rw [hlen], by omega, by unfold maxLen at *; omega, ?_⟩
  by_cases hz : b = a
  · left; omega
  · right
    rcases h4 with h4 | ⟨g, off, rfl, h6⟩
    · omega
    · refine ⟨g, off + a, ?_, fun j u hj => ?_⟩
      · rw [if_neg (by omega), Nat.mul_one, Option.map_some, add_offT]
      · rw [fl_drop txC_len, List.getElem?_drop, fl_take txC_len, List.getElem?_take] at hj
        split at hj
        · rw [Nat.mul_one] at hj
          rw [Nat.add_assoc]
          exact h6 _ u hj
        · cases hj

set_option maxRecDepth 100000 in
/-- the texts from a place on, cut off -/
theorem Txs.from {w : World} {o : Option Addr} {n c : Nat} {l : List (List UInt8)} (h : Txs w (.slice o n c) l) (a : Nat) (ha : a ≤ l.length) :
    ∃ o', (∀ W, (Instr.slice 37 (.slice o n c) (some (.int .i64 (a : Int))) none none).run Try.prog W = .ok (.slice o' (l.length - a) (c - a)) W) ∧ Txs w (.slice o' (l.length - a) (c - a)) (l.drop a) := by
  obtain ⟨rfl, hc⟩ := h.len
  have := h.sub a l.length ha (Nat.le_refl _)
  rw [List.take_length] at this
  refine ⟨_, fun W => ?_, this⟩
  rw [run_slice_l W 37 o l.length c Try.underlying37 .i64 (a : Int) (by omega) (by omega)]
  rw [show Try.prog.elem 37 = 9 from by kernel_rfl, size_str]
  rfl

set_option maxRecDepth 100000 in
/-- the texts ahead of a place, cut off -/
theorem Txs.upto {w : World} {o : Option Addr} {n c : Nat} {l : List (List UInt8)} (h : Txs w (.slice o n c) l) (b : Nat) (hb : b ≤ l.length) :
    ∃ o', (∀ W, (Instr.slice 37 (.slice o n c) none (some (.int .i64 (b : Int))) none).run Try.prog W = .ok (.slice o' b c) W) ∧ Txs w (.slice o' b c) (l.take b) := by
  obtain ⟨rfl, hc⟩ := h.len
  have := h.sub 0 b (Nat.zero_le _) hb
  rw [List.drop_zero, Nat.sub_zero, Nat.sub_zero] at this
  refine ⟨_, fun W => ?_, this⟩
  rw [run_slice_h W 37 o l.length c Try.underlying37 .i64 (b : Int) (by omega) (by omega)]
  rw [show Try.prog.elem 37 = 9 from by kernel_rfl, size_str]
  rfl

set_option maxRecDepth 100000 in
/-- the texts between two places, cut off -/
theorem Txs.between {w : World} {o : Option Addr} {n c : Nat} {l : List (List UInt8)} (h : Txs w (.slice o n c) l) (a b : Nat) (hab : a ≤ b) (hb : b ≤ l.length) :
    ∃ o', (∀ W, (Instr.slice 37 (.slice o n c) (some (.int .i64 (a : Int))) (some (.int .i64 (b : Int))) none).run Try.prog W = .ok (.slice o' (b - a) (c - a)) W) ∧ Txs w (.slice o' (b - a) (c - a)) ((l.take b).drop a) := by
  obtain ⟨rfl, hc⟩ := h.len
  have := h.sub a b hab hb
  refine ⟨_, fun W => ?_, this⟩
  rw [run_slice_lh W 37 o l.length c Try.underlying37 .i64 .i64 (a : Int) (b : Int) (by omega) (by omega) (by omega)]
  rw [show Try.prog.elem 37 = 9 from by kernel_rfl, size_str]
  rfl

set_option maxRecDepth 100000 in
/-- the steps behind the first, cut off -/
theorem Stps.behind {w : World} {o : Option Addr} {n c : Nat} {s : Bool × Int} {l : List (Bool × Int)} (h : Stps w (.slice o n c) (s :: l)) :
    ∃ o', (∀ W, (Instr.slice 42 (.slice o n c) (some (.int .i64 1)) none none).run Try.prog W = .ok (.slice o' l.length (c - 1)) W) ∧ Stps w (.slice o' l.length (c - 1)) l := by
  obtain ⟨rfl, hc⟩ := h.len
  have hc1 : l.length + 1 ≤ c := by simpa using hc
  refine ⟨if c = 1 then o else o.map (·.add (1 * 2)), fun W => ?_, ?_⟩
  · rw [run_slice_l W 42 o (s :: l).length c Try.underlying42 .i64 1 (by omega) (by rw [List.length_cons]; omega)]
    rw [show Try.prog.elem 42 = 68 from by kernel_rfl, size_step]
    rfl
  · by_cases hc' : c = 1
    · have hl : l = [] := List.eq_nil_of_length_eq_zero (by omega)
      subst hl
      obtain ⟨_, _, _, _, _, h3, _⟩ := h
      exact ⟨rfl, _, c - 1, rfl, Nat.zero_le _, by unfold maxLen; omega, .inl rfl⟩
    · rw [if_neg hc']
      obtain ⟨b, off, rfl, _⟩ := h.at (by simp)
      rw [Option.map_some, add_offT]
      exact h.tail

/-! ytkghinpajogdhaa# Verify -/

def verE (n i : Int) (s : List UInt8) : Int := if n < 1 ∨ 32 < n ∨ i < 0 ∨ n ≤ i then 1 else if 64 < s.length then 2 else 0
def verV (root n i : Int) (s : List UInt8) (p : List (Bool × Int)) : Bool := if verE n i s = 0 then vf TH 5 n.toNat i.toNat (TH (lf s)) p root else false

def VrRel (r : Int) (V : Bool) (w : World) (n i pr x : Value) (wr : World) : Prop :=
  ∃ (k N I X : Nat) (p : List (Bool × Int)), n = .int .i64 (N : Int) ∧ i = .int .i64 (I : Int) ∧ x = .int .i64 (X : Int) ∧ Stps wr pr p ∧ I < N ∧ N ≤ 32 ∧ N ≤ 2 ^ k ∧ X < 4294967296 ∧ vf TH k N I X p r = V ∧ Up w wr

theorem clm_lt (x : Nat) (s : Bool × Int) : clm TH x s < 4294967296 := by rw [clm_nx]; have := TH_lt (nx x s); omega

set_option maxRecDepth 100000 in
set_option maxHeartbeats 1000000 in
theorem verify_ok (r : Int) (n i : Nat) (s : List UInt8) (v : Value) (p : List (Bool × Int)) (w : World) (h : Stps w v p) (hi : i < n) (hn : n ≤ 32) (hs : s.length ≤ 64) :
    Calls Try.prog 10 #[.int .i64 r, .int .i64 (n : Int), .int .i64 (i : Int), .string (bs s), v] w fun e w' => e = .returned (.tuple #[.bool (vf TH 5 n i (TH (lf s)) p r), .int .i64 0]) ∧ Up w w' := by
  obtain ⟨V, hV⟩ : ∃ V, vf TH 5 n i (TH (lf s)) p r = V := ⟨_, rfl⟩
  rw [hV]
  have HV := Lib.hid hV
  have HST := Lib.hid h
  obtain ⟨o, c, rfl, _, _⟩ := h.slice
  obtain ⟨m, hm⟩ : ∃ m, p.length = m := ⟨_, rfl⟩
  rw [hm] at HST ⊢
  have d1 : decide ((n : Int) < 1) = false := decide_eq_false (by omega)
  have d2 : decide ((n : Int) > 32) = false := decide_eq_false (by omega)
  have d2' : decide (32 < (n : Int)) = false := decide_eq_false (by omega)
  have d3 : decide ((i : Int) < 0) = false := decide_eq_false (by omega)
  have d4 : decide ((i : Int) ≥ (n : Int)) = false := decide_eq_false (by omega)
  have d4' : decide (n ≤ i) = false := decide_eq_false (by omega)
  have HTL := Lib.hid (fun W => tooLong_any s W)
  rw [show decide (64 < s.length) = false from decide_eq_false (by omega)] at HTL
  have HLF := Lib.hid (fun W => leaf_any s W (by omega))
  have HH := Lib.hid (fun W => hash_any (lf s) W (by unfold lf; rw [List.length_cons]; omega))
  have hx := TH_lt (lf s)
  have hx2 : TH (lf s) < 4294967296 := by omega
  generalize TH (lf s) = X at *
  generalize lf s = P at *
  clear h hV hm hx
  go_enter Try.func10, Try.ntmps10
  go_wp2_with fail
  refine (HTL.out _).mono ?_
  rintro e w1 ⟨rfl, rfl⟩
  go_wp2_with fail
  refine (HLF.out _).mono ?_
  rintro e w1 ⟨rfl, rfl⟩
  go_wp2_with fail
  refine (HH.out _).mono ?_
  rintro e w1 ⟨rfl, u1⟩
  have HU1 := Lib.hid u1
  clear u1
  go_wp2_with fail
  go_loopw [1, 2, 4, 12] (fun n i pr x wr => VrRel r V w n i pr x wr) (fun n _ _ _ _ => (intOf n).toNat)
  case atStart => exact ⟨5, n, i, X, p, rfl, rfl, rfl, HST.out.up HU1.out, hi, hn, by omega, hx2, HV.out, HU1.out⟩
  case round =>
    obtain ⟨k, N, I, X, p, rfl, rfl, rfl, hst, hI, hN, hk, hX, hv, hu⟩ := hrel
    obtain ⟨o, c, rfl, _, _⟩ := hst.slice
    have HST2 := Lib.hid hst
    have HU2 := Lib.hid hu
    by_cases h1 : 1 < N
    · have d5 : decide ((N : Int) > 1) = true := decide_eq_true (by omega)
      have d6 : decide (1 < (N : Int)) = true := decide_eq_true (by omega)
      obtain ⟨k, rfl⟩ : ∃ k', k = k' + 1 := ⟨k - 1, by cases k with | zero => simp at hk; omega | succ k => rfl⟩
      have hk' : (N + 1) / 2 ≤ 2 ^ k := by rw [Nat.pow_succ] at hk; omega
      have HK := Lib.hid hk'
      have HPR := Lib.hid (fun W => paired_any I N W (by omega))
      have e1 : ((N : Int) + 1) / 2 = (((N + 1) / 2 : Nat) : Int) := by omega
      have e2 : ((N : Int) + 1).tdiv 2 = (((N + 1) / 2 : Nat) : Int) := by rw [Int.tdiv_eq_ediv_of_nonneg (by omega)]; exact e1
      have e3 : (I : Int) / 2 = ((I / 2 : Nat) : Int) := by omega
      have e4 : (I : Int).tdiv 2 = ((I / 2 : Nat) : Int) := by rw [Int.tdiv_eq_ediv_of_nonneg (by omega)]; exact e3
      have hN' : (N + 1) / 2 ≤ 32 := by omega
      have hI' : I / 2 < (N + 1) / 2 := by omega
      have hNN : (N + 1) / 2 < N := by omega
      obtain ⟨N', hN2⟩ : ∃ N', (N + 1) / 2 = N' := ⟨_, rfl⟩
      obtain ⟨I', hI2⟩ : ∃ I', I / 2 = I' := ⟨_, rfl⟩
      by_cases hb : bes I < N
      · rw [show decide (bes I < N) = true from decide_eq_true hb] at HPR
        cases p with
        | nil =>
          rw [vf_nil TH _ _ _ _ _ hb] at hv
          subst hv
          clear hk hk' hst hu hb hN2 hI2
          go_wp2_with fail
          refine (HPR.out _).mono ?_
          rintro e w3 ⟨rfl, rfl⟩
          go_wp2_with fail
          go_ret2
          exact ⟨rfl, HU2.out⟩
        | cons st q =>
          rw [vf_cons TH _ _ _ _ _ _ _ hb, hN2, hI2] at hv
          rw [hN2] at e1 e2 hN' hI' hNN HK
          rw [hI2] at e3 e4 hI'
          obtain ⟨b, off, rfl, hat⟩ := hst.at (by simp)
          obtain ⟨q1, q2⟩ := hat 0 (by simp)
          simp only [List.getElem_cons_zero, Nat.zero_mul, Nat.add_zero] at q1 q2
          obtain ⟨o', hrun, hbeh⟩ := hst.behind
          have HBEH := Lib.hid hbeh
          have HFT := Lib.hid (fun W => fits_any st I W (by omega))
          obtain ⟨F, hF⟩ : ∃ F, fit st I = F := ⟨_, rfl⟩
          rw [hF] at hv HFT
          obtain ⟨m, hm⟩ : ∃ m, q.length = m := ⟨_, rfl⟩
          have hml : (st :: q).length = m + 1 := by rw [List.length_cons, hm]
          rw [hml] at hrun ⊢
          rw [hm] at hrun HBEH
          clear hst hu hb hN2 hI2 hk hk' hat hbeh hml hm
          cases F with
          | false =>
            rw [Bool.false_and] at hv
            subst hv
            clear hF
            go_wp2_with fail
            refine (HPR.out _).mono ?_
            rintro e w3 ⟨rfl, rfl⟩
            go_wp2_with fail
            refine (HFT.out _).mono ?_
            rintro e w3 ⟨rfl, u3⟩
            go_wp2_with fail
            go_ret2
            exact ⟨rfl, HU2.out.trans u3⟩
          | true =>
            rw [Bool.true_and] at hv
            have hft : 0 ≤ st.2 ∧ st.2 ≤ 2147483647 := by
              unfold fit at hF
              rw [Bool.and_eq_true, Bool.and_eq_true, decide_eq_true_eq, decide_eq_true_eq] at hF
              exact hF.2
            have HCL := Lib.hid (fun W => climb_any X st W hX hft.1 hft.2)
            have hcl := clm_lt X st
            have HVV := Lib.hid hv
            generalize clm TH X st = Y at *
            clear hF hft hv
            go_wp2_with fail
            refine (HPR.out _).mono ?_
            rintro e w3 ⟨rfl, rfl⟩
            go_wp2_with fail
            refine (HFT.out _).mono ?_
            rintro e w3 ⟨rfl, u3⟩
            have HU3 := Lib.hid (HU2.out.trans u3)
            have q3 := (u3.cell (World.block_lt_of_cell? wr _ q1)).trans q1
            have q4 := (u3.cell (World.block_lt_of_cell? wr _ q2)).trans q2
            have HB3 := Lib.hid (HBEH.out.up u3)
            clear u3 q1 q2
            go_wp2_with fail
            refine (HCL.out _).mono ?_
            rintro e w4 ⟨rfl, u4⟩
            have HU4 := Lib.hid (HU3.out.trans u4)
            have HB4 := Lib.hid (HB3.out.up u4)
            clear u4
            go_wp2_with fail
            go_roundw
            case rel => exact ⟨k, N', I', Y, q, rfl, rfl, rfl, HB4.out, hI', hN', HK.out, hcl, HVV.out, HU4.out⟩
            case measure => simp only [intOf]; omega
      · rw [show decide (bes I < N) = false from decide_eq_false hb] at HPR
        rw [vf_no TH _ _ _ _ _ _ hb, hN2, hI2] at hv
        rw [hN2] at e1 e2 hN' hI' hNN HK
        rw [hI2] at e3 e4 hI'
        have HVV := Lib.hid hv
        clear hv hst hu hb hN2 hI2 hk hk'
        go_wp2_with fail
        refine (HPR.out _).mono ?_
        rintro e w3 ⟨rfl, rfl⟩
        go_wp2_with fail
        go_roundw
        case rel => exact ⟨k, N', I', X, p, rfl, rfl, rfl, HST2.out, hI', hN', HK.out, hX, HVV.out, HU2.out⟩
        case measure => simp only [intOf]; omega
    · have d5 : decide ((N : Int) > 1) = false := decide_eq_false (by omega)
      have d6 : decide (1 < (N : Int)) = false := decide_eq_false (by omega)
      have hN1 : N = 1 := by omega
      subst hN1
      have hI0 : I = 0 := by omega
      subst hI0
      rw [vf_one] at hv
      have hpl : p.isEmpty = ((p.length : Int) == 0) := by cases p with | nil => rfl | cons _ _ => simp; omega
      rw [hpl] at hv
      obtain ⟨m, hm⟩ : ∃ m, p.length = m := ⟨_, rfl⟩
      rw [hm] at hv ⊢
      clear hst hu hk hm hpl
      obtain ⟨b1, hb1⟩ : ∃ b, ((m : Int) == 0) = b := ⟨_, rfl⟩
      obtain ⟨b2, hb2⟩ : ∃ b, ((X : Int) == r) = b := ⟨_, rfl⟩
      rw [hb1, hb2] at hv
      subst hv
      cases b1 <;> cases b2
      all_goals
        go_wp2_with fail
        go_ret2
        exact ⟨rfl, HU2.out⟩

set_option maxRecDepth 100000 in
theorem verify_any (r n i : Int) (s : List UInt8) (v : Value) (p : List (Bool × Int)) (w : World) (h : Stps w v p) :
    Calls Try.prog 10 #[.int .i64 r, .int .i64 n, .int .i64 i, .string (bs s), v] w fun e w' => e = .returned (.tuple #[.bool (verV r n i s p), .int .i64 (verE n i s)]) ∧ Up w w' := by
  by_cases ha : n < 1 ∨ 32 < n ∨ i < 0 ∨ n ≤ i
  · have he : verE n i s = 1 := if_pos ha
    have hv : verV r n i s p = false := by unfold verV; rw [he]; rfl
    rw [he, hv]
    clear he hv h
    by_cases h1 : n < 1
    · have d1 : decide (n < 1) = true := decide_eq_true h1
      clear ha
      go_enter Try.func10, Try.ntmps10
      go_wp2_with fail
      go_ret2
      exact ⟨rfl, Up.refl _⟩
    · have d1 : decide (n < 1) = false := decide_eq_false h1
      by_cases h2 : 32 < n
      · have d2 : decide (32 < n) = true := decide_eq_true h2
        have d2' : decide (n > 32) = true := decide_eq_true h2
        clear ha
        go_enter Try.func10, Try.ntmps10
        go_wp2_with fail
        go_ret2
        exact ⟨rfl, Up.refl _⟩
      · have d2 : decide (32 < n) = false := decide_eq_false h2
        have d2' : decide (n > 32) = false := decide_eq_false h2
        by_cases h3 : i < 0
        · have d3 : decide (i < 0) = true := decide_eq_true h3
          clear ha
          go_enter Try.func10, Try.ntmps10
          go_wp2_with fail
          go_ret2
          exact ⟨rfl, Up.refl _⟩
        · have d3 : decide (i < 0) = false := decide_eq_false h3
          have d4 : decide (n ≤ i) = true := decide_eq_true (by omega)
          have d4' : decide (i ≥ n) = true := decide_eq_true (by omega)
          clear ha
          go_enter Try.func10, Try.ntmps10
          go_wp2_with fail
          go_ret2
          exact ⟨rfl, Up.refl _⟩
  · obtain ⟨N, rfl⟩ := Int.eq_ofNat_of_zero_le (show 0 ≤ n by omega)
    obtain ⟨I, rfl⟩ := Int.eq_ofNat_of_zero_le (show 0 ≤ i by omega)
    by_cases hs : 64 < s.length
    · have he : verE (N : Int) (I : Int) s = 2 := by unfold verE; rw [if_neg ha, if_pos hs]
      have hv : verV r (N : Int) (I : Int) s p = false := by unfold verV; rw [he]; rfl
      rw [he, hv]
      have d1 : decide ((N : Int) < 1) = false := decide_eq_false (by omega)
      have d2 : decide ((N : Int) > 32) = false := decide_eq_false (by omega)
      have d2' : decide (32 < (N : Int)) = false := decide_eq_false (by omega)
      have d3 : decide ((I : Int) < 0) = false := decide_eq_false (by omega)
      have d4 : decide ((I : Int) ≥ (N : Int)) = false := decide_eq_false (by omega)
      have d4' : decide (N ≤ I) = false := decide_eq_false (by omega)
      have HTL := Lib.hid (fun W => tooLong_any s W)
      rw [show decide (64 < s.length) = true from decide_eq_true hs] at HTL
      clear he hv h hs ha
      go_enter Try.func10, Try.ntmps10
      go_wp2_with fail
      refine (HTL.out _).mono ?_
      rintro e w1 ⟨rfl, rfl⟩
      go_wp2_with fail
      go_ret2
      exact ⟨rfl, Up.refl _⟩
    · have he : verE (N : Int) (I : Int) s = 0 := by unfold verE; rw [if_neg ha, if_neg hs]
      have hv : verV r (N : Int) (I : Int) s p = vf TH 5 N I (TH (lf s)) p r := by unfold verV; rw [he, if_pos rfl, Int.toNat_natCast, Int.toNat_natCast]
      rw [he, hv]
      exact verify_ok r N I s v p w h (by omega) (by omega) (by omega)

end Go.Proofs.Ytkghinpajogdhaa

/-
  slices.Equal at texts and at steps; lists of texts written out; what holds of constant trees. Conditions: as each says.
-/
namespace Go.Proofs.Ytkghinpajogdhaa
open Go.RowKit
open Go.Proofs
open WoolTree

theorem Txs.lit (w : World) (l : List (List UInt8)) (n : Nat) (hn : l.length = n) (h : n ≤ 64) : Txs (w.alloc (.cells (fl txC l).toArray 9)) (.slice (some ⟨w.heap.size, 0, none⟩) n n) l := by
  subst hn
  have := World.ownsRow_lit (base := w.heap.size) (e := 9) (size := 1) w (fl txC l).toArray l.length (Nat.le_refl w.heap.size) (by unfold maxLen; omega) (by rw [List.size_toArray, fl_length txC_len])
  exact Sl.of_own this

/-! ytkghinpajogdhaa# constants -/

theorem root_ab : chkT [[97], [98]] = 0 ∧ rootV [[97], [98]] ≠ 0 := by decide +kernel
theorem root_a : chkT [[97]] = 0 ∧ rootV [[97]] ≠ 0 := by decide +kernel

end Go.Proofs.Ytkghinpajogdhaa

/-
  The laws TreeProves and TreeSteps, walked: for every list and all numbers the Go text returns true; nothing that was there turns. Conditions: as each says.
-/
namespace Go.Proofs.Ytkghinpajogdhaa
open Go.RowKit
open Go.Proofs
open WoolTree

theorem prfV_ok {l : List (List UInt8)} {i : Nat} (hE : chkT l = 0) (hi : i < l.length) : prfE l (i : Int) = 0 ∧ prfV l (i : Int) = stI (prf TH (lh TH l) i) := by
  have h : prfE l (i : Int) = 0 := by unfold prfE; rw [if_neg (by rw [hE]; simp), if_neg (by omega)]
  exact ⟨h, by unfold prfV; rw [h, if_pos rfl, Int.toNat_natCast]⟩

theorem proves_plain {l : List (List UInt8)} {i : Nat} (hE : chkT l = 0) (hi : i < l.length) : verE (l.length : Int) (i : Int) l[i] = 0 ∧ verV (rootV l) (l.length : Int) (i : Int) l[i] (prfV l (i : Int)) = true := by
  obtain ⟨h0, h32, hs⟩ := chkT_ok hE
  have hv : verE (l.length : Int) (i : Int) l[i] = 0 := by
    unfold verE
    rw [if_neg (by omega), if_neg (by have := hs l[i] (List.getElem_mem hi); omega)]
  refine ⟨hv, ?_⟩
  unfold verV rootV
  rw [hv, if_pos rfl, if_pos hE, (prfV_ok hE hi).2, Int.toNat_natCast, Int.toNat_natCast]
  have := vf_pf TH (fun s => by have := TH_lt s; omega) 5 (lh TH l) i (by rw [lh_length]; exact hi) (by rw [lh_length]; exact h32) (lh_bound TH _ (fun s => by have := TH_lt s; omega) l)
  rw [lh_length] at this
  have e : (lh TH l).getD i 0 = TH (lf l[i]) := by
    unfold lh
    rw [List.getD_eq_getElem?_getD, List.getElem?_map, List.getElem?_eq_getElem hi]; rfl
  rw [e] at this
  exact this

end Go.Proofs.Ytkghinpajogdhaa
