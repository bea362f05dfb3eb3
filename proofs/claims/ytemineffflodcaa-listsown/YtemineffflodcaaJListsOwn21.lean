/-
  Pieces of slices of texts and of steps; what Verify of package tree returns. Conditions: as each says.
-/
import Derived.Test.YtemineffflodcaaJListsOwn20
namespace Go.Proofs.Ytemineffflodcaa
open Go.RowKit
open Go.Proofs
open WoolTree

/-! ytemineffflodcaa# pieces -/

theorem add_offT (b off k : Nat) : (⟨b, off, none⟩ : Addr).add k = ⟨b, off + k, none⟩ := by
  unfold Addr.add
  split
  · rename_i e; subst e; rfl
  · rfl

theorem Txs.len {w : World} {o : Option Addr} {n c : Nat} {l : List (List UInt8)} (h : Txs w (.slice o n c) l) : n = l.length ∧ l.length ≤ c := by
  obtain ⟨o', c', e, h1, _⟩ := h.slice
  simp only [Value.slice.injEq] at e
  obtain ⟨_, rfl, rfl⟩ := e
  exact ⟨rfl, h1⟩

theorem Stps.len {w : World} {o : Option Addr} {n c : Nat} {l : List (Bool × Int)} (h : Stps w (.slice o n c) l) : n = l.length ∧ l.length ≤ c := by
  obtain ⟨o', c', e, h1, _⟩ := h.slice
  simp only [Value.slice.injEq] at e
  obtain ⟨_, rfl, rfl⟩ := e
  exact ⟨rfl, h1⟩

theorem size_str (W : World) : (sizeOf 9).run Try.prog W = .ok 1 W := by
  obtain ⟨i, hi, _, hz1, _⟩ := info_parts (show (Try.prog.info? 9).map (fun i => (i.zero, i.size, i.bytes)) = some (some (.string ⟨#[]⟩), 1, 16) by kernel_rfl)
  simp [sizeOf, typeInfo, hi, hz1]

theorem size_step (W : World) : (sizeOf 52).run Try.prog W = .ok 2 W := by
  obtain ⟨i, hi, _, hz1, _⟩ := info_parts stInfo
  simp [sizeOf, typeInfo, hi, hz1]

/-- a piece of a slice of texts -/
theorem Txs.sub {w : World} {o : Option Addr} {n c : Nat} {l : List (List UInt8)} (h : Txs w (.slice o n c) l) (a b : Nat) (hab : a ≤ b) (hb : b ≤ l.length) : Txs w (.slice (if c = a then o else o.map (·.add (a * 1))) (b - a) (c - a)) ((l.take b).drop a) := by
  obtain ⟨h0, o', c', e, h2, h3, h4⟩ := h
  simp only [Value.slice.injEq] at e
  obtain ⟨rfl, rfl, rfl⟩ := e
  have hlen : ((l.take b).drop a).length = b - a := by rw [List.length_drop, List.length_take]; omega
  refine ⟨by rw [fl_length txC_len], _, c - a, by rw [hlen], by omega, by unfold maxLen at *; omega, ?_⟩
  by_cases hz : b = a
  · left; omega
  · right
    rcases h4 with h4 | ⟨g, off, rfl, h6⟩
    · omega
    · refine ⟨g, off + a, ?_, fun j u hj => ?_⟩
      · rw [if_neg (by omega), Nat.mul_one, Option.map_some, add_offT]
      · rw [fl_drop txC_len, List.getElem?_drop, fl_take txC_len, List.getElem?_take] at hj
        split at hj
        · rw [Nat.mul_one] at hj
          rw [Nat.add_assoc]
          exact h6 _ u hj
        · cases hj

set_option maxRecDepth 100000 in
/-- the texts from a place on, cut off -/
theorem Txs.from {w : World} {o : Option Addr} {n c : Nat} {l : List (List UInt8)} (h : Txs w (.slice o n c) l) (a : Nat) (ha : a ≤ l.length) :
    ∃ o', (∀ W, (Instr.slice 23 (.slice o n c) (some (.int .i64 (a : Int))) none none).run Try.prog W = .ok (.slice o' (l.length - a) (c - a)) W) ∧ Txs w (.slice o' (l.length - a) (c - a)) (l.drop a) := by
  obtain ⟨rfl, hc⟩ := h.len
  have := h.sub a l.length ha (Nat.le_refl _)
  rw [List.take_length] at this
  refine ⟨_, fun W => ?_, this⟩
  rw [run_slice_l W 23 o l.length c Try.underlying23 .i64 (a : Int) (by omega) (by omega)]
  rw [show Try.prog.elem 23 = 9 from by kernel_rfl, size_str]
  rfl

set_option maxRecDepth 100000 in
/-- the texts ahead of a place, cut off -/
theorem Txs.upto {w : World} {o : Option Addr} {n c : Nat} {l : List (List UInt8)} (h : Txs w (.slice o n c) l) (b : Nat) (hb : b ≤ l.length) :
    ∃ o', (∀ W, (Instr.slice 23 (.slice o n c) none (some (.int .i64 (b : Int))) none).run Try.prog W = .ok (.slice o' b c) W) ∧ Txs w (.slice o' b c) (l.take b) := by
  obtain ⟨rfl, hc⟩ := h.len
  have := h.sub 0 b (Nat.zero_le _) hb
  rw [List.drop_zero, Nat.sub_zero, Nat.sub_zero] at this
  refine ⟨_, fun W => ?_, this⟩
  rw [run_slice_h W 23 o l.length c Try.underlying23 .i64 (b : Int) (by omega) (by omega)]
  rw [show Try.prog.elem 23 = 9 from by kernel_rfl, size_str]
  rfl

set_option maxRecDepth 100000 in
/-- the texts between two places, cut off -/
theorem Txs.between {w : World} {o : Option Addr} {n c : Nat} {l : List (List UInt8)} (h : Txs w (.slice o n c) l) (a b : Nat) (hab : a ≤ b) (hb : b ≤ l.length) :
    ∃ o', (∀ W, (Instr.slice 23 (.slice o n c) (some (.int .i64 (a : Int))) (some (.int .i64 (b : Int))) none).run Try.prog W = .ok (.slice o' (b - a) (c - a)) W) ∧ Txs w (.slice o' (b - a) (c - a)) ((l.take b).drop a) := by
  obtain ⟨rfl, hc⟩ := h.len
  have := h.sub a b hab hb
  refine ⟨_, fun W => ?_, this⟩
  rw [run_slice_lh W 23 o l.length c Try.underlying23 .i64 .i64 (a : Int) (b : Int) (by omega) (by omega) (by omega)]
  rw [show Try.prog.elem 23 = 9 from by kernel_rfl, size_str]
  rfl

set_option maxRecDepth 100000 in
/-- the steps behind the first, cut off -/
theorem Stps.behind {w : World} {o : Option Addr} {n c : Nat} {s : Bool × Int} {l : List (Bool × Int)} (h : Stps w (.slice o n c) (s :: l)) :
    ∃ o', (∀ W, (Instr.slice 37 (.slice o n c) (some (.int .i64 1)) none none).run Try.prog W = .ok (.slice o' l.length (c - 1)) W) ∧ Stps w (.slice o' l.length (c - 1)) l := by
  obtain ⟨rfl, hc⟩ := h.len
  have hc1 : l.length + 1 ≤ c := by simpa using hc
  refine ⟨if c = 1 then o else o.map (·.add (1 * 2)), fun W => ?_, ?_⟩
  · rw [run_slice_l W 37 o (s :: l).length c Try.underlying37 .i64 1 (by omega) (by rw [List.length_cons]; omega)]
    rw [show Try.prog.elem 37 = 52 from by kernel_rfl, size_step]
    rfl
  · by_cases hc' : c = 1
    · have hl : l = [] := List.eq_nil_of_length_eq_zero (by omega)
      subst hl
      obtain ⟨_, _, _, _, _, h3, _⟩ := h
      exact ⟨rfl, _, c - 1, rfl, Nat.zero_le _, by unfold maxLen; omega, .inl rfl⟩
    · rw [if_neg hc']
      obtain ⟨b, off, rfl, _⟩ := h.at (by simp)
      rw [Option.map_some, add_offT]
      exact h.tail

/-! ytemineffflodcaa# Verify -/

def verE (n i : Int) (s : List UInt8) : Int := if n < 1 ∨ 32 < n ∨ i < 0 ∨ n ≤ i then 1 else if 64 < s.length then 2 else 0
def verV (root n i : Int) (s : List UInt8) (p : List (Bool × Int)) : Bool := if verE n i s = 0 then vf TH 5 n.toNat i.toNat (TH (lf s)) p root else false

def VrRel (r : Int) (V : Bool) (w : World) (n i pr x : Value) (wr : World) : Prop :=
  ∃ (k N I X : Nat) (p : List (Bool × Int)), n = .int .i64 (N : Int) ∧ i = .int .i64 (I : Int) ∧ x = .int .i64 (X : Int) ∧ Stps wr pr p ∧ I < N ∧ N ≤ 32 ∧ N ≤ 2 ^ k ∧ X < 4294967296 ∧ vf TH k N I X p r = V ∧ Up w wr

theorem clm_lt (x : Nat) (s : Bool × Int) : clm TH x s < 4294967296 := by rw [clm_nx]; have := TH_lt (nx x s); omega

end Go.Proofs.Ytemineffflodcaa
