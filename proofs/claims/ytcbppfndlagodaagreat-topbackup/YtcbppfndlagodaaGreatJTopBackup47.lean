/-
  The texts TreeD, TreeE, TreeF, LawTree2, one behind the other; each says below what it holds and on what conditions.
-/
import Derived.Test.YtcbppfndlagodaaGreatJTopBackup46
import Derived.Test.YtcbppfndlagodaaGreatJTopBackup11

/-
  What Proof of package tree returns. Conditions: as each says.
-/
namespace Go.Proofs.YtcbppfndlagodaaGreat
open Go.RowKit
open Go.Proofs
open WoolTree

theorem cell_two_new (w : World) (x y : Value) (t : TypeId) : ∀ j u, [x, y][j]? = some u → (w.alloc (.cells #[x, y] t)).cell? ((⟨w.heap.size, 0, none⟩ : Addr).add j) = some u := by
  intro j u hj
  have e : (⟨w.heap.size, 0, none⟩ : Addr).add j = ⟨w.heap.size, j, none⟩ := by
    unfold Addr.add
    split
    · rename_i h; subst h; rfl
    · simp
  rw [e, cell_of_row _ _ j _ _ _ (heap_alloc_new w _), ← hj]
  simp

theorem grown_upT {w wr w' : World} {v : Value} {n m : Nat} {xs : List Value} {e : TypeId} (hu : Up w wr) (hown : wr.ownsRow w.heap.size e m v n xs) (hg : wr.grownBy w' v.ownBlock) : Up w w' :=
  Below.grown hu hg hu.size (fun k hk => (World.ownsRow.lt hown k hk).1)

theorem fl_one1 {α : Type} (f : α → List Value) (x : α) : fl f [x] = f x := by show f x ++ [] = f x; simp

/-- an error of Proof -/
def prfE (l : List (List UInt8)) (i : Int) : Int := if chkT l ≠ 0 then chkT l else if i < 0 ∨ (l.length : Int) ≤ i then 1 else 0
/-- the steps of Proof -/
def prfV (l : List (List UInt8)) (i : Int) : List (Bool × Int) := if prfE l i = 0 then stI (prf TH (lh TH l) i.toNat) else []

theorem stI_append (a b : List (Bool × Nat)) : stI (a ++ b) = stI a ++ stI b := List.map_append

theorem pfl_drop (LL : List (List Nat)) (k I : Nat) (h : k < LL.length) : stI (pfl (LL.drop k) I) = (if bes I < LL[k].length then [(I % 2 == 1, ((LL[k].getD (bes I) 0 : Nat) : Int))] else []) ++ stI (pfl (LL.drop (k + 1)) (I / 2)) := by
  rw [List.drop_eq_getElem_cons h, pfl, stI_append]
  split <;> rfl

end Go.Proofs.YtcbppfndlagodaaGreat

/-
  Pieces of slices of texts and of steps; what Verify of package tree returns. Conditions: as each says.
-/
namespace Go.Proofs.YtcbppfndlagodaaGreat
open Go.RowKit
open Go.Proofs
open WoolTree

/-! ytcbppfndlagodaagreat# pieces -/

theorem add_offT (b off k : Nat) : (⟨b, off, none⟩ : Addr).add k = ⟨b, off + k, none⟩ := by
  unfold Addr.add
  split
  · rename_i e; subst e; rfl
  · rfl

theorem Txs.len {w : World} {o : Option Addr} {n c : Nat} {l : List (List UInt8)} (h : Txs w (.slice o n c) l) : n = l.length ∧ l.length ≤ c := by
  obtain ⟨o', c', e, h1, _⟩ := h.slice
  simp only [Value.slice.injEq] at e
  obtain ⟨_, rfl, rfl⟩ := e
  exact ⟨rfl, h1⟩

theorem Stps.len {w : World} {o : Option Addr} {n c : Nat} {l : List (Bool × Int)} (h : Stps w (.slice o n c) l) : n = l.length ∧ l.length ≤ c := by
  obtain ⟨o', c', e, h1, _⟩ := h.slice
  simp only [Value.slice.injEq] at e
  obtain ⟨_, rfl, rfl⟩ := e
  exact ⟨rfl, h1⟩

theorem size_str (W : World) : (sizeOf 9).run Tryz.prog W = .ok 1 W := by
  obtain ⟨i, hi, _, hz1, _⟩ := info_parts (show (Tryz.prog.info? 9).map (fun i => (i.zero, i.size, i.bytes)) = some (some (.string ⟨#[]⟩), 1, 16) by kernel_rfl)
  simp [sizeOf, typeInfo, hi, hz1]

/-- a piece of a slice of texts -/
theorem Txs.sub {w : World} {o : Option Addr} {n c : Nat} {l : List (List UInt8)} (h : Txs w (.slice o n c) l) (a b : Nat) (hab : a ≤ b) (hb : b ≤ l.length) : Txs w (.slice (if c = a then o else o.map (·.add (a * 1))) (b - a) (c - a)) ((l.take b).drop a) := by
  obtain ⟨h0, o', c', e, h2, h3, h4⟩ := h
  simp only [Value.slice.injEq] at e
  obtain ⟨rfl, rfl, rfl⟩ := e
  have hlen : ((l.take b).drop a).length = b - a := by rw [List.length_drop, List.length_take]; omega
  refine ⟨by rw [fl_length txC_len], _, c - a, by rw [hlen], by omega, by unfold maxLen at *; omega, ?_⟩
  by_cases hz : b = a
  · left; omega
  · right
    rcases h4 with h4 | ⟨g, off, rfl, h6⟩
    · omega
    · refine ⟨g, off + a, ?_, fun j u hj => ?_⟩
      · rw [if_neg (by omega), Nat.mul_one, Option.map_some, add_offT]
      · rw [fl_drop txC_len, List.getElem?_drop, fl_take txC_len, List.getElem?_take] at hj
        split at hj
        · rw [Nat.mul_one] at hj
          rw [Nat.add_assoc]
          exact h6 _ u hj
        · cases hj

set_option maxRecDepth 100000 in
/-- the texts from a place on, cut off -/
theorem Txs.from {w : World} {o : Option Addr} {n c : Nat} {l : List (List UInt8)} (h : Txs w (.slice o n c) l) (a : Nat) (ha : a ≤ l.length) :
    ∃ o', (∀ W, (Instr.slice 37 (.slice o n c) (some (.int .i64 (a : Int))) none none).run Tryz.prog W = .ok (.slice o' (l.length - a) (c - a)) W) ∧ Txs w (.slice o' (l.length - a) (c - a)) (l.drop a) := by
  obtain ⟨rfl, hc⟩ := h.len
  have := h.sub a l.length ha (Nat.le_refl _)
  rw [List.take_length] at this
  refine ⟨_, fun W => ?_, this⟩
  rw [run_slice_l W 37 o l.length c Tryz.underlying37 .i64 (a : Int) (by omega) (by omega)]
  rw [show Tryz.prog.elem 37 = 9 from by kernel_rfl, size_str]
  rfl

set_option maxRecDepth 100000 in
/-- the texts ahead of a place, cut off -/
theorem Txs.upto {w : World} {o : Option Addr} {n c : Nat} {l : List (List UInt8)} (h : Txs w (.slice o n c) l) (b : Nat) (hb : b ≤ l.length) :
    ∃ o', (∀ W, (Instr.slice 37 (.slice o n c) none (some (.int .i64 (b : Int))) none).run Tryz.prog W = .ok (.slice o' b c) W) ∧ Txs w (.slice o' b c) (l.take b) := by
  obtain ⟨rfl, hc⟩ := h.len
  have := h.sub 0 b (Nat.zero_le _) hb
  rw [List.drop_zero, Nat.sub_zero, Nat.sub_zero] at this
  refine ⟨_, fun W => ?_, this⟩
  rw [run_slice_h W 37 o l.length c Tryz.underlying37 .i64 (b : Int) (by omega) (by omega)]
  rw [show Tryz.prog.elem 37 = 9 from by kernel_rfl, size_str]
  rfl

set_option maxRecDepth 100000 in
/-- the texts between two places, cut off -/
theorem Txs.between {w : World} {o : Option Addr} {n c : Nat} {l : List (List UInt8)} (h : Txs w (.slice o n c) l) (a b : Nat) (hab : a ≤ b) (hb : b ≤ l.length) :
    ∃ o', (∀ W, (Instr.slice 37 (.slice o n c) (some (.int .i64 (a : Int))) (some (.int .i64 (b : Int))) none).run Tryz.prog W = .ok (.slice o' (b - a) (c - a)) W) ∧ Txs w (.slice o' (b - a) (c - a)) ((l.take b).drop a) := by
  obtain ⟨rfl, hc⟩ := h.len
  have := h.sub a b hab hb
  refine ⟨_, fun W => ?_, this⟩
  rw [run_slice_lh W 37 o l.length c Tryz.underlying37 .i64 .i64 (a : Int) (b : Int) (by omega) (by omega) (by omega)]
  rw [show Tryz.prog.elem 37 = 9 from by kernel_rfl, size_str]
  rfl

/-! ytcbppfndlagodaagreat# Verify -/

def verE (n i : Int) (s : List UInt8) : Int := if n < 1 ∨ 32 < n ∨ i < 0 ∨ n ≤ i then 1 else if 64 < s.length then 2 else 0
def verV (root n i : Int) (s : List UInt8) (p : List (Bool × Int)) : Bool := if verE n i s = 0 then vf TH 5 n.toNat i.toNat (TH (lf s)) p root else false

def VrRel (r : Int) (V : Bool) (w : World) (n i pr x : Value) (wr : World) : Prop :=
  ∃ (k N I X : Nat) (p : List (Bool × Int)), n = .int .i64 (N : Int) ∧ i = .int .i64 (I : Int) ∧ x = .int .i64 (X : Int) ∧ Stps wr pr p ∧ I < N ∧ N ≤ 32 ∧ N ≤ 2 ^ k ∧ X < 4294967296 ∧ vf TH k N I X p r = V ∧ Up w wr

theorem clm_lt (x : Nat) (s : Bool × Int) : clm TH x s < 4294967296 := by rw [clm_nx]; have := TH_lt (nx x s); omega

end Go.Proofs.YtcbppfndlagodaaGreat

/-
  slices.Equal at texts and at steps; lists of texts written out; what holds of constant trees. Conditions: as each says.
-/
namespace Go.Proofs.YtcbppfndlagodaaGreat
open Go.RowKit
open Go.Proofs
open WoolTree

theorem Txs.lit (w : World) (l : List (List UInt8)) (n : Nat) (hn : l.length = n) (h : n ≤ 64) : Txs (w.alloc (.cells (fl txC l).toArray 9)) (.slice (some ⟨w.heap.size, 0, none⟩) n n) l := by
  subst hn
  have := World.ownsRow_lit (base := w.heap.size) (e := 9) (size := 1) w (fl txC l).toArray l.length (Nat.le_refl w.heap.size) (by unfold maxLen; omega) (by rw [List.size_toArray, fl_length txC_len])
  exact Sl.of_own this

theorem txt_eqT (a b : List UInt8) : ((bs a).toList == (bs b).toList) = (a == b) := by
  rw [ByteArray.toList_eq, ByteArray.toList_eq, bs_list, bs_list]

def EqTRel (l m : List (List UInt8)) (w : World) (i : Value) (wr : World) : Prop :=
  ∃ k : Nat, k ≤ l.length ∧ i = .int .i64 (k : Int) ∧ Up w wr ∧ (l == m) = (l.drop k == m.drop k)

/-! ytcbppfndlagodaagreat# constants -/

theorem root_ab : chkT [[97], [98]] = 0 ∧ rootV [[97], [98]] ≠ 0 := by decide +kernel
theorem root_a : chkT [[97]] = 0 ∧ rootV [[97]] ≠ 0 := by decide +kernel

end Go.Proofs.YtcbppfndlagodaaGreat

/-
  The law TreeHalves, walked: for every list the Go text returns true; nothing that was there turns. Conditions: as each says.
-/
namespace Go.Proofs.YtcbppfndlagodaaGreat
open Go.RowKit
open Go.Proofs
open WoolTree

theorem chkT_of {l : List (List UInt8)} (h0 : 0 < l.length) (h32 : l.length ≤ 32) (hs : ∀ t ∈ l, t.length ≤ 64) : chkT l = 0 := by
  unfold chkT
  rw [if_neg (by omega), if_neg]
  simp only [Bool.or_eq_true, decide_eq_true_eq, List.any_eq_true, not_or, not_exists, not_and]
  exact ⟨by omega, fun t ht => by have := hs t ht; omega⟩

theorem chkT_take {l : List (List UInt8)} (h : chkT l = 0) (k : Nat) (h0 : 0 < k) (hk : k ≤ l.length) : chkT (l.take k) = 0 := by
  obtain ⟨_, h32, hs⟩ := chkT_ok h
  have hl : (l.take k).length = k := by rw [List.length_take]; omega
  exact chkT_of (by omega) (by omega) (fun t ht => hs t (List.mem_of_mem_take ht))

theorem chkT_drop {l : List (List UInt8)} (h : chkT l = 0) (k : Nat) (hk : k < l.length) : chkT (l.drop k) = 0 := by
  obtain ⟨_, h32, hs⟩ := chkT_ok h
  have hl : (l.drop k).length = l.length - k := List.length_drop
  exact chkT_of (by omega) (by omega) (fun t ht => hs t (List.mem_of_mem_drop ht))

theorem rootV_ok {l : List (List UInt8)} (h : chkT l = 0) : rootV l = ((rtx TH l : Nat) : Int) := if_pos h

theorem rtx_lt (l : List (List UInt8)) (h0 : 0 < l.length) (h32 : l.length ≤ 32) : rtx TH l < 1073741824 := by
  have h := it_root TH 5 (lh TH l) (by rw [lh_length]; exact h0) (by rw [lh_length]; exact h32)
  have hb := it_bound TH 1073741824 TH_lt 5 (lh TH l) (lh_bound TH _ TH_lt l)
  rw [h] at hb
  exact hb _ (by simp; rfl)

theorem root_a2 : chkT [[97]] = 0 ∧ rootV [[97]] = ((fp 1073741907 [108, 97] : Nat) : Int) ∧ fp 1073741907 [108, 97] ≠ 0 := by decide +kernel

/-- what doubles up to a number -/
def SpRel (n : Nat) (i : Value) : Prop := ∃ j K : Nat, K = 2 ^ j ∧ K < n ∧ i = .int .i64 (K : Int)

end Go.Proofs.YtcbppfndlagodaaGreat
