/-
  What the calls of the law on lists return, as rows of the call's own; slices.Equal of two rows of ints that read alike. Conditions: as each says.
-/
import Derived.Test.YtemineffflodcaaJListsOwn42
import Derived.Test.YtemineffflodcaaJListsOwn43
import Derived.Test.YtemineffflodcaaJListsOwn44
import Derived.Test.YtemineffflodcaaJListsOwn45
import Derived.Test.YtemineffflodcaaJListsOwn46
import Derived.Test.YtemineffflodcaaJListsOwn47
namespace Go.Proofs.Ytemineffflodcaa
open Go.RowKit
open Go.Proofs
open WoolTree

/-- a row of texts, steps or tokens of the call's own, and an error -/
def Two (T m n : Nat) (L : List Value) (w : World) (e : Ending) (w' : World) : Prop :=
  ∃ (o : Option Addr) (c : Nat) (E : Int), e = .returned (.tuple #[.slice o n c, .int .i64 E]) ∧ OR w' w.heap.size w'.heap.size T m (.slice o n c) n L ∧ Up w w'

theorem Two.empty {T m : Nat} {w : World} {e : Ending} {E : Int} (h : e = .returned (.tuple #[.slice none 0 0, .int .i64 E])) : Two T m 0 [] w e w :=
  ⟨none, 0, E, h, OR.new (World.ownsRow_nil _ _ _ _), Up.refl w⟩

def FacIs (a : Int) (zs : List Int) : Prop :=
  (1 ≤ a ∧ a ≤ 2147483647 ∧ ∃ l : List Nat, WoolMath.IsFactors l a.toNat ∧ zs = l.map fun x : Nat => (x : Int)) ∨ (¬ (1 ≤ a ∧ a ≤ 2147483647) ∧ zs = [])

theorem FacIs.same {a : Int} {zs ys : List Int} (h : FacIs a zs) (k : FacIs a ys) : zs = ys := by
  rcases h with ⟨h1, h2, l, h3, rfl⟩ | ⟨h1, rfl⟩
  · rcases k with ⟨_, _, l2, k3, rfl⟩ | ⟨k1, _⟩
    · rw [WoolMath.factors_unique h3 k3]
    · exact absurd ⟨h1, h2⟩ k1
  · rcases k with ⟨k1, k2, _⟩ | ⟨_, rfl⟩
    · exact absurd ⟨k1, k2⟩ h1
    · rfl

def FacsPost (a : Int) (w : World) (e : Ending) (w' : World) : Prop := ∃ zs : List Int, FacIs a zs ∧ zs.length ≤ 600 ∧ Two 3 1 zs.length (il zs) w e w'

theorem ints_il {w : World} {b : Nat} {v : Value} {l : List Nat} (h : Ints w b v l) : w.ownsRow b 3 1 v (l.map fun x : Nat => (x : Int)).length (il (l.map fun x : Nat => (x : Int))) := by
  rw [List.length_map, ← il_nat]
  exact h

theorem factors_open (a : Int) (w : World) : Calls Try.prog 4 #[.int .i64 a] w (FacsPost a w) := by
  by_cases h : 1 ≤ a ∧ a ≤ 2147483647
  · obtain ⟨M, rfl⟩ := Int.eq_ofNat_of_zero_le (show 0 ≤ a by omega)
    refine (factors_ok M w (by omega) (by omega)).mono ?_
    rintro e w' ⟨v, l, h1, h2, rfl, h4, h5⟩
    obtain ⟨o, c, rfl⟩ := h4.shape
    refine ⟨l.map fun x : Nat => (x : Int), .inl ⟨h.1, h.2, l, by rw [Int.toNat_natCast]; exact h1, rfl⟩, by rw [List.length_map]; omega, o, c, 0, ?_, ?_, h5⟩
    · rw [List.length_map]
    · have := OR.new (ints_il h4)
      rw [List.length_map] at this ⊢
      exact this
  · by_cases h0 : a = 0
    · subst h0
      refine (factors_zero w).mono ?_
      rintro e w' ⟨he, rfl⟩
      exact ⟨[], .inr ⟨h, rfl⟩, by simp, Two.empty he⟩
    · refine (factors_bad a w (by omega)).mono ?_
      rintro e w' ⟨he, rfl⟩
      exact ⟨[], .inr ⟨h, rfl⟩, by simp, Two.empty he⟩

def endsOf (s : ByteArray) : List Int := if s.size ≤ 600 then (ends 1 9 7 s.data.toList).map fun x : Nat => (x : Int) else []

theorem endsOf_len (s : ByteArray) : (endsOf s).length ≤ 600 := by
  unfold endsOf
  by_cases h : s.size ≤ 600
  · rw [if_pos h, List.length_map]
    have := ends_length 1 9 7 (by omega) (by omega) s.data.toList
    rw [len_ba] at this
    omega
  · rw [if_neg h]; simp

theorem ends_open (s : ByteArray) (w : World) : Calls Try.prog 9 #[.string s, .int .i64 1, .int .i64 9, .int .i64 7] w (Two 3 1 (endsOf s).length (il (endsOf s)) w) := by
  unfold endsOf
  by_cases h : s.size ≤ 600
  · rw [if_pos h]
    refine (ends_ok s 1 9 7 w h (by omega) (by omega) (by omega) (by omega)).mono ?_
    rintro e w' ⟨v, rfl, h4, h5⟩
    obtain ⟨o, c, rfl⟩ := h4.shape
    refine ⟨o, c, 0, ?_, ?_, h5⟩
    · rw [List.length_map]
    · have := OR.new (ints_il h4)
      rw [List.length_map] at this ⊢
      exact this
  · rw [if_neg h]
    refine (ends_long s 1 9 7 w (by omega)).mono ?_
    rintro e w' ⟨he, rfl⟩
    exact Two.empty he

def SplitsPost (w : World) (e : Ending) (w' : World) : Prop := ∃ l : List (List UInt8), l.length ≤ 600 ∧ Two 9 1 l.length (fl txC l) w e w'

theorem split_open (s : ByteArray) (v : Value) (zs : List Int) (w : World) (h : Seen w v zs) : Calls Try.prog 10 #[.string s, v] w (SplitsPost w) := by
  by_cases hs : s.size ≤ 600
  · by_cases hd : divs 0 zs (s.size : Int) = true
    · refine (split_ok s v zs w hs h hd).mono ?_
      rintro e w' ⟨v', rfl, h4, h5⟩
      obtain ⟨o, c, rfl⟩ := h4.shape
      have hlen := divs_len _ _ _ hd
      refine ⟨(pieces s 0 zs).map fun s : ByteArray => s.data.toList, by rw [List.length_map, pieces_length]; omega, o, c, 0, ?_, ?_, h5⟩
      · rw [List.length_map]
      · have := OR.new h4
        rw [strs_txs] at this
        rw [List.length_map]
        exact this
    · refine (split_bad s v zs w hs h (by simpa using hd)).mono ?_
      rintro e w' ⟨he, rfl⟩
      exact ⟨[], by simp, Two.empty he⟩
  · obtain ⟨o, c, rfl, _⟩ := h
    refine (split_long s o _ c w (by omega)).mono ?_
    rintro e w' ⟨he, rfl⟩
    exact ⟨[], by simp, Two.empty he⟩

set_option maxRecDepth 100000 in
theorem parse_long (s : ByteArray) (V : Int) (w : World) (hs : 600 < s.size) :
    Calls Try.prog 11 #[.string s, .int .i64 V] w fun e w' => e = .returned (.tuple #[.slice none 0 0, .int .i64 2]) ∧ w = w' := by
  go_enter Try.func11, Try.ntmps11
  go_wp2_with fail
  refine (longest_large s 0 V _ hs).mono ?_
  rintro e v1 ⟨rfl, rfl⟩
  go_wp2_with fail
  go_ret2
  exact ⟨rfl, rfl⟩

def parsOf (s : ByteArray) : List WoolLz.Tok := if s.size ≤ 600 then WoolLz.par s.data.toList 99 0 else []

def ParsesPost (w : World) (e : Ending) (w' : World) : Prop := ∃ l : List WoolLz.Tok, l.length ≤ 600 ∧ Two 49 3 l.length (tokL l) w e w'

theorem parse_open (s : ByteArray) (w : World) : Calls Try.prog 11 #[.string s, .int .i64 99] w (ParsesPost w) := by
  by_cases hs : s.size ≤ 600
  · refine (parse_ok s 99 w hs (by omega) (by omega)).mono ?_
    rintro e w' ⟨v, rfl, h4, h5⟩
    have hs2 : ∃ o c, v = .slice o (WoolLz.par s.data.toList 99 0).length c := by
      obtain ⟨o, c, h, _⟩ := Sl.slice (Sl.of_own h4)
      exact ⟨o, c, h⟩
    obtain ⟨o, c, rfl⟩ := hs2
    have hpl := WoolLz.par_len s.data.toList 99 s.data.toList.length 0 (by omega)
    rw [ba_length] at hpl
    exact ⟨_, by omega, o, c, 0, rfl, OR.new h4, h5⟩
  · refine (parse_long s 99 w (by omega)).mono ?_
    rintro e w' ⟨he, rfl⟩
    exact ⟨[], by simp, Two.empty he⟩

theorem prfV_len (l : List (List UInt8)) (i : Int) : (prfV l i).length ≤ 5 := by
  unfold prfV
  split
  · unfold stI; rw [List.length_map]; exact pf_length TH 5 _ _
  · simp

theorem proof_open (v : Value) (l : List (List UInt8)) (i : Int) (w : World) (h : Txs w v l) : Calls Try.prog 12 #[v, .int .i64 i] w (Two 52 2 (prfV l i).length (fl stC (prfV l i)) w) := by
  refine (proofT_any v l i w h).mono ?_
  rintro e w' ⟨v', rfl, h4, h5⟩
  have hs2 : ∃ o c, v' = .slice o (prfV l i).length c := by
    obtain ⟨o, c, h, _⟩ := Sl.slice (Sl.of_own h4)
    exact ⟨o, c, h⟩
  obtain ⟨o, c, rfl⟩ := hs2
  exact ⟨o, c, _, rfl, OR.new h4, h5⟩

theorem cpV_short (a b : List (List UInt8)) : (cpV a b).1.length ≤ 32 := by
  by_cases h : cpE a b = 0
  · obtain ⟨h1, h2, h3⟩ := cpE_ok h
    obtain ⟨h0, h32, _⟩ := chkT_ok h1
    have := cm_short a.length a b 0 h0 (Nat.le_refl _)
    unfold cpV
    rw [if_pos h]
    omega
  · unfold cpV
    rw [if_neg h]
    simp

def CmpsPost (w : World) (e : Ending) (w' : World) : Prop :=
  ∃ (zs : List Int) (o : Option Addr) (c : Nat) (q E : Int), zs.length ≤ 600 ∧ e = .returned (.tuple #[.slice o zs.length c, .int .i64 q, .int .i64 E]) ∧ OR w' w.heap.size w'.heap.size 3 1 (.slice o zs.length c) zs.length (il zs) ∧ Up w w'

theorem compare_open (v1 v2 : Value) (a b : List (List UInt8)) (w : World) (h1 : Txs w v1 a) (h2 : Txs w v2 b) : Calls Try.prog 13 #[v1, v2] w (CmpsPost w) := by
  refine (compareT_any v1 v2 a b w h1 h2).mono ?_
  rintro e w' ⟨v, rfl, h4, h5⟩
  obtain ⟨o, c, rfl⟩ := h4.shape
  have hl := cpV_short a b
  have hq := OR.new (ints_il h4)
  refine ⟨(cpV a b).1.map fun x : Nat => (x : Int), o, c, ((cpV a b).2 : Int), cpE a b, by rw [List.length_map]; omega, ?_, ?_, h5⟩
  · rw [List.length_map]
  · rw [List.length_map] at hq ⊢
    exact hq

def EqNRel (N : Nat) (w : World) (i : Value) (wr : World) : Prop := ∃ k : Nat, k ≤ N ∧ i = .int .i64 (k : Int) ∧ Up w wr

set_option maxRecDepth 100000 in
set_option maxHeartbeats 400000 in
theorem equalN_sl (v1 v2 : Value) (zs : List Int) (w : World) (hl : zs.length ≤ 140737488351232) (h1 : Sl w 1 v1 zs.length (il zs)) (h2 : Sl w 1 v2 zs.length (il zs)) :
    Calls Try.prog 5 #[v1, v2] w fun e w' => e = .returned (.bool true) ∧ Up w w' := by
  have H1 := Lib.hid h1
  have H2 := Lib.hid h2
  obtain ⟨o1, c1, rfl, p1, p2⟩ := h1.slice
  obtain ⟨o2, c2, rfl, q1, q2⟩ := h2.slice
  unfold maxLen at p2 q2
  clear h1 h2
  go_enter Try.func5, Try.ntmps5
  go_wp2_with fail
  go_loopw [13] (fun i wr => EqNRel zs.length w i wr) (fun i _ => zs.length - (intOf i).toNat)
  case atStart => exact ⟨0, Nat.zero_le _, rfl, Up.refl w⟩
  case round =>
    obtain ⟨k, hk, rfl, hu⟩ := hrel
    have HU := Lib.hid hu
    by_cases hlt : k < zs.length
    · obtain ⟨b1, f1, rfl, hc1⟩ := Sl.cells H1.out (by omega)
      obtain ⟨b2, f2, rfl, hc2⟩ := Sl.cells H2.out (by omega)
      have e1 := hc1 k _ (il_get zs k hlt)
      have e2 := hc2 k _ (il_get zs k hlt)
      rw [← hu.cell (World.block_lt_of_cell? w _ e1)] at e1
      rw [← hu.cell (World.block_lt_of_cell? w _ e2)] at e2
      generalize zs[k] = x at *
      have d1 : decide (k < zs.length) = true := decide_eq_true hlt
      clear hc1 hc2 hu
      go_wp2_with fail
      go_region
      go_wp2_with fail
      go_roundw
      case rel => exact ⟨k + 1, by omega, by go_num, Below.drew HU.out⟩
      case measure => simp only [intOf]; omega
    · have d1 : decide (k < zs.length) = false := decide_eq_false hlt
      clear hu
      go_wp2_with fail
      go_ret
      exact ⟨rfl, HU.out⟩

theorem equalT_self (v1 v2 : Value) (l : List (List UInt8)) (w : World) (hl : l.length ≤ 140737488351232) (h1 : Txs w v1 l) (h2 : Txs w v2 l) :
    Calls Try.prog 15 #[v1, v2] w fun e w' => e = .returned (.bool true) ∧ Up w w' := by
  refine (equalT_any v1 v2 l l w hl h1 h2).mono ?_
  rintro e w' ⟨rfl, h⟩
  exact ⟨by simp, h⟩

theorem fac4 : WoolMath.IsFactors [2, 2] 4 := by
  refine ⟨fun p hp => ?_, by decide, by simp⟩
  simp only [List.mem_cons, List.not_mem_nil, or_false] at hp
  rcases hp with rfl | rfl
  · exact WoolMath.prime_of 2 (by decide +kernel)
  · exact WoolMath.prime_of 2 (by decide +kernel)

end Go.Proofs.Ytemineffflodcaa
