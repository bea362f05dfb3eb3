/-
  The texts TreeO, TreeV, TxtRow, one behind the other; each says below what it holds and on what conditions.
-/
import Derived.Test.YtnmdfdkagkpcaaaJVolOwn06
import Derived.Test.YtnmdfdkagkpcaaaJVolOwn01
import Derived.Test.YtnmdfdkagkpcaaaJVolOwn04
import Derived.Deep.Slices
import Derived.Deep.Fields
import Derived.ChangeSame
import Derived.SizedLaws
import Derived.ChangeOld

/-
  Trees of prints, plainly: hashes of a level as roots of parts; all that is said on the way up (ch); steps and levels. Conditions: as each says.
-/
namespace WoolTree

section
variable (H : List UInt8 → Nat)

theorem lt_it : ∀ (k : Nat) (l : List Nat) (j : Nat), j < (it H k l).length ↔ j * 2 ^ k < l.length
  | 0, l, j => by rw [it]; omega
  | k + 1, l, j => by
    rw [it, lt_it k (ab H l) j, ab_length, Nat.pow_succ, ← Nat.mul_assoc]
    omega

theorem it_nil : ∀ k, it H k [] = []
  | 0 => rfl
  | k + 1 => it_nil k

/-- a hash of a level is the root of a part -/
theorem it_part (k : Nat) (A : List Nat) (j : Nat) (h : j * 2 ^ k < A.length) : (it H k A)[j]'((lt_it H k A j).2 h) = rt H k ((A.drop (j * 2 ^ k)).take (2 ^ k)) := by
  have hp : 0 < 2 ^ k := Nat.pow_pos (by omega)
  have l1 : (A.take (j * 2 ^ k)).length = j * 2 ^ k := by rw [List.length_take]; omega
  have l2 : (A.drop (j * 2 ^ k)).length = A.length - j * 2 ^ k := List.length_drop
  have e1 : it H k A = it H k (A.take (j * 2 ^ k)) ++ it H k (A.drop (j * 2 ^ k)) := by
    rw [← it_append H k _ _ (by rw [l1]; exact Nat.mul_mod_left _ _), List.take_append_drop]
  have l3 : (it H k (A.take (j * 2 ^ k))).length = j := by
    apply Nat.le_antisymm
    · apply Nat.le_of_not_lt
      intro h'
      have := (lt_it H k _ _).1 h'
      rw [l1] at this
      omega
    · apply Nat.le_of_not_lt
      intro h'
      have h2 := mt (lt_it H k (A.take (j * 2 ^ k)) (it H k (A.take (j * 2 ^ k))).length).2 (by omega)
      rw [l1] at h2
      have := Nat.mul_le_mul_right (2 ^ k) (show (it H k (A.take (j * 2 ^ k))).length + 1 ≤ j by omega)
      rw [Nat.add_mul] at this
      omega
  have e2 : it H k (A.drop (j * 2 ^ k)) = rt H k ((A.drop (j * 2 ^ k)).take (2 ^ k)) :: it H k ((A.drop (j * 2 ^ k)).drop (2 ^ k)) := by
    by_cases hd : (A.drop (j * 2 ^ k)).length ≤ 2 ^ k
    · rw [List.take_of_length_le hd, List.drop_of_length_le hd, it_nil, it_root H k _ (by omega) hd]
    · have l4 : ((A.drop (j * 2 ^ k)).take (2 ^ k)).length = 2 ^ k := by rw [List.length_take]; omega
      have e3 := it_append H k ((A.drop (j * 2 ^ k)).take (2 ^ k)) ((A.drop (j * 2 ^ k)).drop (2 ^ k)) (by rw [l4]; exact Nat.mod_self _)
      rw [List.take_append_drop, it_root H k ((A.drop (j * 2 ^ k)).take (2 ^ k)) (by omega) (by omega)] at e3
      exact e3
  have g : (it H k A)[j]? = some (rt H k ((A.drop (j * 2 ^ k)).take (2 ^ k))) := by
    rw [e1, List.getElem?_append_right (by omega), l3, Nat.sub_self, e2]
    rfl
  exact (List.getElem?_eq_some_iff.1 g).2

theorem rtx_part (k : Nat) (a : List (List UInt8)) (j : Nat) (hk : k ≤ 5) (h : j * 2 ^ k < a.length) : (it H k (lh H a))[j]'((lt_it H k _ j).2 (by rw [lh_length]; exact h)) = rtx H ((a.drop (j * 2 ^ k)).take (2 ^ k)) := by
  have hp : 0 < 2 ^ k := Nat.pow_pos (by omega)
  have h5 : 2 ^ k ≤ 32 := Nat.pow_le_pow_right (n := 2) (by omega) hk
  have hl : ((a.drop (j * 2 ^ k)).take (2 ^ k)).length ≤ 2 ^ k := by rw [List.length_take]; omega
  have h0 : 0 < ((a.drop (j * 2 ^ k)).take (2 ^ k)).length := by rw [List.length_take, List.length_drop]; omega
  rw [it_part H k (lh H a) j (by rw [lh_length]; exact h), ← lh_drop, ← lh_take]
  exact root_of H k _ (by rw [lh_length]; exact h0) (by rw [lh_length]; omega) (by rw [lh_length]; exact hl)

/-- pairs are gone through two by two -/
theorem pc_step (X Y : List Nat) (i : Nat) (h : i + 1 < X.length) (h' : i + 1 < Y.length) : pc (X.drop i) (Y.drop i) = if pr X[i] X[i + 1] = pr Y[i] Y[i + 1] then pc (X.drop (i + 2)) (Y.drop (i + 2)) else some (pr X[i] X[i + 1], pr Y[i] Y[i + 1]) := by
  rw [List.drop_eq_getElem_cons (by omega : i < X.length), List.drop_eq_getElem_cons h, List.drop_eq_getElem_cons (by omega : i < Y.length), List.drop_eq_getElem_cons h', pc]

theorem pc_end (X Y : List Nat) (i : Nat) (h : ¬ i + 1 < X.length) : pc (X.drop i) (Y.drop i) = none := pc_short _ _ (by rw [List.length_drop]; omega)

theorem pci_lvs (A B : List Nat) (h0 : 0 < A.length) (h : A.length ≤ 32) : pci H A B (lvs H 5 A).length = pci H A B 5 := by
  have hp := lvs_pos H 5 A
  have hl := lvs_len H 5 A
  have hlast := lvs_last H 5 A h0 (by omega) (by omega)
  rw [lvs_get] at hlast
  have h1 : (it H ((lvs H 5 A).length - 1) A).length ≤ 1 := by rw [hlast]; simp
  have e1 := pci_more H A B _ 1 h1
  have e2 := pci_more H A B _ (5 - ((lvs H 5 A).length - 1)) h1
  rw [show (lvs H 5 A).length - 1 + 1 = (lvs H 5 A).length by omega] at e1
  rw [show (lvs H 5 A).length - 1 + (5 - ((lvs H 5 A).length - 1)) = 5 by omega] at e2
  rw [e1, e2]

/-! ytnmdfdkagkpcaaa# what is said on the way up -/

/-- what is said of the pair with a step's hash -/
def nx (h : Nat) (s : Bool × Int) : List UInt8 := if s.1 then pr s.2.toNat h else pr h s.2.toNat
theorem clm_nx (x : Nat) (s : Bool × Int) : clm H x s = H (nx x s) := by
  unfold clm nx hp
  split <;> rfl

def ch (p : List UInt8) : List (Bool × Int) → List (List UInt8)
  | [] => [p]
  | s :: q => p :: ch (nx (H p) s) q

theorem ch_length : ∀ (l : List (Bool × Int)) (p : List UInt8), (ch H p l).length = l.length + 1
  | [], _ => rfl
  | s :: q, p => by rw [ch, List.length_cons, ch_length q, List.length_cons]

theorem nx_length (h : Nat) (s : Bool × Int) : (nx h s).length = 9 := by unfold nx; split <;> rfl

theorem ch_size : ∀ (l : List (Bool × Int)) (p : List UInt8) (N : Nat), 9 ≤ N → p.length ≤ N → ∀ t ∈ ch H p l, t.length ≤ N
  | [], p, N, _, hp, t, ht => by rw [ch, List.mem_singleton] at ht; subst ht; exact hp
  | s :: q, p, N, h9, hp, t, ht => by
    rw [ch, List.mem_cons] at ht
    rcases ht with rfl | ht
    · exact hp
    · exact ch_size q _ N h9 (by rw [nx_length]; exact h9) t ht

theorem nx_inj {h h' : Nat} {s s' : Bool × Int} (hs : s.1 = s'.1) (hb : h < 4294967296) (hb' : h' < 4294967296) (h2 : s.2 ≤ 2147483647) (h2' : s'.2 ≤ 2147483647) (e : nx h s = nx h' s') : h = h' := by
  unfold nx at e
  rw [← hs] at e
  by_cases hl : s.1 = true
  · rw [if_pos hl, if_pos hl] at e
    exact (pr_inj (by omega) hb (by omega) hb' e).2
  · rw [if_neg hl, if_neg hl] at e
    exact (pr_inj hb (by omega) hb' (by omega) e).1

theorem vs_binds (hb : ∀ s, H s < 4294967296) : ∀ (t : List Bool) (p q : List UInt8) (l m : List (Bool × Int)) (r : Int), vs H t (H p) l r = true → vs H t (H q) m r = true → p ≠ q →
    ∃ (k : Nat) (x y : List UInt8), (ch H p l)[k]? = some x ∧ (ch H q m)[k]? = some y ∧ H x = H y ∧ x ≠ y
  | [], p, q, [], [], r, h1, h2, hne => by
    rw [vs, beq_iff_eq] at h1 h2
    exact ⟨0, p, q, rfl, rfl, by omega, hne⟩
  | [], p, q, _ :: _, m, r, h1, h2, hne => by simp [vs] at h1
  | [], p, q, [], _ :: _, r, h1, h2, hne => by simp [vs] at h2
  | b :: t, p, q, [], m, r, h1, h2, hne => by simp [vs] at h1
  | b :: t, p, q, _ :: _, [], r, h1, h2, hne => by simp [vs] at h2
  | b :: t, p, q, s :: l, s' :: m, r, h1, h2, hne => by
    rw [vs, Bool.and_eq_true, Bool.and_eq_true, Bool.and_eq_true, beq_iff_eq, decide_eq_true_eq, decide_eq_true_eq, clm_nx] at h1 h2
    by_cases e : H p = H q
    · exact ⟨0, p, q, rfl, rfl, e, hne⟩
    · obtain ⟨k, x, y, a1, a2, a3⟩ := vs_binds hb t (nx (H p) s) (nx (H q) s') l m r h1.2 h2.2 (fun e2 => e (nx_inj (h1.1.1.trans h2.1.1.symm) (hb _) (hb _) h1.1.2.2 h2.1.2.2 e2))
      exact ⟨k + 1, x, y, a1, a2, a3⟩

/-! ytnmdfdkagkpcaaa# how many steps -/

theorem pf_length : ∀ (k : Nat) (l : List Nat) (i : Nat), (pf H k l i).length ≤ k
  | 0, _, _ => by simp [pf]
  | k + 1, l, i => by
    have := pf_length k (ab H l) (i / 2)
    rw [pf, List.length_append]
    split
    · simp only [List.length_singleton]; omega
    · simp only [List.length_nil]; omega

theorem prf_length (k : Nat) (l : List Nat) (i : Nat) (h0 : i < l.length) (h : l.length ≤ 32) (hk : l.length ≤ 2 ^ k) : (prf H l i).length ≤ k := by
  unfold prf
  rw [pf_eq H 5 k l i h0 (by omega) hk]
  exact pf_length H k l i

theorem prf_last (l : List Nat) (h0 : 0 < l.length) (h : l.length ≤ 32) : 0 < (prf H l (l.length - 1)).length ↔ 1 < l.length := by
  by_cases h1 : l.length = 1
  · obtain ⟨x, rfl⟩ := List.length_eq_one_iff.1 h1
    rw [show prf H [x] ([x].length - 1) = [] from pf_one H 5 x]
    simp
  · have s1 := spn_lt l.length (by omega)
    rw [prf_halves H l (l.length - 1) (by omega) h (by omega)]
    split
    · rw [List.length_append]; simp; omega
    · rw [List.length_append]; simp; omega

theorem prf_one (x : Nat) : prf H [x] 0 = [] := pf_one H 5 x

theorem prf_bound (B : Nat) (hB : 0 < B) (hH : ∀ s, H s < B) : ∀ (k : Nat) (l : List Nat) (i : Nat), (∀ x ∈ l, x < B) → ∀ s ∈ pf H k l i, s.2 < B
  | 0, _, _, _, s, hs => by simp [pf] at hs
  | k + 1, l, i, h, s, hs => by
    rw [pf, List.mem_append] at hs
    rcases hs with hs | hs
    · split at hs
      · rw [List.mem_singleton] at hs
        subst hs
        exact getD_lt l B _ hB h
      · simp at hs
    · exact prf_bound B hB hH k _ _ (ab_bound H B hH l h) s hs

end

/-- the hash of trees -/
theorem sd_one : sd 5 1 0 = [] := rfl

end WoolTree

/-
  Slices of texts (Txs), of steps (Stps, OStps), rows of rows of numbers (Lvs): what they read as. Conditions: as each says.
-/
namespace Go.Proofs.Ytnmdfdkagkpcaaa
open Go.RowKit
open Go.Proofs
open WoolTree

/-- a text's cell -/
def txC (t : List UInt8) : List Value := [.string (bs t)]
theorem txC_len (t : List UInt8) : (txC t).length = 1 := rfl
theorem txC_one (t : List UInt8) : ∀ u ∈ txC t, u.oneCell' = true := by
  intro u h; unfold txC at h; simp at h; rw [h]; rfl

/-- a slice that reads as texts -/
def Txs (w : World) (v : Value) (l : List (List UInt8)) : Prop := Sl w 1 v l.length (fl txC l)

theorem Txs.up {w w' : World} {v : Value} {l : List (List UInt8)} (h : Txs w v l) (hu : Up w w') : Txs w' v l := Sl.up h hu
theorem Txs.slice {w : World} {v : Value} {l : List (List UInt8)} (h : Txs w v l) : ∃ o c, v = .slice o l.length c ∧ l.length ≤ c ∧ c ≤ maxLen := Sl.slice h
theorem Txs.nil (w : World) : Txs w (.slice none 0 0) [] := Sl.nil w 1

theorem Txs.at {w : World} {o : Option Addr} {n c : Nat} {l : List (List UInt8)} (h : Txs w (.slice o n c) l) (hne : l ≠ []) : ∃ b off, o = some ⟨b, off, none⟩ ∧ ∀ k (hk : k < l.length), w.cell? ⟨b, off + k, none⟩ = some (.string (bs l[k])) := by
  obtain ⟨b, off, h1, h2⟩ := Sl.cells h (by intro e; exact hne (List.eq_nil_of_length_eq_zero e))
  refine ⟨b, off, h1, fun k hk => ?_⟩
  have g := fl_get txC_len l k hk 0 (by omega)
  have := h2 _ _ g
  rwa [Nat.mul_one, Nat.add_zero] at this

/-- the texts ahead of a place -/
theorem Txs.front {w : World} {o : Option Addr} {n c : Nat} {l : List (List UInt8)} (h : Txs w (.slice o n c) l) (k : Nat) (hk : k ≤ l.length) : Txs w (.slice o k c) (l.take k) := by
  obtain ⟨h0, o', c', h1, h2, h3, h4⟩ := h
  simp only [Value.slice.injEq] at h1
  obtain ⟨rfl, rfl, rfl⟩ := h1
  have hlen : (l.take k).length = k := by rw [List.length_take]; omega
  refine ⟨by rw [fl_length txC_len], o, c, by rw [hlen], by omega, h3, ?_⟩
  rcases h4 with h4 | ⟨b, off, h5, h6⟩
  · left; omega
  · right
    refine ⟨b, off, h5, fun j u hj => h6 j u ?_⟩
    rw [fl_take txC_len, List.getElem?_take] at hj
    split at hj
    · exact hj
    · cases hj

/-- the texts from a place on -/
theorem Txs.back {w : World} {b off : Nat} {n c : Nat} {l : List (List UInt8)} (h : Txs w (.slice (some ⟨b, off, none⟩) n c) l) (k : Nat) (hk : k ≤ l.length) : Txs w (.slice (some ⟨b, off + k, none⟩) (l.length - k) (c - k)) (l.drop k) := by
  obtain ⟨h0, o', c', h1, h2, h3, h4⟩ := h
  simp only [Value.slice.injEq] at h1
  obtain ⟨rfl, rfl, rfl⟩ := h1
  have hlen : (l.drop k).length = l.length - k := List.length_drop
  refine ⟨by rw [fl_length txC_len], _, c - k, by rw [hlen], by omega, by unfold maxLen at *; omega, ?_⟩
  rcases h4 with h4 | ⟨b', off', h5, h6⟩
  · left; omega
  · right
    simp only [Option.some.injEq, Addr.mk.injEq, and_true] at h5
    obtain ⟨rfl, rfl⟩ := h5
    refine ⟨b, off + k, rfl, fun j u hj => ?_⟩
    rw [fl_drop txC_len, List.getElem?_drop, Nat.mul_one] at hj
    rw [Nat.add_assoc]
    exact h6 _ u hj

/-! ytnmdfdkagkpcaaa# steps -/

/-- a step's cells -/
def stC (s : Bool × Int) : List Value := [.bool s.1, .int .i64 s.2]
theorem stC_len (s : Bool × Int) : (stC s).length = 2 := rfl
theorem stC_one (s : Bool × Int) : ∀ u ∈ stC s, u.oneCell' = true := by
  intro u h; unfold stC at h; simp at h; rcases h with rfl | rfl <;> rfl

/-- a slice that reads as steps -/
def Stps (w : World) (v : Value) (l : List (Bool × Int)) : Prop := Sl w 2 v l.length (fl stC l)
theorem Stps.up {w w' : World} {v : Value} {l : List (Bool × Int)} (h : Stps w v l) (hu : Up w w') : Stps w' v l := Sl.up h hu
theorem Stps.slice {w : World} {v : Value} {l : List (Bool × Int)} (h : Stps w v l) : ∃ o c, v = .slice o l.length c ∧ l.length ≤ c ∧ c ≤ maxLen := Sl.slice h
theorem Stps.nil (w : World) : Stps w (.slice none 0 0) [] := Sl.nil w 2

theorem Stps.at {w : World} {o : Option Addr} {n c : Nat} {l : List (Bool × Int)} (h : Stps w (.slice o n c) l) (hne : l ≠ []) : ∃ b off, o = some ⟨b, off, none⟩ ∧ ∀ k (hk : k < l.length),
    w.cell? ⟨b, off + k * 2, none⟩ = some (.bool l[k].1) ∧ w.cell? ⟨b, off + k * 2 + 1, none⟩ = some (.int .i64 l[k].2) := by
  obtain ⟨b, off, h1, h2⟩ := Sl.cells h (by intro e; exact hne (List.eq_nil_of_length_eq_zero e))
  refine ⟨b, off, h1, fun k hk => ?_⟩
  have g := fun j hj => fl_get stC_len l k hk j hj
  exact ⟨h2 _ _ (g 0 (by omega)), by have := h2 _ _ (g 1 (by omega)); rwa [← Nat.add_assoc] at this⟩

/-- the steps behind the first -/
theorem Stps.tail {w : World} {b off : Nat} {n c : Nat} {s : Bool × Int} {l : List (Bool × Int)} (h : Stps w (.slice (some ⟨b, off, none⟩) n c) (s :: l)) : Stps w (.slice (some ⟨b, off + 2, none⟩) l.length (c - 1)) l := by
  obtain ⟨h0, o', c', h1, h2, h3, h4⟩ := h
  simp only [Value.slice.injEq] at h1
  obtain ⟨rfl, rfl, rfl⟩ := h1
  rw [List.length_cons] at h2
  refine ⟨by rw [fl_length stC_len], _, c - 1, rfl, by omega, by unfold maxLen at *; omega, ?_⟩
  rcases h4 with h4 | ⟨b', off', h5, h6⟩
  · simp at h4
  · right
    simp only [Option.some.injEq, Addr.mk.injEq, and_true] at h5
    obtain ⟨rfl, rfl⟩ := h5
    refine ⟨b, off + 2, rfl, fun j u hj => ?_⟩
    rw [Nat.add_assoc]
    refine h6 _ u ?_
    show (stC s ++ fl stC l)[2 + j]? = some u
    rw [List.getElem?_append_right (by rw [stC_len]; omega), stC_len, Nat.add_sub_cancel_left]
    exact hj

theorem own_upT {w w' : World} {base m n : Nat} {T : TypeId} {v : Value} {L : List Value} (h : w.ownsRow base T m v n L) (hu : Up w w') : w'.ownsRow base T m v n L := by
  refine ⟨h.1, ?_⟩
  rcases h.2 with h' | ⟨g, cap, cur, rfl, h2, h3, h4⟩
  · exact .inl h'
  · refine .inr ⟨g, cap, cur, rfl, h2, ?_, h4⟩
    rw [← h3]; exact hu.block g (World.ownsRow.lt h g rfl).2

theorem own_baseT {w : World} {base base' m n : Nat} {T : TypeId} {v : Value} {L : List Value} (h : w.ownsRow base T m v n L) (hb : base' ≤ base) : w.ownsRow base' T m v n L := by
  refine ⟨h.1, ?_⟩
  rcases h.2 with h | ⟨g, cap, cur, h1, h2, h3⟩
  · exact .inl h
  · exact .inr ⟨g, cap, cur, h1, Nat.le_trans hb h2, h3⟩

/-! ytnmdfdkagkpcaaa# rows of rows -/

/-- a row of rows of numbers, all of the call's own -/
def Lvs (w : World) (base : Nat) (v : Value) (ls : List (List Nat)) : Prop :=
  ∃ C : List Value, w.ownsRow base 24 1 v C.length C ∧ C.length = ls.length ∧ ∀ k (h : k < ls.length) (h' : k < C.length), Ints w base C[k] ls[k]

theorem Lvs.up {w w' : World} {base : Nat} {v : Value} {ls : List (List Nat)} (h : Lvs w base v ls) (hu : Up w w') : Lvs w' base v ls := by
  obtain ⟨C, h1, h2, h3⟩ := h
  exact ⟨C, own_upT h1 hu, h2, fun k hk hk' => (h3 k hk hk').up hu⟩

theorem Lvs.slice {w : World} {base : Nat} {v : Value} {ls : List (List Nat)} (h : Lvs w base v ls) : ∃ o c, v = .slice o ls.length c ∧ ls.length ≤ c ∧ c ≤ maxLen := by
  obtain ⟨C, h1, h2, _⟩ := h
  have := Sl.slice (Sl.of_own h1)
  rwa [h2] at this

theorem Lvs.get {w : World} {base n c : Nat} {o : Option Addr} {ls : List (List Nat)} (h : Lvs w base (.slice o n c) ls) (h0 : 0 < ls.length) : ∃ g, o = some ⟨g, 0, none⟩ ∧ ∀ k (hk : k < ls.length), ∃ o' c', w.cell? ⟨g, k, none⟩ = some (.slice o' ls[k].length c') ∧ Ints w base (.slice o' ls[k].length c') ls[k] := by
  obtain ⟨C, h1, h2, h3⟩ := h
  rcases own_row h1 with ⟨_, h4, _⟩ | ⟨g, cap, sp, h4, _, h6, _⟩
  · omega
  · simp only [Value.slice.injEq] at h4
    refine ⟨g, h4.1, fun k hk => ?_⟩
    have hi := h3 k hk (by omega)
    obtain ⟨o', c', he⟩ := hi.shape
    refine ⟨o', c', ?_, by rw [← he]; exact hi⟩
    rw [← he]
    refine h6.cell ?_
    rw [List.getElem?_append_left (by omega), List.getElem?_eq_getElem (by omega)]

theorem lvInfo : (Try.prog.info? 24).map (fun i => (i.zero, i.size, i.bytes)) = some (some (.slice none 0 0), 1, 24) := by kernel_rfl

theorem int_ne_row : (3 : TypeId) ≠ 24 := by decide

end Go.Proofs.Ytnmdfdkagkpcaaa

/-
  A slice that came in reads as a row of elements (open_rowT); slices of texts and of steps that came in. Conditions: they can be read as data.
-/
namespace Go.Proofs.Ytnmdfdkagkpcaaa
open Go.RowKit
open Go.Proofs
open Go.ChangeShapes Go.WideShapes Go.Deep
open WoolTree

theorem add_offR (b off j : Nat) : (⟨b, off, none⟩ : Addr).add j = ⟨b, off + j, none⟩ := by
  unfold Addr.add
  split
  · rename_i e; subst e; rfl
  · rfl

theorem cellsStrT : Try.prog.cellsOf 9 = 1 := by kernel_rfl

section
variable {H : Type} {enc : TypeId × Value → H} {w : World} {base : Nat} {spare : Nat → Bool} {held : Bool}

theorem open_rowT {α : Type} [Inhabited α] (f : α → List Value) (Pr : α → Prop) {t e : TypeId} {m : Nat} (hfl : ∀ x, (f x).length = m) (hm0 : 0 < m) (ht : Try.prog.underlying t = some (.slice e)) (hc : Try.prog.cellsOf e = m)
    (hel : ∀ n cs (y : DataW H × List MemPlace), DataW.trod enc Try.prog w base (fun _ => true) held n e cs = some y → ∃ x, cs = f x ∧ Pr x) {fuel : Nat} {cs : List Value} {x : DataW H × List MemPlace}
    (h : DataW.trod enc Try.prog w base (fun _ => true) held fuel t cs = some x) : ∃ (o : Option Addr) (len cap : Nat) (l : List α), cs = [.slice o len cap] ∧ l.length = len ∧ Sl w m (.slice o len cap) l.length (fl f l) ∧ ∀ x ∈ l, Pr x := by
  rcases open_slice ht h with ⟨rfl, _⟩ | ⟨a, len, cap, m', n, D, Pl, rfl, _, hl, hm, hmm, _, hi⟩
  · exact ⟨none, 0, 0, [], rfl, rfl, Sl.nil w m, by simp⟩
  · rw [if_pos rfl] at hmm
    obtain rfl : cap = m' := hmm.symm
    rw [hc] at hi
    have hex : ∀ i, ∃ x : α, i < cap → (Pr x ∧ ∀ j u, (f x)[j]? = some u → w.cell? ((a.add (i * m)).add j) = some u) := by
      intro i
      by_cases hic : i < cap
      · obtain ⟨cs', hc', ht'⟩ := hi i hic
        obtain ⟨x, rfl, hx⟩ := hel _ _ _ ht'
        obtain ⟨_, _, hat⟩ := World.cells?_some hc'
        refine ⟨x, fun _ => ⟨hx, fun j u hu => ?_⟩⟩
        have hj : j < m := by rw [← hfl x]; exact (List.getElem?_eq_some_iff.1 hu).1
        rw [hat j hj]
        exact hu
      · exact ⟨default, fun h => absurd h hic⟩
    obtain ⟨g, hg⟩ := Classical.axiomOfChoice hex
    have hlen : ((List.range len).map g).length = len := by rw [List.length_map, List.length_range]
    refine ⟨some a, len, cap, (List.range len).map g, rfl, hlen, ⟨fl_length hfl _, some a, cap, by rw [hlen], by rw [hlen]; exact hl, hm, ?_⟩, ?_⟩
    · by_cases h0 : len = 0
      · left; rw [hlen]; exact h0
      · right
        obtain ⟨b, off, spot⟩ := a
        have hspot : spot = none := by
          have h00 : 0 < (f (g 0)).length := by rw [hfl]; exact hm0
          have hs0 := (hg 0 (by omega)).2 0 _ (List.getElem?_eq_getElem h00)
          simpa [Addr.add] using World.cell?_spot hs0
        subst hspot
        refine ⟨b, off, rfl, fun j u hu => ?_⟩
        have hjl : j < len * m := by
          have := (List.getElem?_eq_some_iff.1 hu).1
          rwa [fl_length hfl, hlen] at this
        have hk : j / m < len := Nat.div_lt_of_lt_mul (by rw [Nat.mul_comm]; exact hjl)
        have hr : j % m < m := Nat.mod_lt _ hm0
        have hd : j / m * m + j % m = j := by rw [Nat.mul_comm]; exact Nat.div_add_mod j m
        have hk' : j / m < ((List.range len).map g).length := by rw [hlen]; exact hk
        have h1 := fl_get hfl ((List.range len).map g) (j / m) hk' (j % m) hr
        rw [hd, hu] at h1
        have h2 : ((List.range len).map g)[j / m] = g (j / m) := by rw [List.getElem_map, List.getElem_range]
        rw [h2] at h1
        have h3 := (hg (j / m) (by omega)).2 (j % m) u h1.symm
        rw [add_offR, add_offR, Nat.add_assoc, hd] at h3
        exact h3
    · intro x hx
      obtain ⟨i, hi1, rfl⟩ := List.mem_map.1 hx
      rw [List.mem_range] at hi1
      exact (hg i (by omega)).1

theorem txt_cells {n : Nat} {cs : List Value} {y : DataW H × List MemPlace} (h : DataW.trod enc Try.prog w base spare held n 9 cs = some y) : ∃ x : List UInt8, cs = txC x ∧ x.length ≤ 9223372036854775807 := by
  obtain ⟨t, ht, _, ht2⟩ := DataW.trod_string Try.underlying9 h
  subst ht
  refine ⟨t.data.toList, ?_, ?_⟩
  · unfold txC; rw [bs_of]
  · rw [ba_length]; unfold maxLen at ht2; omega

theorem open_texts {fuel : Nat} {cs : List Value} {x : DataW H × List MemPlace} (h : DataW.trod enc Try.prog w base (fun _ => true) held fuel 37 cs = some x) :
    ∃ (o : Option Addr) (len cap : Nat) (l : List (List UInt8)), cs = [.slice o len cap] ∧ Txs w (.slice o len cap) l := by
  obtain ⟨o, len, cap, l, h1, h2, h3, _⟩ := open_rowT txC (fun x => x.length ≤ 9223372036854775807) txC_len (by omega) Try.underlying37 cellsStrT (fun n cs y hy => txt_cells hy) h
  exact ⟨o, len, cap, l, h1, h3⟩

/-- how many places were read -/
theorem texts_data {fuel : Nat} {cs : List Value} {x : DataW H × List MemPlace} (h : DataW.trod enc Try.prog w base (fun _ => true) held fuel 37 cs = some x) :
    ∃ (o : Option Addr) (len cap : Nat), cs = [.slice o len cap] ∧ (cap = 0 ∨ ∃ es sp, x.1 = .slice es sp ∧ es.length + sp.length = cap) := by
  rcases open_slice Try.underlying37 h with ⟨rfl, _⟩ | ⟨a, len, cap, m, n, D, Pl, rfl, _, hl, hm, hmm, hx, hi⟩
  · exact ⟨none, 0, 0, rfl, .inl rfl⟩
  · rw [if_pos rfl] at hmm
    refine ⟨some a, len, cap, rfl, .inr ⟨_, _, congrArg Prod.fst hx, ?_⟩⟩
    rw [List.length_map, List.length_map, List.length_range, List.length_range, hmm]
    omega

theorem bytesStrT : Try.prog.bytesOf 9 = 16 := by kernel_rfl

end

end Go.Proofs.Ytnmdfdkagkpcaaa
