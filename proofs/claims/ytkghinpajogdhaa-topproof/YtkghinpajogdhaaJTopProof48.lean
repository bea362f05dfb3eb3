/-
  What above, levels, last and Root of package tree return. Conditions: as each says.
-/
import Derived.Test.YtkghinpajogdhaaJTopProof47
namespace Go.Proofs.Ytkghinpajogdhaa
open Go.RowKit
open Go.Proofs
open WoolTree

/-! ytkghinpajogdhaa# rows of zeros -/

theorem zero_cellsT (n : Nat) : madeCells (Value.int .i64 0).cells (n * 1) = (intL (List.replicate n 0)).toArray := by
  apply Array.ext
  · rw [size_madeCells, List.size_toArray, intL_length, List.length_replicate, Nat.mul_one]
  · intro i h1 h2
    rw [size_madeCells] at h1
    have hmd : (madeCells (Value.int .i64 0).cells (n * 1))[i]? = some ((#[Value.int .i64 0])[i % 1]!) := by
      unfold madeCells
      rw [Array.getElem?_map, Array.getElem?_range, if_pos h1]
      rfl
    rw [Array.getElem?_eq_getElem (by rw [size_madeCells]; exact h1)] at hmd
    rw [Option.some.inj hmd, Nat.mod_one]
    simp [intL]

theorem run_zerosT (l c : Nat) (hl : l ≤ c) (hc : c ≤ 64) (W : World) : (Instr.makeSlice 63 (.int .i64 (l : Int)) (.int .i64 (c : Int))).run Try.prog W = .ok (.slice (some ⟨W.heap.size, 0, none⟩) l c) (W.alloc (.cells (intL (List.replicate c 0)).toArray 3)) := by
  obtain ⟨i, hi, hz0, hz1, hz2⟩ := info_parts intInfo
  have h := run_make (P := Try.prog) W 63 3 i _ Try.underlying63 hi hz0 .i64 .i64 (l : Int) (c : Int) (by omega) (by omega) (by rw [hz2]; omega) (by omega)
  rw [hz1, Int.toNat_natCast, Int.toNat_natCast, zero_cellsT] at h
  exact h

theorem zeros_rowT (c : Nat) (W : World) : RowC (W.alloc (.cells (intL (List.replicate c 0)).toArray 3)) W.heap.size 3 (intL (List.replicate c 0)) := heap_alloc_new W _

theorem zeros_noneT (c : Nat) (hc : c ≤ 64) (W : World) : Ints (W.alloc (.cells (intL (List.replicate c 0)).toArray 3)) W.heap.size (.slice (some ⟨W.heap.size, 0, none⟩) 0 c) [] := by
  have := own_mk (m := 1) (n := 0) (cap := c) (L := []) (sp := intL (List.replicate c 0)) (Nat.le_refl W.heap.size) (zeros_rowT c W) rfl (Nat.zero_le _) (by unfold maxLen; omega) (by rw [intL_length, List.length_replicate]; omega)
  exact this

theorem ints_rowT {w : World} {base g c : Nat} {l : List Nat} (hb : base ≤ g) (h : RowC w g 3 (intL l)) (hc : l.length = c) (hm : c ≤ 64) : Ints w base (.slice (some ⟨g, 0, none⟩) c c) l := by
  have := own_mk (m := 1) (n := c) (cap := c) (L := intL l) (sp := []) hb (by rw [List.append_nil]; exact h) (by rw [intL_length]; omega) (Nat.le_refl _) (by unfold maxLen; omega) (by simp)
  unfold Ints
  rw [hc]
  exact this

theorem ints_append {w' : World} {base n : Nat} {v' : Value} {l : List Nat} {x : Nat} (hn : l.length = n) (h : w'.ownsRow base 3 1 v' (n + 1) (intL l ++ [.int .i64 (x : Int)])) : Ints w' base v' (l ++ [x]) := by
  unfold Ints
  rw [intL_snoc, List.length_append, hn]
  exact h

/-- rows of unlike elements lie apart -/
theorem own_apartT {w : World} {b1 b2 T1 T2 m1 m2 n1 n2 : Nat} {v1 v2 : Value} {L1 L2 : List Value} (h1 : w.ownsRow b1 T1 m1 v1 n1 L1) (h2 : w.ownsRow b2 T2 m2 v2 n2 L2) (hne : T1 ≠ T2) : ∀ b, v1.ownBlock = some b → v2.ownBlock ≠ some b := by
  intro b e1 e2
  rcases own_row h1 with ⟨rfl, _⟩ | ⟨g1, c1, s1, rfl, _, r1, _⟩
  · cases e1
  · rcases own_row h2 with ⟨rfl, _⟩ | ⟨g2, c2, s2, rfl, _, r2, _⟩
    · cases e2
    · have a1 : g1 = b := by injection e1
      have a2 : g2 = b := by injection e2
      subst a1 a2
      exact RowC.apart r1 r2 hne rfl

theorem own_grown {w w' : World} {base T m n : Nat} {v : Value} {L : List Value} {row : Option Nat} (h : w.ownsRow base T m v n L) (hg : w.grownBy w' row) (hne : ∀ b, v.ownBlock = some b → row ≠ some b) : w'.ownsRow base T m v n L := by
  refine ⟨h.1, ?_⟩
  rcases h.2 with h' | ⟨g, cap, cur, rfl, h2, h3, h4⟩
  · exact .inl h'
  · refine .inr ⟨g, cap, cur, rfl, h2, ?_, h4⟩
    rw [← h3]; exact hg.block g (World.ownsRow.lt h g rfl).2 (fun e => hne g rfl e.symm)

/-! ytkghinpajogdhaa# above -/

def AbvRel (L : List Nat) (w : World) (nx i : Value) (wr : World) : Prop :=
  ∃ j I : Nat, I = 2 * j ∧ I ≤ L.length + 1 ∧ i = .int .i64 (I : Int) ∧ Ints wr w.heap.size nx ((ab TH L).take j) ∧ Up w wr

def AbvPost (L : List Nat) (w : World) (e : Ending) (w' : World) : Prop := ∃ v, e = .returned v ∧ Ints w' w.heap.size v (ab TH L) ∧ Up w w'

set_option maxRecDepth 100000 in
set_option maxHeartbeats 1000000 in
theorem above_any (v : Value) (base : Nat) (L : List Nat) (w : World) (h : Ints w base v L) (h0 : 0 < L.length) (h32 : L.length ≤ 32) (hb : ∀ x ∈ L, x < 4294967296) :
    Calls Try.prog 50 #[v] w (AbvPost L w) := by
  obtain ⟨g, c, rfl, hg1, hg2, hc1, hc2⟩ := h.block h0
  have hcell := fun j hj => h.cell j hj
  have HC := Lib.hid hcell
  have hla := ab_length TH L
  have hget := ab_getD TH L
  obtain ⟨i0, hi, hz0, hz1, hz2⟩ := info_parts intInfo
  have HI := Lib.hid hi
  have HZ0 := Lib.hid hz0
  have HZ1 := Lib.hid hz1
  have HZ2 := Lib.hid hz2
  obtain ⟨q, hq⟩ : ∃ q, (L.length + 1) / 2 = q := ⟨_, rfl⟩
  have hmk : ∀ W : World, (Instr.makeSlice 63 (.int .i64 0) (.int .i64 (q : Int))).run Try.prog W = .ok (.slice (some ⟨W.heap.size, 0, none⟩) 0 q) (W.alloc (.cells (intL (List.replicate q 0)).toArray 3)) := fun W => run_zerosT 0 q (Nat.zero_le _) (by omega) W
  have hqi : ((L.length : Int) + 1) / 2 = (q : Int) := by omega
  have hqt : ((L.length : Int) + 1).tdiv 2 = (q : Int) := by rw [Int.tdiv_eq_ediv_of_nonneg (by omega)]; exact hqi
  have HN := Lib.hid (zeros_noneT q (by omega) w)
  have HB := Lib.hid hb
  have HLA := Lib.hid hla
  have HGET := Lib.hid hget
  clear hi hz0 hz1 hz2 h hcell hla hget hb
  go_enter Try.func50, Try.ntmps50
  go_wp2_with fail
  go_loopw [3, 4] (fun nx i wr => AbvRel L w nx i wr) (fun _ i _ => L.length + 2 - (intOf i).toNat)
  case atStart => exact ⟨0, 0, rfl, by omega, rfl, by rw [List.take_zero]; exact HN.out, Up.alloc _ _⟩
  case round =>
    obtain ⟨j, I, hI, hj, rfl, hint, hu⟩ := hrel
    have HU := Lib.hid hu
    have hbes : bes I = I + 1 := by unfold bes; rw [if_pos (by omega)]
    have HPR := Lib.hid (fun W => paired_any I L.length W (by omega))
    rw [hbes] at HPR
    have HG := Lib.hid (HGET.out j)
    rw [← hI] at HG
    have HIJ := Lib.hid hI
    by_cases hlt : I < L.length
    · have hj2 : j < (ab TH L).length := by rw [HLA.out]; omega
      have htk : (ab TH L).take (j + 1) = (ab TH L).take j ++ [(ab TH L).getD j 0] := by
        rw [List.take_succ_eq_append_getElem hj2, List.getD_eq_getElem?_getD, List.getElem?_eq_getElem hj2]; rfl
      rw [HG.out] at htk
      have hxa : L.getD I 0 = L[I] := by rw [List.getD_eq_getElem?_getD, List.getElem?_eq_getElem hlt]; rfl
      have htl : ((ab TH L).take j).length = j := by rw [List.length_take]; omega
      have hj32 : j ≤ 32 := by omega
      have hc0 := (hu.cell (p := ⟨g, I, none⟩) hg2).trans (HC.out I hlt)
      have hxb := HB.out L[I] (List.getElem_mem hlt)
      rw [hxa] at htk
      obtain ⟨x, hx⟩ : ∃ x, L[I] = x := ⟨_, rfl⟩
      rw [hx] at hc0 hxb htk
      have d1 : decide (I < L.length) = true := decide_eq_true hlt
      by_cases h2 : I + 1 < L.length
      · have hya : L.getD (I + 1) 0 = L[I + 1] := by rw [List.getD_eq_getElem?_getD, List.getElem?_eq_getElem h2]; rfl
        have hc1 := (hu.cell (p := ⟨g, I + 1, none⟩) hg2).trans (HC.out (I + 1) h2)
        have hyb := HB.out L[I + 1] (List.getElem_mem h2)
        rw [if_pos h2, hya] at htk
        obtain ⟨y, hy⟩ : ∃ y, L[I + 1] = y := ⟨_, rfl⟩
        rw [hy] at hc1 hyb htk
        rw [show decide (I + 1 < L.length) = true from decide_eq_true h2] at HPR
        have HP := Lib.hid (fun W => pair_any x y W hxb hyb)
        have HH := Lib.hid (fun W => hash_any (pr x y) W (by rw [pr_length]; omega))
        rw [show hp TH x y = TH (pr x y) from rfl] at htk
        generalize pr x y = P at *
        generalize TH P = N at *
        have HTK := Lib.hid htk
        have HINT := Lib.hid hint
        obtain ⟨R, hR⟩ : ∃ R, (ab TH L).take j = R := ⟨_, rfl⟩
        rw [hR] at HTK HINT htl
        clear htk hint hya hxa hx hy hxb hyb hbes hu hI HG hj2 hR
        go_wp2_with fail
        refine (HPR.out _).mono ?_
        rintro e w1 ⟨rfl, rfl⟩
        go_wp2_with fail
        refine (HP.out _).mono ?_
        rintro e w2 ⟨rfl, u2⟩
        go_wp2_with fail
        refine (HH.out _).mono ?_
        rintro e w3 ⟨rfl, u3⟩
        have HI3 := Lib.hid (HINT.out.up (u2.trans u3))
        have HU3 := Lib.hid (HU.out.trans (u2.trans u3))
        have hs3 := HU3.out.size
        clear u2 u3
        go_wp2_with (at_builtin; refine wpList_append_own _ rfl _ _ 63 rfl w.heap.size 3 i0 (.int .i64 0) 1 8 Try.underlying63 HI.out HZ0.out HZ1.out HZ2.out rfl (by decide) _ _ _ rfl (World.ownsRow.alloc HI3.out _) ⟨w3.heap.size, 0, none⟩ 1 1 [.int .i64 (N : Int)] rfl rfl (cell_one_new _ _ _) (one_mem' _ rfl) (by unfold maxLen; omega) (by omega) (by simp; omega) ?_)
        intro v' w4 hown' hgrow _
        have HB4 := Lib.hid (ints_append htl hown')
        have HU4 := Lib.hid (grown_up' (HU3.out.trans (Up.alloc _ _)) (World.ownsRow.alloc HI3.out _) hgrow)
        clear hown' hgrow
        go_wp2_with fail
        go_roundw
        case rel => exact ⟨j + 1, I + 2, by have := HIJ.out; omega, by omega, by go_num, by rw [HTK.out]; exact HB4.out, HU4.out⟩
        case measure => simp only [intOf]; omega
      · rw [if_neg h2] at htk
        rw [show decide (I + 1 < L.length) = false from decide_eq_false h2] at HPR
        have HTK := Lib.hid htk
        have HINT := Lib.hid hint
        obtain ⟨R, hR⟩ : ∃ R, (ab TH L).take j = R := ⟨_, rfl⟩
        rw [hR] at HTK HINT htl
        clear htk hint hxa hx hxb hbes hu hI HG hj2 hR
        go_wp2_with fail
        refine (HPR.out _).mono ?_
        rintro e w1 ⟨rfl, rfl⟩
        have hs3 := HU.out.size
        go_wp2_with (at_builtin; refine wpList_append_own _ rfl _ _ 63 rfl w.heap.size 3 i0 (.int .i64 0) 1 8 Try.underlying63 HI.out HZ0.out HZ1.out HZ2.out rfl (by decide) _ _ _ rfl (World.ownsRow.alloc HINT.out _) ⟨wr.heap.size, 0, none⟩ 1 1 [.int .i64 (x : Int)] rfl rfl (cell_one_new _ _ _) (one_mem' _ rfl) (by unfold maxLen; omega) (by omega) (by simp; omega) ?_)
        intro v' w4 hown' hgrow _
        have HB4 := Lib.hid (ints_append htl hown')
        have HU4 := Lib.hid (grown_up' (HU.out.trans (Up.alloc _ _)) (World.ownsRow.alloc HINT.out _) hgrow)
        clear hown' hgrow
        go_wp2_with fail
        go_roundw
        case rel => exact ⟨j + 1, I + 2, by have := HIJ.out; omega, by omega, by go_num, by rw [HTK.out]; exact HB4.out, HU4.out⟩
        case measure => simp only [intOf]; omega
    · have d1 : decide (I < L.length) = false := decide_eq_false hlt
      have hfull : (ab TH L).take j = ab TH L := List.take_of_length_le (by rw [HLA.out]; omega)
      rw [hfull] at hint
      have HINT := Lib.hid hint
      clear hint hfull hbes hu hI HG
      go_wp2_with fail
      go_ret
      exact ⟨_, rfl, HINT.out, HU.out⟩

/-! ytkghinpajogdhaa# levels -/

/-- what levels are still to come -/
def rs (k : Nat) (L : List Nat) : List (List Nat) := if L.length ≤ 1 then [] else lvs TH k (ab TH L)

theorem rs_done (k : Nat) (L : List Nat) (h : L.length ≤ 1) : rs k L = [] := if_pos h
theorem rs_step (k : Nat) (L : List Nat) (h : 2 ≤ L.length) (hk : L.length ≤ 2 ^ (k + 1)) : ∃ k', rs k L = ab TH L :: rs k' (ab TH L) ∧ (ab TH L).length ≤ 2 ^ (k' + 1) := by
  have la := ab_length TH L
  unfold rs
  rw [if_neg (by omega)]
  cases k with
  | zero => exact ⟨0, by rw [if_pos (by simp at hk; omega)]; rfl, by simp at hk ⊢; omega⟩
  | succ k => exact ⟨k, rfl, by rw [Nat.pow_succ] at hk; omega⟩

/-- the leaves' level, as far as it is filled -/
def part (A : List Nat) (k : Nat) : List Nat := A.take k ++ List.replicate (A.length - k) 0

theorem part_length (A : List Nat) (k : Nat) (h : k ≤ A.length) : (part A k).length = A.length := by
  unfold part; rw [List.length_append, List.length_take, List.length_replicate]; omega

theorem part_set (A : List Nat) (k : Nat) (h : k < A.length) : (intL (part A k)).set k (.int .i64 ((A[k] : Nat) : Int)) = intL (part A (k + 1)) := by
  unfold part intL
  apply List.ext_getElem
  · simp; omega
  · intro i h1 h2
    simp only [List.getElem_set, List.getElem_map, List.getElem_append, List.length_take, List.getElem_take, List.getElem_replicate]
    by_cases e : k = i
    · subst e; rw [if_pos rfl, dif_pos (by omega)]
    · rw [if_neg e]
      by_cases h3 : i < k
      · rw [dif_pos (by omega), dif_pos (by omega)]
      · rw [dif_neg (by omega), dif_neg (by omega)]

def LfRel (A : List Nat) (w : World) (i : Value) (wr : World) : Prop :=
  ∃ k : Nat, k ≤ A.length ∧ i = .int .i64 (k : Int) ∧ RowC wr w.heap.size 3 (intL (part A k)) ∧ Up w wr

def LvRel (A : List Nat) (w : World) (lev all : Value) (wr : World) : Prop :=
  ∃ (k : Nat) (D : List (List Nat)) (L : List Nat), lvs TH 5 A = D ++ rs k L ∧ L.length ≤ 2 ^ (k + 1) ∧ 0 < L.length ∧ L.length ≤ 32 ∧ (∀ x ∈ L, x < 4294967296) ∧ Ints wr w.heap.size lev L ∧ Lvs wr w.heap.size all D ∧ D.length ≤ 6 ∧ Up w wr

def LvPost (A : List Nat) (w : World) (e : Ending) (w' : World) : Prop := ∃ v, e = .returned v ∧ Lvs w' w.heap.size v (lvs TH 5 A) ∧ Up w w'

theorem Lvs.more {wr w' : World} {base : Nat} {all v' lev : Value} {D : List (List Nat)} {L : List Nat} {C : List Value} (h1 : wr.ownsRow base 63 1 all C.length C) (h2 : C.length = D.length) (h3 : ∀ k (h : k < D.length) (h' : k < C.length), Ints wr base C[k] D[k])
    (hL : Ints wr base lev L) (hg : wr.grownBy w' all.ownBlock) (ho : w'.ownsRow base 63 1 v' (C.length + 1) (C ++ [lev])) : Lvs w' base v' (D ++ [L]) := by
  have hk : ∀ {v : Value} {l : List Nat}, Ints wr base v l → Ints w' base v l := fun h => own_grown h hg (fun b hb => own_apartT h h1 int_ne_row b hb)
  refine ⟨C ++ [lev], by rw [List.length_append]; exact ho, by rw [List.length_append, List.length_append, h2]; rfl, fun k hk1 hk2 => ?_⟩
  rw [List.length_append] at hk1
  by_cases h : k < D.length
  · rw [List.getElem_append_left (by omega), List.getElem_append_left h]
    exact hk (h3 k h (by omega))
  · have e : k = D.length := by simp at hk1; omega
    subst e
    have e1 : (C ++ [lev])[D.length] = lev := by rw [List.getElem_append_right (by omega)]; simp [h2]
    have e2 : (D ++ [L])[D.length] = L := by simp
    rw [e1, e2]
    exact hk hL

set_option maxRecDepth 100000 in
set_option maxHeartbeats 1000000 in
theorem levels_any (v : Value) (l : List (List UInt8)) (w : World) (h : Txs w v l) (h0 : 0 < l.length) (h32 : l.length ≤ 32) (hs : ∀ t ∈ l, t.length ≤ 64) :
    Calls Try.prog 22 #[v] w (LvPost (lh TH l) w) := by
  have hl := lh_length TH l
  have hget : ∀ k (h : k < l.length), (lh TH l)[k]? = some (TH (lf l[k])) := fun k h => by simp [lh, h]
  have HGET := Lib.hid hget
  have HS := Lib.hid hs
  have HT := Lib.hid h
  obtain ⟨o, c, rfl, hc1, hc2⟩ := h.slice
  obtain ⟨A, hA⟩ : ∃ A, lh TH l = A := ⟨_, rfl⟩
  obtain ⟨n, hn⟩ : ∃ n, l.length = n := ⟨_, rfl⟩
  have HN := Lib.hid hn
  have hbA : ∀ x ∈ A, x < 4294967296 := by rw [← hA]; exact lh_bound TH _ (fun s => by have := TH_lt s; omega) l
  have HBA := Lib.hid hbA
  simp only [hA] at hl HGET ⊢
  rw [hn] at hl h0 h32 hc1 ⊢
  have HA := Lib.hid hA
  have HL := Lib.hid hl
  have hmk := fun W => run_zerosT n n (Nat.le_refl _) (by omega) W
  obtain ⟨i0, hi, hz0, hz1, hz2⟩ := info_parts lvInfo
  have HI := Lib.hid hi
  have HZ0 := Lib.hid hz0
  have HZ1 := Lib.hid hz1
  have HZ2 := Lib.hid hz2
  have HR0 : Hid (RowC (w.alloc (.cells (intL (List.replicate n 0)).toArray 3)) w.heap.size 3 (intL (part A 0))) := by
    show RowC _ _ _ _
    unfold part
    rw [List.take_zero, List.nil_append, Nat.sub_zero, HL.out]
    exact zeros_rowT n w
  clear h hget hs hn hA hbA hl hi hz0 hz1 hz2
  go_enter Try.func22, Try.ntmps22
  go_wp2_with fail
  go_loopw [4, 5, 12] (fun _ _ i wr => LfRel A w i wr) (fun _ _ i _ => n - (intOf i).toNat)
  case atStart => exact ⟨0, Nat.zero_le _, rfl, HR0.out, Up.alloc _ _⟩
  case round =>
    obtain ⟨k, hk, rfl, hrow, hu⟩ := hrel
    have HU := Lib.hid hu
    have HROW := Lib.hid hrow
    rw [HL.out] at hk
    by_cases hlt : k < n
    · have d1 : decide (k < n) = true := decide_eq_true hlt
      have hlt2 : k < l.length := by rw [HN.out]; exact hlt
      obtain ⟨b, off, rfl, h5⟩ := (HT.out.up hu).at (fun e => by rw [e] at hlt2; simp at hlt2)
      have a1 := h5 k hlt2
      have hx := HGET.out k hlt2
      have ht := HS.out _ (List.getElem_mem hlt2)
      obtain ⟨t, hte⟩ : ∃ t, l[k] = t := ⟨_, rfl⟩
      rw [hte] at a1 hx ht
      have hAk : k < A.length := by rw [HL.out]; exact hlt
      have hps := part_set A k hAk
      rw [List.getElem?_eq_getElem hAk] at hx
      rw [Option.some.inj hx] at hps
      have HPS := Lib.hid hps
      clear hps
      have HLF := Lib.hid (fun W => leaf_any t W (by omega))
      have HH := Lib.hid (fun W => hash_any (lf t) W (by unfold lf; rw [List.length_cons]; omega))
      generalize TH (lf t) = N at *
      generalize lf t = P at *
      clear h5 hrow hu hx hte
      go_wp2_with fail
      refine (HLF.out _).mono ?_
      rintro e w1 ⟨rfl, rfl⟩
      go_wp2_with fail
      refine (HH.out _).mono ?_
      rintro e w2 ⟨rfl, u2⟩
      have HR2 := Lib.hid (HROW.out.up u2)
      have HU2 := Lib.hid (HU.out.trans u2)
      have hk3 : k < (intL (part A k)).length := by rw [intL_length, part_length A k (by rw [HL.out]; omega), HL.out]; exact hlt
      have c0 := HR2.out.cell (List.getElem?_eq_getElem hk3)
      have c1 := HR2.out.frozen k
      generalize (intL (part A k))[k] = old at c0
      clear u2 hk3
      go_wp2_with fail
      have HR3 := Lib.hid (HR2.out.set k (.int .i64 (N : Int)))
      rw [HPS.out] at HR3
      have HU3 : Hid (Up w (w2.setCell ⟨w.heap.size, k, none⟩ (.int .i64 (N : Int)))) := Below.setCell HU2.out (p := ⟨w.heap.size, k, none⟩) (Nat.le_refl _) _
      generalize w2.setCell ⟨w.heap.size, k, none⟩ (.int .i64 (N : Int)) = w3 at HR3 HU3 ⊢
      go_roundw
      case rel => exact ⟨k + 1, hAk, by go_num, HR3.out, HU3.out⟩
      case measure => simp only [intOf]; omega
    · have d1 : decide (k < n) = false := decide_eq_false hlt
      have hkn : k = n := by omega
      subst hkn
      have hfull : part A k = A := by unfold part; rw [HL.out, Nat.sub_self, List.replicate_zero, List.append_nil, List.take_of_length_le (by rw [HL.out]; omega)]
      rw [hfull] at hrow
      have HI1 := Lib.hid (ints_rowT (Nat.le_refl _) hrow HL.out (by omega))
      have hlit : Hid (Lvs (wr.alloc (.cells #[.slice (some ⟨w.heap.size, 0, none⟩) k k] 63)) w.heap.size (.slice (some ⟨wr.heap.size, 0, none⟩) 1 1) [A]) := by
        refine ⟨[.slice (some ⟨w.heap.size, 0, none⟩) k k], World.ownsRow_lit wr _ 1 hu.size (by unfold maxLen; omega) rfl, rfl, fun j hj hj' => ?_⟩
        have e : j = 0 := by simpa using hj
        subst e
        exact HI1.out.up (Up.alloc _ _)
      clear hrow hfull hu hlt d1 hmk
      go_wp2_with fail
      have HI2 := Lib.hid (HI1.out.up (Up.alloc wr (.cells #[.slice (some ⟨w.heap.size, 0, none⟩) k k] 63)))
      have HU2 := Lib.hid (HU.out.trans (Up.alloc wr (.cells #[.slice (some ⟨w.heap.size, 0, none⟩) k k] 63)))
      generalize wr.alloc (.cells #[.slice (some ⟨w.heap.size, 0, none⟩) k k] 63) = wb at hlit HI2 HU2 ⊢
      generalize (.slice (some ⟨wr.heap.size, 0, none⟩) 1 1 : Value) = al at hlit ⊢
      clear HI1
      go_loopw [3, 6] (fun lev all wr => LvRel A w lev all wr) (fun lev _ _ => match lev with | .slice _ n _ => n | _ => 0)
      case atStart => exact ⟨4, [A], A, rfl, by rw [HL.out]; omega, by rw [HL.out]; exact h0, by rw [HL.out]; exact h32, HBA.out, HI2.out, hlit.out, by simp, HU2.out⟩
      case round =>
        obtain ⟨j, D, L, hD, hL, hL0, hL32, hLb, hint, hlvs, hD6, hu⟩ := hrel
        obtain ⟨ol, cl, rfl⟩ := hint.shape
        have HU3 := Lib.hid hu
        have HINT := Lib.hid hint
        have HLVS := Lib.hid hlvs
        have HD := Lib.hid hD
        have HLB := Lib.hid hLb
        have hla := ab_length TH L
        by_cases h2 : 2 ≤ L.length
        · have d2 : decide ((L.length : Int) > 1) = true := decide_eq_true (by omega)
          have d3 : decide (1 < (L.length : Int)) = true := decide_eq_true (by omega)
          obtain ⟨j', hrs, hL'⟩ := rs_step j L h2 hL
          have hD2 : lvs TH 5 A = (D ++ [ab TH L]) ++ rs j' (ab TH L) := by rw [hD, hrs, List.append_assoc]; rfl
          have hlen2 : D.length + 1 ≤ 6 := by
            have h6 := lvs_len TH 5 A
            rw [hD, hrs] at h6
            simp at h6
            omega
          have HD2 := Lib.hid hD2
          have HAB := Lib.hid (fun W (hW : Up wr W) => above_any _ _ L W (HINT.out.up hW) hL0 hL32 HLB.out)
          unfold AbvPost at HAB
          have HBB := Lib.hid (ab_bound TH 4294967296 (fun s => by have := TH_lt s; omega) L hLb)
          obtain ⟨M, hM⟩ : ∃ M, ab TH L = M := ⟨_, rfl⟩
          obtain ⟨m, hm⟩ : ∃ m, L.length = m := ⟨_, rfl⟩
          rw [hM] at hla hL' HD2 HAB HBB
          rw [hm] at hL0 hL32 h2 d2 d3 hla HAB ⊢
          clear hm
          have HL' := Lib.hid hL'
          have HLQ := Lib.hid hla
          clear hla
          clear hD hLb hint hlvs hu hrs hD2 hM hL hL'
          go_wp2_with fail
          refine (HAB.out _ (Up.refl _)).mono ?_
          rintro e w4 ⟨v4, rfl, hi4, u4⟩
          obtain ⟨o4, c4, rfl⟩ := hi4.shape
          have HI4 := Lib.hid (show Ints w4 w.heap.size _ M from own_baseT hi4 HU3.out.size)
          have HU4 := Lib.hid (HU3.out.trans u4)
          obtain ⟨C, hC1, hC2, hC3⟩ := HLVS.out.up u4
          have HC1 := Lib.hid hC1
          have HC3 := Lib.hid hC3
          have hs4 := HU4.out.size
          have HC2 := Lib.hid hC2
          have hC6 : C.length ≤ 6 := by omega
          clear hC1 hC2 hC3 hi4 u4
          have HI5 := Lib.hid (HI4.out.up (Up.alloc w4 (.cells #[.slice o4 M.length c4] 63)))
          have HC5 := Lib.hid (World.ownsRow.alloc HC1.out (.cells #[.slice o4 M.length c4] 63))
          have HE5 : Hid (∀ k (h : k < D.length) (h' : k < C.length), Ints (w4.alloc (.cells #[.slice o4 M.length c4] 63)) w.heap.size C[k] D[k]) := fun k h h' => (HC3.out k h h').up (Up.alloc _ _)
          go_wp2_with (at_builtin; refine wpList_append_own _ rfl _ _ 61 rfl w.heap.size 63 i0 (.slice none 0 0) 1 24 Try.underlying61 HI.out HZ0.out HZ1.out HZ2.out rfl (by decide) _ _ _ rfl HC5.out ⟨w4.heap.size, 0, none⟩ 1 1 [.slice o4 M.length c4] rfl rfl (cell_one_new _ _ _) (one_mem' _ rfl) (by unfold maxLen; omega) (by omega) (by simp; omega) ?_)
          intro v' w5 hown' hgrow _
          have HB5 := Lib.hid (Lvs.more HC5.out HC2.out HE5.out HI5.out hgrow hown')
          have HI6 := Lib.hid (show Ints w5 w.heap.size _ M from own_grown HI5.out hgrow (fun b hb => own_apartT HI5.out HC5.out int_ne_row b hb))
          have HU5 := Lib.hid (grown_up' (HU4.out.trans (Up.alloc _ _)) HC5.out hgrow)
          clear hown' hgrow
          go_wp2_with fail
          go_roundw
          case rel => exact ⟨j', D ++ [M], M, HD2.out, HL'.out, by have := HLQ.out; omega, by have := HLQ.out; omega, HBB.out, HI6.out, HB5.out, by rw [List.length_append]; exact hlen2, HU5.out⟩
          case measure => have := HLQ.out; simp only; omega
        · have d2 : decide ((L.length : Int) > 1) = false := decide_eq_false (by omega)
          have d3 : decide (1 < (L.length : Int)) = false := decide_eq_false (by omega)
          rw [rs_done j L (by omega), List.append_nil] at hD
          rw [← hD] at hlvs
          have HLV := Lib.hid hlvs
          clear hD hlvs hint hu HD HLVS HINT hL
          go_wp2_with fail
          go_ret
          exact ⟨_, rfl, HLV.out, HU3.out⟩

theorem root_last (A : List Nat) (h0 : 0 < A.length) (h : A.length ≤ 32) (hk : (lvs TH 5 A).length - 1 < (lvs TH 5 A).length) : (lvs TH 5 A)[(lvs TH 5 A).length - 1] = [root TH A] := lvs_last TH 5 A h0 (by omega) hk

set_option maxRecDepth 100000 in
theorem lastT_any (v : Value) (base : Nat) (A : List Nat) (w : World) (h : Lvs w base v (lvs TH 5 A)) (h0 : 0 < A.length) (h32 : A.length ≤ 32) :
    Calls Try.prog 21 #[v] w fun e w' => e = .returned (.int .i64 ((root TH A : Nat) : Int)) ∧ w = w' := by
  obtain ⟨o, c, rfl, hc1, hc2⟩ := h.slice
  have hp := lvs_pos TH 5 A
  have hl6 := lvs_len TH 5 A
  obtain ⟨g, rfl, hg⟩ := h.get hp
  obtain ⟨o', c', k1, k2⟩ := hg ((lvs TH 5 A).length - 1) (by omega)
  have e := root_last A h0 h32 (by omega)
  rw [e] at k1 k2
  obtain ⟨g', c2, e2, _, _, _, _⟩ := k2.block (by simp)
  rw [e2] at k1 k2
  have k3 := k2.cell 0 (by simp)
  simp only [List.getElem_cons_zero, List.length_singleton] at k1 k3
  obtain ⟨n, hn⟩ : ∃ n, (lvs TH 5 A).length = n := ⟨_, rfl⟩
  generalize root TH A = R at *
  rw [hn] at hp hl6 k1 hc1 ⊢
  obtain ⟨m, rfl⟩ : ∃ m, n = m + 1 := ⟨n - 1, by omega⟩
  rw [Nat.add_sub_cancel] at k1
  have e3 : ((m + 1 : Nat) : Int) - 1 = (m : Int) := by omega
  clear h hg e e2 k2 hn
  go_enter Try.func21, Try.ntmps21
  go_wp2_with fail
  go_ret
  exact ⟨rfl, rfl⟩

/-- what Root returns -/
def rootV (l : List (List UInt8)) : Int := if chkT l = 0 then ((rtx TH l : Nat) : Int) else 0

set_option maxRecDepth 100000 in
theorem rootT_any (v : Value) (l : List (List UInt8)) (w : World) (h : Txs w v l) :
    Calls Try.prog 8 #[v] w fun e w' => e = .returned (.tuple #[.int .i64 (rootV l), .int .i64 (chkT l)]) ∧ Up w w' := by
  have HC := Lib.hid (fun W (hW : Up w W) => checkT_any v l W (h.up hW))
  obtain ⟨o, c, rfl, hc⟩ := h.slice
  by_cases hE : chkT l = 0
  · obtain ⟨h0, h32, hs⟩ := chkT_ok hE
    have HLV := Lib.hid (fun W (hW : Up w W) => levels_any _ l W (h.up hW) h0 h32 hs)
    unfold LvPost at HLV
    have hv : rootV l = ((root TH (lh TH l) : Nat) : Int) := if_pos hE
    have hl := lh_length TH l
    rw [hv, hE]
    rw [hE] at HC
    have HLT := Lib.hid (fun W v (hl : Lvs W w.heap.size v (lvs TH 5 (lh TH l))) => lastT_any v _ _ W hl (by rw [lh_length]; exact h0) (by rw [lh_length]; exact h32))
    generalize root TH (lh TH l) = R at *
    generalize lvs TH 5 (lh TH l) = LL at *
    generalize l.length = n at *
    clear hv hE hs h hl
    go_enter Try.func8, Try.ntmps8
    go_wp2_with fail
    refine (HC.out _ (Up.refl _)).mono ?_
    rintro e w1 ⟨rfl, u1⟩
    have HU1 := Lib.hid u1
    clear u1
    go_wp2_with fail
    refine (HLV.out _ HU1.out).mono ?_
    rintro e w2 ⟨v2, rfl, hl2, u2⟩
    have HL2 := Lib.hid hl2
    have HU2 := Lib.hid (HU1.out.trans u2)
    obtain ⟨o2, c2, rfl, _, _⟩ := hl2.slice
    have HL3 : Hid (Lvs w2 w.heap.size (.slice o2 LL.length c2) LL) := by
      obtain ⟨C, h1, h2, h3⟩ := hl2
      exact ⟨C, own_baseT h1 HU1.out.size, h2, fun k a b => own_baseT (h3 k a b) HU1.out.size⟩
    clear hl2 u2
    go_wp2_with fail
    refine (HLT.out _ _ HL3.out).mono ?_
    rintro e w3 ⟨rfl, rfl⟩
    go_wp2_with fail
    go_ret2
    exact ⟨rfl, HU2.out⟩
  · have hv : rootV l = 0 := if_neg hE
    rw [hv]
    have hne : (chkT l != 0) = true := by rw [bne_iff_ne]; exact hE
    obtain ⟨E, hEE⟩ : ∃ E, chkT l = E := ⟨_, rfl⟩
    rw [hEE] at HC hne ⊢
    clear hE h hv hEE
    go_enter Try.func8, Try.ntmps8
    go_wp2_with fail
    refine (HC.out _ (Up.refl _)).mono ?_
    rintro e w1 ⟨rfl, u1⟩
    go_wp2_with fail
    go_ret2
    exact ⟨rfl, u1⟩

end Go.Proofs.Ytkghinpajogdhaa
