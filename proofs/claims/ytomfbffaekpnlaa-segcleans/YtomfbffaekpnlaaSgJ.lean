/-
  The texts RSeg2, SegV, SegW, one behind the other; each says below what it holds and on what conditions.
-/
import Derived.Test.YtomfbffaekpnlaaSegB
import Derived.Deep.QuietTactic
import Derived.BigQuiet
import Derived.Shelf.Abstract
import Derived.Test.YtomfbffaekpnlaaSegQ
import Derived.Test.YtomfbffaekpnlaaSegI
import Derived.Test.YtomfbffaekpnlaaRSeg4

/-
  slices.Equal of records, slices.EqualFunc of segments and the reference's SameSegs, where both read alike. Condition: the rows can be read.
-/
namespace Go.Proofs.Ytomfbffaekpnlaa
open Go.RowKit
open Go.Proofs
open WoolBag
open WoolSeg
open Go.Shelf

def EqRel (s : List Rc) (w : World) (i : Value) (wr : World) : Prop := ∃ k : Nat, k ≤ s.length ∧ i = .int .i64 (k : Int) ∧ Up w wr

set_option maxRecDepth 100000 in
set_option maxHeartbeats 2000000 in
theorem equalR_yes (v u : Value) (s : List Rc) (w : World) (h : Recs w v s) (hu : Recs w u s) :
    Calls Try.prog 25 #[v, u] w fun e w' => e = .returned (.bool true) ∧ Up w w' := by
  have HX := Lib.hid h
  have HY := Lib.hid hu
  obtain ⟨o, c, rfl, h2, h3⟩ := h.slice
  obtain ⟨o', c', rfl, h2', h3'⟩ := hu.slice
  unfold maxLen at h3 h3'
  obtain ⟨n, hn⟩ : ∃ n, s.length = n := ⟨_, rfl⟩
  have HN := Lib.hid hn
  rw [hn] at h2 h2' HX HY ⊢
  clear h hu hn
  go_enter Try.func25, Try.ntmps25
  go_wp2_with fail
  go_loopw [5, 13] (fun _ i wr => EqRel s w i wr) (fun _ i _ => n - (intOf i).toNat)
  case atStart => exact ⟨0, Nat.zero_le _, rfl, Up.refl w⟩
  case round =>
    obtain ⟨k, hk, rfl, hup⟩ := hrel
    rw [HN.out] at hk
    have HU := Lib.hid hup
    by_cases hlt : k < n
    · have hks : k < s.length := by rw [HN.out]; exact hlt
      obtain ⟨b, off, rfl, hat⟩ := HX.out.at (by rintro rfl; simp at hks)
      obtain ⟨b', off', rfl, hat'⟩ := HY.out.at (by rintro rfl; simp at hks)
      obtain ⟨a0, a1, a2, a3⟩ := hat k hks
      obtain ⟨c0, c1, c2, c3⟩ := hat' k hks
      rw [← hup.cell (World.block_lt_of_cell? w _ a0)] at a0
      rw [← hup.cell (World.block_lt_of_cell? w _ a1)] at a1
      rw [← hup.cell (World.block_lt_of_cell? w _ a2)] at a2
      rw [← hup.cell (World.block_lt_of_cell? w _ a3)] at a3
      rw [← hup.cell (World.block_lt_of_cell? w _ c0)] at c0
      rw [← hup.cell (World.block_lt_of_cell? w _ c1)] at c1
      rw [← hup.cell (World.block_lt_of_cell? w _ c2)] at c2
      rw [← hup.cell (World.block_lt_of_cell? w _ c3)] at c3
      generalize s[k].1.1 = x0 at a0 c0
      generalize s[k].1.2.1 = x1 at a1 c1
      generalize s[k].1.2.2 = x2 at a2 c2
      generalize bs s[k].2 = x3 at a3 c3
      have d1 : decide (k < n) = true := decide_eq_true hlt
      have hk0 : (0 : Int) ≤ (k : Int) := Int.natCast_nonneg _
      have hkn : (k : Int) < (n : Int) := by omega
      clear hat hat' hup hks
      go_wp2_with fail
      go_quiet (fail)
      all_goals
        go_wp2_with fail
        go_roundw
        case rel => exact ⟨k + 1, by rw [HN.out]; omega, by go_num, HU.out.trans (Up.drewN _ _)⟩
        case measure => simp only [intOf]; omega
    · have d1 : decide (k < n) = false := decide_eq_false hlt
      clear hup
      go_wp2_with fail
      go_ret
      exact ⟨rfl, HU.out⟩

theorem sameSegs_in (v u : Value) (s : List Rc) (w : World) (h : Recs w v s) (hu : Recs w u s) :
    Calls Try.prog 24 #[v, u] w fun e w' => e = .returned (.bool true) ∧ Up w w' := by
  have HE := Lib.hid (equalR_yes v u s w h hu)
  obtain ⟨o, c, rfl, _, _⟩ := h.slice
  obtain ⟨o', c', rfl, _, _⟩ := hu.slice
  generalize s.length = n at HE ⊢
  clear h hu
  go_enter Try.func24, Try.ntmps24
  go_wp2_with fail
  refine HE.out.mono ?_
  rintro e w1 ⟨rfl, u1⟩
  go_wp2_with fail
  go_ret
  exact ⟨rfl, u1⟩

theorem eg_same : ∀ args w, (callFunc 24 args).run Try.prog w = .ok (.enter 24 args) w := enters_of Try.func24 (by kernel_rfl) rfl

def EfRel (l : List (List Rc)) (w : World) (i : Value) (wr : World) : Prop := ∃ k : Nat, k ≤ l.length ∧ i = .int .i64 (k : Int) ∧ Up w wr

set_option maxRecDepth 100000 in
set_option maxHeartbeats 2000000 in
theorem equalF_yes (v u : Value) (l : List (List Rc)) (w : World) (h : Sgs w v l) (hu : Sgs w u l) :
    Calls Try.prog 23 #[v, u, .func (.func 24) #[] #[]] w fun e w' => e = .returned (.bool true) ∧ Up w w' := by
  have eg := eg_same
  have HX := Lib.hid h
  have HY := Lib.hid hu
  obtain ⟨o, c, rfl, h2, h3⟩ := h.slice
  obtain ⟨o', c', rfl, h2', h3'⟩ := hu.slice
  unfold maxLen at h3 h3'
  obtain ⟨n, hn⟩ : ∃ n, l.length = n := ⟨_, rfl⟩
  have HN := Lib.hid hn
  rw [hn] at h2 h2' HX HY ⊢
  clear h hu hn
  go_enter Try.func23, Try.ntmps23
  go_wp2_with fail
  go_loopw [7, 17] (fun _ i wr => EfRel l w i wr) (fun _ i _ => n - (intOf i).toNat)
  case atStart => exact ⟨0, Nat.zero_le _, rfl, Up.refl w⟩
  case round =>
    obtain ⟨k, hk, rfl, hup⟩ := hrel
    rw [HN.out] at hk
    have HU := Lib.hid hup
    by_cases hlt : k < n
    · have hks : k < l.length := by rw [HN.out]; exact hlt
      obtain ⟨b, off, rfl, hat⟩ := HX.out.at (by rintro rfl; simp at hks)
      obtain ⟨b', off', rfl, hat'⟩ := HY.out.at (by rintro rfl; simp at hks)
      obtain ⟨x, a0, hx⟩ := hat k hks
      obtain ⟨y, c0, hy⟩ := hat' k hks
      rw [← hup.cell (World.block_lt_of_cell? w _ a0)] at a0
      rw [← hup.cell (World.block_lt_of_cell? w _ c0)] at c0
      have HIN := Lib.hid (sameSegs_in x y l[k] wr (hx.up hup) (hy.up hup))
      obtain ⟨ox, cx, hxv, _, _⟩ := hx.slice
      obtain ⟨oy, cy, hyv, _, _⟩ := hy.slice
      generalize l[k].length = m at hxv hyv
      subst hxv hyv
      have d1 : decide (k < n) = true := decide_eq_true hlt
      clear hat hat' hup hx hy
      go_wp2_with fail
      refine HIN.out.mono ?_
      rintro e w1 ⟨rfl, u1⟩
      have HU1 := Lib.hid (HU.out.trans u1)
      clear u1
      go_wp2_with fail
      go_roundw
      case rel => exact ⟨k + 1, by rw [HN.out]; omega, by go_num, HU1.out⟩
      case measure => simp only [intOf]; omega
    · have d1 : decide (k < n) = false := decide_eq_false hlt
      clear hup
      go_wp2_with fail
      go_ret
      exact ⟨rfl, HU.out⟩

set_option maxRecDepth 100000 in
theorem sameSegs_yes (v u : Value) (l : List (List Rc)) (w : World) (h : Sgs w v l) (hu : Sgs w u l) :
    Calls Try.prog 9 #[v, u] w fun e w' => e = .returned (.bool true) ∧ Up w w' := by
  have HE := Lib.hid (equalF_yes v u l w h hu)
  obtain ⟨o, c, rfl, _, _⟩ := h.slice
  obtain ⟨o', c', rfl, _, _⟩ := hu.slice
  generalize l.length = n at HE ⊢
  clear h hu
  go_enter Try.func9, Try.ntmps9
  go_wp2_with fail
  refine HE.out.mono ?_
  rintro e w1 ⟨rfl, u1⟩
  go_wp2_with fail
  go_ret
  exact ⟨rfl, u1⟩

end Go.Proofs.Ytomfbffaekpnlaa

/-
  slices.Equal of ints that are alike; the law SegKeeps's sum. Conditions: the rows can be read.
-/
namespace Go.Proofs.Ytomfbffaekpnlaa
open Go.RowKit
open Go.Proofs
open WoolBag
open WoolSeg

def EnRelN (A : List Nat) (w : World) (i : Value) (wr : World) : Prop := ∃ k : Nat, k ≤ A.length ∧ i = .int .i64 (k : Int) ∧ Up w wr

set_option maxRecDepth 100000 in
set_option maxHeartbeats 2000000 in
theorem equalN_yes (v u : Value) (A : List Nat) (w : World) (h : Ns w v A) (hu : Ns w u A) (hl : A.length ≤ 100) :
    Calls Try.prog 15 #[v, u] w fun e w' => e = .returned (.bool true) ∧ Up w w' := by
  have HX := Lib.hid h
  have HY := Lib.hid hu
  obtain ⟨o, c, rfl, h2, h3⟩ := h.slice
  obtain ⟨o', c', rfl, h2', h3'⟩ := hu.slice
  obtain ⟨n, hn⟩ : ∃ n, A.length = n := ⟨_, rfl⟩
  have HN := Lib.hid hn
  rw [hn] at h2 h2' hl HX HY ⊢
  clear h hu hn h3 h3'
  go_enter Try.func15, Try.ntmps15
  go_wp2_with fail
  go_loopw [5, 13] (fun _ i wr => EnRelN A w i wr) (fun _ i _ => n - (intOf i).toNat)
  case atStart => exact ⟨0, Nat.zero_le _, rfl, Up.refl w⟩
  case round =>
    obtain ⟨k, hk, rfl, hup⟩ := hrel
    rw [HN.out] at hk
    have HU := Lib.hid hup
    by_cases hlt : k < n
    · have hks : k < A.length := by rw [HN.out]; exact hlt
      obtain ⟨b, off, rfl, hat⟩ := HX.out.at (by rintro rfl; simp at hks)
      obtain ⟨b', off', rfl, hat'⟩ := HY.out.at (by rintro rfl; simp at hks)
      have a0 := hat k hks
      have c0 := hat' k hks
      rw [← hup.cell (World.block_lt_of_cell? w _ a0)] at a0
      rw [← hup.cell (World.block_lt_of_cell? w _ c0)] at c0
      generalize A[k] = x at a0 c0
      have d1 : decide (k < n) = true := decide_eq_true hlt
      have hk0 : (0 : Int) ≤ (k : Int) := Int.natCast_nonneg _
      have hkn : (k : Int) < (n : Int) := by omega
      clear hat hat' hup
      go_wp2_with fail
      first
        | (go_roundw
           case rel => exact ⟨k + 1, by rw [HN.out]; omega, by go_num, HU.out⟩
           case measure => simp only [intOf]; omega)
        | (go_quiet (fail)
           all_goals
             go_wp2_with fail
             go_roundw
             case rel => exact ⟨k + 1, by rw [HN.out]; omega, by go_num, HU.out.trans (Up.drewN _ _)⟩
             case measure => simp only [intOf]; omega)
    · have d1 : decide (k < n) = false := decide_eq_false hlt
      clear hup
      go_wp2_with fail
      go_ret
      exact ⟨rfl, HU.out⟩

theorem sum_step {A : List Nat} {k : Nat} (h : k < A.length) : (A.take (k + 1)).sum = (A.take k).sum + A[k] := by
  rw [List.take_succ_eq_append_getElem h, List.sum_append]
  simp
theorem sum_le (A : List Nat) (k : Nat) : (A.take k).sum ≤ A.sum := by
  conv => rhs; rw [← List.take_append_drop k A, List.sum_append]
  omega

def SumNRel (A : List Nat) (w : World) (s i : Value) (wr : World) : Prop := ∃ k : Nat, k ≤ A.length ∧ i = .int .i64 (k : Int) ∧ s = .int .i64 (((A.take k).sum : Nat) : Int) ∧ w = wr

end Go.Proofs.Ytomfbffaekpnlaa

/-
  What slices.Concat returns at slices of segments: one new slice of all, one behind the other. Conditions: they can be read.
-/
namespace Go.Proofs.Ytomfbffaekpnlaa
open Go.RowKit
open Go.Proofs
open WoolBag
open WoolSeg

/-- a slice's head -/
abbrev Hd := Option Addr × Nat × Nat
def hdC (h : Hd) : List Value := [.slice h.1 h.2.1 h.2.2]
theorem hdC_len (h : Hd) : (hdC h).length = 1 := rfl
theorem hdC_one (h : Hd) : ∀ u ∈ hdC h, u.oneCell' = true := by
  intro u hu; unfold hdC at hu; simp at hu; rw [hu]; rfl
def Hds (w : World) (v : Value) (s : List Hd) : Prop := Sl w 1 v s.length (fl hdC s)
theorem Hds.up {w w' : World} {v : Value} {s : List Hd} (h : Hds w v s) (hu : Up w w') : Hds w' v s := Sl.up h hu
theorem Hds.slice {w : World} {v : Value} {s : List Hd} (h : Hds w v s) : ∃ o c, v = .slice o s.length c ∧ s.length ≤ c ∧ c ≤ maxLen := Sl.slice h
def Hdss (w : World) (v : Value) (l : List (List Hd)) : Prop := ∃ C, Sl w 1 v C.length C ∧ ∃ e : C.length = l.length, ∀ k (h : k < l.length), Hds w (C[k]'(by omega)) l[k]
theorem Hdss.slice {w : World} {v : Value} {l : List (List Hd)} (h : Hdss w v l) : ∃ o c, v = .slice o l.length c ∧ l.length ≤ c ∧ c ≤ maxLen := by
  obtain ⟨C, h1, h2, _⟩ := h
  have := Sl.slice h1
  rwa [h2] at this
theorem Hdss.at {w : World} {o : Option Addr} {n c : Nat} {l : List (List Hd)} (h : Hdss w (.slice o n c) l) (hne : l ≠ []) : ∃ b off, o = some ⟨b, off, none⟩ ∧ ∀ k (hk : k < l.length), ∃ u, w.cell? ⟨b, off + k, none⟩ = some u ∧ Hds w u l[k] := by
  obtain ⟨C, h1, hl, h2⟩ := h
  obtain ⟨b, off, e, h3⟩ := Sl.cells h1 (by intro e; exact hne (List.eq_nil_of_length_eq_zero (by omega)))
  refine ⟨b, off, e, fun k hk => ⟨C[k]'(by omega), h3 k _ (List.getElem?_eq_getElem _), h2 k hk⟩⟩

theorem Hds.news {w : World} {o : Option Addr} {n c : Nat} {l : List Hd} (h : Hds w (.slice o n c) l) (h0 : 0 < l.length) : ∃ ad : Addr, o = some ad ∧ ∀ j u, (fl hdC l)[j]? = some u → w.cell? (ad.add j) = some u := by
  obtain ⟨b, off, h1, h2⟩ := Sl.cells h (by omega)
  exact ⟨⟨b, off, none⟩, h1, fun j u hj => by rw [add_offS]; exact h2 j u hj⟩

def GrowPostH (n : Nat) (w : World) (e : Ending) (w' : World) : Prop :=
  ∃ G, e = .returned (.slice (some ⟨w.heap.size, 0, none⟩) 0 G) ∧ n ≤ G ∧ w'.ownsRow w.heap.size 31 1 (.slice (some ⟨w.heap.size, 0, none⟩) 0 G) 0 [] ∧ Up w w'

theorem zero_sizeH (n : Nat) : (Builtin.zeroCells (Value.slice none 0 0).cells n).size = n * 1 := by
  unfold Builtin.zeroCells
  rw [Array.size_map, Array.size_range]
  rfl

set_option maxRecDepth 100000 in
set_option maxHeartbeats 400000 in
theorem grow_nilH (n : Nat) (w : World) (h0 : 0 < n) (h : n * 24 ≤ 281474976710656) :
    Calls Try.prog 35 #[.slice none 0 0, .int .i64 (n : Int)] w (GrowPostH n w) := by
  obtain ⟨i0, hi, hz0, hz1, hz2⟩ := sgInfo'
  have hold : (Builtin.firstCells i0.size 0 (.slice none 0 0)).run Try.prog w.drew = .ok ([] : List Value).toArray w.drew := by simp [Builtin.firstCells]
  have hnx : Builtin.nextslicecap (0 + n) 0 = n := by unfold Builtin.nextslicecap; rw [if_pos (by omega)]; omega
  have hrun := fun ty => Lib.run_append_grow_zeros (P := Try.prog) w 22 3 ty 31 i0 _ .i64 .i64 Try.underlying22 Try.underlying3 hi hz0 none 0 0 [] hold n h0 (by rw [hz1]; omega) (by omega) (by omega) (by rw [hz2]; exact h) (by rw [hz2, hnx]; exact h)
  have hG1 := grownCap_ge w (0 + n) 0 31
  have hG2 := grownCap_le_maxLen w (0 + n) 0 31 (by unfold maxLen; omega)
  obtain ⟨G, hG⟩ : ∃ G, grownCap w (0 + n) 0 31 = G := ⟨_, rfl⟩
  rw [hG] at hG1 hG2
  simp only [hG] at hrun
  obtain ⟨cs, hcs⟩ : ∃ cs, (([] : List Value).toArray ++ Builtin.zeroCells (Value.slice none 0 0).cells n ++ Builtin.zeroCells (Value.slice none 0 0).cells (G - (0 + n))) = cs := ⟨_, rfl⟩
  have hsz : cs.size = G * 1 := by rw [← hcs, Array.size_append, Array.size_append, zero_sizeH, zero_sizeH]; simp; omega
  simp only [hcs] at hrun
  have HSZ := Lib.hid hsz
  unfold maxLen at hG2
  clear hcs hsz hG hold hnx hi hz0 hz1 hz2
  have d1 : decide ((n : Int) < 0) = false := by rw [decide_eq_false_iff_not]; omega
  have d2 : decide (0 < n) = true := decide_eq_true h0
  rw [Nat.zero_add] at hrun
  go_enter Try.func35, Try.ntmps35
  go_wp2_with (at_builtin; refine wpList_append_runR _ rfl _ _ #[22, 3] rfl _ _ _ _ rfl rfl (hrun _) ?_)
  go_ret
  refine ⟨G, rfl, by omega, ⟨rfl, .inr ⟨w.heap.size, G, cs, rfl, Nat.le_refl _, heap_alloc_new _ _, Nat.zero_le _, by unfold maxLen; omega, HSZ.out, rfl⟩⟩, (Up.drew _).trans (Up.alloc _ _)⟩

set_option maxRecDepth 100000 in
theorem grow_noneH (w : World) :
    Calls Try.prog 35 #[.slice none 0 0, .int .i64 0] w fun e w' => e = .returned (.slice none 0 0) ∧ w = w' := by
  go_enter Try.func35, Try.ntmps35
  go_wp2_with fail
  go_ret
  exact ⟨rfl, rfl⟩

/-- an append into a row that has room -/
theorem run_catH {w : World} {base g k G n c : Nat} {o : Option Addr} {xs l : List Hd} (ty : TypeId) (hown : w.ownsRow base 31 1 (.slice (some ⟨g, 0, none⟩) k G) k (fl hdC xs)) (hs : Hds w (.slice o n c) l) (hroom : k + l.length ≤ G) (h1l : ∀ u ∈ fl hdC l, u.oneCell' = true) :
    ∃ w', (Builtin.append_ #[22, 22] ty #[.slice (some ⟨g, 0, none⟩) k G, .slice o n c]).run Try.prog w = .ok (.slice (some ⟨g, 0, none⟩) (k + l.length) G) w' ∧
      w'.ownsRow base 31 1 (.slice (some ⟨g, 0, none⟩) (k + l.length) G) (k + l.length) (fl hdC (xs ++ l)) ∧ w.grownBy w' (some g) := by
  obtain ⟨i0, hi, hz0, hz1, hz2⟩ := sgInfo'
  have hn : n = l.length := by
    obtain ⟨o', c', hv, _⟩ := Sl.slice hs
    simp only [Value.slice.injEq] at hv
    exact hv.2.1
  subst hn
  rcases Nat.eq_zero_or_pos l.length with h0 | h0
  · have hl : l = [] := List.eq_nil_of_length_eq_zero h0
    subst hl
    refine ⟨w, ?_, by rw [List.append_nil]; exact hown, World.grownBy.refl _ _⟩
    have hkG : k ≤ G := hroom
    cases o with
    | none => simp [Builtin.append_, run_underlying Try.underlying22, sizeOf, typeInfo, hi, Builtin.lenOf, Builtin.firstCells, storeCells, hkG]
    | some a => simp [Builtin.append_, run_underlying Try.underlying22, sizeOf, typeInfo, hi, Builtin.lenOf, Builtin.firstCells, storeCells, loadCells, loadCellsFrom, hkG]
  · obtain ⟨ad, rfl, hnews⟩ := Hds.news hs h0
    obtain ⟨w', hrun, r1, r2⟩ := run_append_fits (P := Try.prog) w base 22 ty 31 i0 1 Try.underlying22 hi hz1 g k G (fl hdC xs) hown ad l.length c (fl hdC l) (fl_length hdC_len l) hnews h1l hroom
    exact ⟨w', hrun, by rw [fl_append]; exact r1, r2⟩

/-- an append of nothing to nil -/
theorem run_cat_noneH {w : World} {n c : Nat} {o : Option Addr} {l : List Hd} (ty : TypeId) (hs : Hds w (.slice o n c) l) (h0 : l.length = 0) :
    (Builtin.append_ #[22, 22] ty #[.slice none 0 0, .slice o n c]).run Try.prog w = .ok (.slice none 0 0) w := by
  obtain ⟨i0, hi, hz0, hz1, hz2⟩ := sgInfo'
  have hn : n = 0 := by
    obtain ⟨o', c', hv, _⟩ := Sl.slice hs
    simp only [Value.slice.injEq] at hv
    rw [hv.2.1, h0]
  subst hn
  cases o with
  | none => simp [Builtin.append_, run_underlying Try.underlying22, sizeOf, typeInfo, hi, Builtin.lenOf, Builtin.firstCells]
  | some a => simp [Builtin.append_, run_underlying Try.underlying22, sizeOf, typeInfo, hi, Builtin.lenOf, Builtin.firstCells, loadCells, loadCellsFrom]

/-- what has been put together -/
def CatRowH (w : World) (base N : Nat) (v : Value) (xs : List Hd) : Prop :=
  (N = 0 ∧ xs = [] ∧ v = .slice none 0 0) ∨ ∃ g G, v = .slice (some ⟨g, 0, none⟩) xs.length G ∧ N ≤ G ∧ w.ownsRow base 31 1 v xs.length (fl hdC xs)

theorem CatRowH.recs {w : World} {base N : Nat} {v : Value} {xs : List Hd} (h : CatRowH w base N v xs) : Hds w v xs := by
  rcases h with ⟨_, rfl, rfl⟩ | ⟨g, G, rfl, _, h⟩
  · exact Sl.nil w 1
  · exact Sl.of_own h

/-- one more row behind what has been put together -/
theorem CatRowH.more {w wr : World} {N : Nat} {v : Value} {xs l : List Hd} {o : Option Addr} {n c : Nat} (ty : TypeId) (h : CatRowH wr w.heap.size N v xs) (hu : Up w wr) (hs : Hds wr (.slice o n c) l) (hN : xs.length + l.length ≤ N) (h1l : ∀ u ∈ fl hdC l, u.oneCell' = true) :
    ∃ v' w', (Builtin.append_ #[22, 22] ty #[v, .slice o n c]).run Try.prog wr = .ok v' w' ∧ CatRowH w' w.heap.size N v' (xs ++ l) ∧ Up w w' := by
  rcases h with ⟨h0, rfl, rfl⟩ | ⟨g, G, rfl, hG, hown⟩
  · have hl : l.length = 0 := by omega
    refine ⟨_, _, run_cat_noneH ty hs hl, ?_, hu⟩
    rw [List.eq_nil_of_length_eq_zero hl]
    exact .inl ⟨h0, rfl, rfl⟩
  · obtain ⟨w', hrun, r1, r2⟩ := run_catH ty hown hs (by omega) h1l
    refine ⟨_, w', hrun, .inr ⟨g, G, by rw [List.length_append], hG, by rw [List.length_append]; exact r1⟩, ?_⟩
    exact grown_upR hu hown r2


def GrewPostH (n : Nat) (w : World) (e : Ending) (w' : World) : Prop := ∃ v, e = .returned v ∧ CatRowH w' w.heap.size n v [] ∧ Up w w'

theorem grow_anyH (n : Nat) (i : Int) (w : World) (hi : i = (n : Int)) (h : n * 24 ≤ 281474976710656) :
    Calls Try.prog 35 #[.slice none 0 0, .int .i64 i] w (GrewPostH n w) := by
  subst hi
  rcases Nat.eq_zero_or_pos n with h0 | h0
  · subst h0
    refine (grow_noneH w).mono ?_
    rintro e w' ⟨rfl, rfl⟩
    exact ⟨_, rfl, .inl ⟨rfl, rfl, rfl⟩, Up.refl _⟩
  · refine (grow_nilH n w h0 h).mono ?_
    rintro e w' ⟨G, rfl, hG, hown, hu⟩
    exact ⟨_, rfl, .inr ⟨_, G, rfl, hG, hown⟩, hu⟩

theorem CatRowH.shape {w : World} {base N : Nat} {v : Value} {xs : List Hd} (h : CatRowH w base N v xs) : ∃ o c, v = .slice o xs.length c := by
  rcases h with ⟨_, rfl, rfl⟩ | ⟨g, G, rfl, _⟩
  · exact ⟨_, _, rfl⟩
  · exact ⟨_, _, rfl⟩

theorem CatRowH.fresh {w : World} {base N : Nat} {v : Value} {xs : List Hd} (h : CatRowH w base N v xs) : ∀ b, v.ownBlock = some b → base ≤ b ∧ b < w.heap.size := by
  rcases h with ⟨_, _, rfl⟩ | ⟨g, G, rfl, _, h⟩
  · intro b e; cases e
  · intro b e
    exact World.ownsRow.lt h b e

def SumRelH (l : List (List Hd)) (w : World) (s i : Value) (wr : World) : Prop :=
  ∃ k : Nat, k ≤ l.length ∧ i = .int .i64 (k : Int) ∧ s = .int .i64 (((l.take k).flatten.length : Nat) : Int) ∧ w = wr

def CatRelH (l : List (List Hd)) (w : World) (T : Nat) (v i : Value) (wr : World) : Prop :=
  ∃ k : Nat, k ≤ l.length ∧ i = .int .i64 (k : Int) ∧ Up w wr ∧ CatRowH wr w.heap.size T v (l.take k).flatten

theorem flat_stepH {l : List (List Hd)} {k : Nat} (h : k < l.length) : (l.take (k + 1)).flatten = (l.take k).flatten ++ l[k] := by
  rw [List.take_succ_eq_append_getElem h, List.flatten_append]
  simp
theorem flat_leH (l : List (List Hd)) (k : Nat) : (l.take k).flatten.length ≤ l.flatten.length := by
  conv => rhs; rw [← List.take_append_drop k l, List.flatten_append, List.length_append]
  omega

def CatPostH (l : List (List Hd)) (w : World) (e : Ending) (w' : World) : Prop := ∃ v, e = .returned v ∧ Hds w' v l.flatten ∧ Up w w' ∧ ∀ b, v.ownBlock = some b → w.heap.size ≤ b ∧ b < w'.heap.size

set_option maxRecDepth 100000 in
set_option maxHeartbeats 2000000 in
theorem concatH_any (v : Value) (l : List (List Hd)) (w : World) (h : Hdss w v l) (hT : l.flatten.length ≤ 1000000) :
    Calls Try.prog 16 #[v] w (CatPostH l w) := by
  have HX := Lib.hid h
  obtain ⟨o, c, rfl, h2, h3⟩ := h.slice
  unfold maxLen at h3
  obtain ⟨T, hTT⟩ : ∃ T, l.flatten.length = T := ⟨_, rfl⟩
  rw [hTT] at hT
  have HT := Lib.hid hTT
  obtain ⟨N, hN⟩ : ∃ N, l.length = N := ⟨_, rfl⟩
  rw [hN] at h2 HX ⊢
  have HN := Lib.hid hN
  clear h hTT hN
  go_enter Try.func16, Try.ntmps16
  go_wp2_with fail
  go_loopw [3, 11] (fun s i wr => SumRelH l w s i wr) (fun _ i _ => N - (intOf i).toNat)
  case atStart => exact ⟨0, Nat.zero_le _, rfl, rfl, rfl⟩
  case round =>
    obtain ⟨k, hk, rfl, rfl, rfl⟩ := hrel
    rw [HN.out] at hk
    by_cases hlt : k < N
    · have hkl : k < l.length := by rw [HN.out]; exact hlt
      obtain ⟨b, off, rfl, hat⟩ := HX.out.at (by rintro rfl; simp at hkl)
      obtain ⟨x, a0, hx⟩ := hat k hkl
      obtain ⟨o', c', hxe, _, _⟩ := hx.slice
      have hst := flat_stepH hkl
      have hle := flat_leH l (k + 1)
      rw [HT.out] at hle
      have hsl : (l.take (k + 1)).flatten.length = (l.take k).flatten.length + l[k].length := by rw [hst, List.length_append]
      obtain ⟨q, hq⟩ : ∃ q, (l.take k).flatten.length = q := ⟨_, rfl⟩
      obtain ⟨q1, hq1⟩ : ∃ q1, (l.take (k + 1)).flatten.length = q1 := ⟨_, rfl⟩
      have HQ1 := Lib.hid hq1
      rw [hq1] at hle hsl
      rw [hq] at hsl ⊢
      obtain ⟨m, hm⟩ : ∃ m, l[k].length = m := ⟨_, rfl⟩
      rw [hm] at hsl hxe
      subst hxe
      have p1 : IntKind.i64.wrap ((q : Int) + (m : Int)) = (q1 : Int) := by rw [show (q : Int) + (m : Int) = (q1 : Int) by omega]; exact IntWalk.i64_in _ (by omega)
      have p2 : decide ((q1 : Int) < 0) = false := decide_eq_false (by omega)
      have p3 : decide ((q : Int) + (m : Int) < 0) = false := decide_eq_false (by omega)
      have d1 : decide (k < N) = true := decide_eq_true hlt
      clear hat hx hst hq hq1 hm
      go_wp2_with fail
      go_roundw
      case rel => exact ⟨k + 1, by omega, by go_num, congrArg (Value.int IntKind.i64) (by rw [HQ1.out]; omega), rfl⟩
      case measure => simp only [intOf]; omega
    · have d1 : decide (k < N) = false := decide_eq_false hlt
      have hks : l.take k = l := List.take_of_length_le (by rw [HN.out]; omega)
      rw [hks, HT.out]
      clear hks
      go_wp2_with fail
      refine (grow_anyH T _ _ rfl (by omega)).mono ?_
      rintro e w1 ⟨v1, rfl, hr1, u1⟩
      have HR1 := Lib.hid hr1
      have U1 := Lib.hid u1
      clear hr1 u1 d1 hlt hk
      go_wp2_with fail
      go_loopw [6, 27] (fun v i wr => CatRelH l w T v i wr) (fun _ i _ => N - (intOf i).toNat)
      case atStart => exact ⟨0, Nat.zero_le _, rfl, U1.out, HR1.out⟩
      case round =>
        obtain ⟨j, hj, rfl, hu, hr⟩ := hrel
        rw [HN.out] at hj
        by_cases hlt2 : j < N
        · have hkl : j < l.length := by rw [HN.out]; exact hlt2
          obtain ⟨b, off, rfl, hat⟩ := HX.out.at (by rintro rfl; simp at hkl)
          obtain ⟨x, a0, hx⟩ := hat j hkl
          rw [← hu.cell (World.block_lt_of_cell? w _ a0)] at a0
          obtain ⟨o', c', hxe, _, _⟩ := hx.slice
          have hle := flat_leH l (j + 1)
          rw [HT.out, flat_stepH hkl, List.length_append] at hle
          rw [hxe] at a0 hx
          obtain ⟨v', w', hrun, hr', hu'⟩ := hr.more 22 hu (hx.up hu) hle (fl_one hdC_one _)
          rw [← flat_stepH hkl] at hr'
          have HR := Lib.hid hr'
          have HU' := Lib.hid hu'
          have d2 : decide (j < N) = true := decide_eq_true hlt2
          clear hr hu hr' hu' hat hx hxe hle
          generalize l[j].length = m at a0 hrun
          go_wp2_with (at_builtin; refine wpList_append_runR _ rfl _ _ #[22, 22] rfl _ _ _ _ rfl rfl hrun ?_)
          go_roundw
          case rel => exact ⟨j + 1, by omega, by go_num, HU'.out, HR.out⟩
          case measure => simp only [intOf]; omega
        · have d2 : decide (j < N) = false := decide_eq_false hlt2
          have hks : l.take j = l := List.take_of_length_le (by rw [HN.out]; omega)
          rw [hks] at hr
          have HR := Lib.hid hr.recs
          have HL := Lib.hid hr.fresh
          have HU := Lib.hid hu
          clear hr hu hks
          go_wp2_with fail
          go_ret
          exact ⟨_, rfl, HR.out, HU.out, HL.out⟩

/-- segments have heads -/
theorem heads : ∀ (C : List Value), (∀ u ∈ C, ∃ o n c, u = .slice o n c) → ∃ H : List Hd, fl hdC H = C
  | [], _ => ⟨[], rfl⟩
  | u :: C, h => by
    obtain ⟨o, n, c, rfl⟩ := h u (List.mem_cons_self ..)
    obtain ⟨H, hH⟩ := heads C fun x hx => h x (List.mem_cons_of_mem _ hx)
    exact ⟨(o, n, c) :: H, by show hdC (o, n, c) ++ fl hdC H = _; rw [hH]; rfl⟩

theorem Sgs.heads {w : World} {v : Value} {l : List (List Rc)} (h : Sgs w v l) : ∃ H : List Hd, H.length = l.length ∧ Hds w v H ∧ SRd w (fl hdC H) l := by
  obtain ⟨C, h1, h2⟩ := h
  obtain ⟨H, rfl⟩ := Go.Proofs.Ytomfbffaekpnlaa.heads C fun u hu => by
    obtain ⟨k, hk, rfl⟩ := List.getElem_of_mem hu
    obtain ⟨o, c, e, _⟩ := (h2.rd k (by have := h2.len; omega)).slice
    exact ⟨o, _, c, e⟩
  have hl := fl_length (f := hdC) hdC_len H
  rw [Nat.mul_one] at hl
  refine ⟨H, by rw [← hl]; exact h2.len, ?_, h2⟩
  unfold Hds
  rw [hl] at h1
  exact h1

theorem SRd.append {w : World} {C D : List Value} {l m : List (List Rc)} (h : SRd w C l) (h' : SRd w D m) : SRd w (C ++ D) (l ++ m) := by
  have e := h.len
  have e' := h'.len
  refine ⟨by rw [List.length_append, List.length_append, e, e'], fun k hk => ?_⟩
  by_cases hkl : k < l.length
  · rw [List.getElem_append_left (by omega), List.getElem_append_left hkl]
    exact h.rd k hkl
  · rw [List.length_append] at hk
    rw [List.getElem_append_right (by omega), List.getElem_append_right (by omega)]
    have h2 := h'.rd (k - l.length) (by omega)
    simp only [e]
    exact h2

theorem Hdss.up {w w' : World} {v : Value} {l : List (List Hd)} (h : Hdss w v l) (hu : Up w w') : Hdss w' v l := by
  obtain ⟨C, h1, e, h2⟩ := h
  exact ⟨C, Sl.up h1 hu, e, fun k hk => (h2 k hk).up hu⟩

/-- two slices of segments, put together -/
theorem cat2_any (W W' : World) (v1 v2 : Value) (l1 l2 : List (List Rc)) (h1 : Sgs W v1 l1) (h2 : Sgs W v2 l2) (hl : l1.length + l2.length ≤ 1000) (hW : Up (W.alloc (.cells #[v1, v2] 22)) W') :
    Calls Try.prog 16 #[.slice (some ⟨W.heap.size, 0, none⟩) 2 2] W' (SnPost W' (l1 ++ l2)) := by
  obtain ⟨H1, e1, a1, b1⟩ := h1.heads
  obtain ⟨H2, e2, a2, b2⟩ := h2.heads
  have hu : Up W (W.alloc (.cells #[v1, v2] 22)) := Up.alloc _ _
  have hr : RowC (W.alloc (.cells #[v1, v2] 22)) W.heap.size 22 [v1, v2] := heap_alloc_new W _
  have ho : (W.alloc (.cells #[v1, v2] 22)).ownsRow W.heap.size 22 1 (.slice (some ⟨W.heap.size, 0, none⟩) 2 2) 2 [v1, v2] := own_mk (m := 1) (n := 2) (cap := 2) (L := [v1, v2]) (sp := []) (Nat.le_refl W.heap.size) (by rw [List.append_nil]; exact hr) rfl (Nat.le_refl _) (by unfold maxLen; omega) (by simp)
  have hH : Hdss (W.alloc (.cells #[v1, v2] 22)) (.slice (some ⟨W.heap.size, 0, none⟩) 2 2) [H1, H2] := by
    refine ⟨[v1, v2], Sl.of_own ho, rfl, fun k hk => ?_⟩
    match k, hk with
    | 0, _ => exact a1.up hu
    | 1, _ => exact a2.up hu
  have hf : [H1, H2].flatten = H1 ++ H2 := by simp
  refine (concatH_any _ [H1, H2] _ (hH.up hW) (by rw [hf, List.length_append]; omega)).mono ?_
  rintro e w' ⟨v, rfl, h, hu', _⟩
  rw [hf] at h
  have hfl : (fl hdC (H1 ++ H2)).length = (H1 ++ H2).length := by rw [fl_length hdC_len, Nat.mul_one]
  refine ⟨v, rfl, ⟨fl hdC (H1 ++ H2), ?_, ?_⟩, hu'⟩
  · rw [hfl]
    exact h
  · rw [fl_append]
    exact (b1.up ((hu.trans hW).trans hu')).append (b2.up ((hu.trans hW).trans hu'))

end Go.Proofs.Ytomfbffaekpnlaa
