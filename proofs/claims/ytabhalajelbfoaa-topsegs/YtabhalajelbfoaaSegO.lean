/-
  What sizes and Live of package seg return: a row of numbers of the call's own. Conditions: the rows can be read, and their lengths fit.
-/
import Derived.Test.YtabhalajelbfoaaSegL
namespace Go.Proofs.Ytabhalajelbfoaa
open Go.RowKit
open Go.Proofs
open WoolBag
open WoolSeg

/-- numbers as cells -/
def nL (l : List Nat) : List Value := l.map fun n : Nat => Value.int .i64 (n : Int)
theorem nL_length (l : List Nat) : (nL l).length = l.length := by unfold nL; rw [List.length_map]
theorem nL_get {l : List Nat} {k : Nat} (h : k < l.length) : (nL l)[k]? = some (.int .i64 ((l[k] : Nat) : Int)) := by
  unfold nL
  rw [List.getElem?_map, List.getElem?_eq_getElem h]
  rfl
/-- a slice that reads as numbers -/
def Ns (w : World) (v : Value) (l : List Nat) : Prop := Sl w 1 v l.length (nL l)
theorem Ns.up {w w' : World} {v : Value} {l : List Nat} (h : Ns w v l) (hu : Up w w') : Ns w' v l := Sl.up h hu
theorem Ns.slice {w : World} {v : Value} {l : List Nat} (h : Ns w v l) : ∃ o c, v = .slice o l.length c ∧ l.length ≤ c ∧ c ≤ maxLen := Sl.slice h
theorem Ns.at {w : World} {o : Option Addr} {n c : Nat} {l : List Nat} (h : Ns w (.slice o n c) l) (hne : l ≠ []) : ∃ b off, o = some ⟨b, off, none⟩ ∧ ∀ k (hk : k < l.length), w.cell? ⟨b, off + k, none⟩ = some (.int .i64 ((l[k] : Nat) : Int)) := by
  obtain ⟨b, off, h1, h2⟩ := Sl.cells h (by intro e; exact hne (List.eq_nil_of_length_eq_zero e))
  exact ⟨b, off, h1, fun k hk => h2 _ _ (nL_get hk)⟩
/-- numbers in a row of the call's own -/
def ONs (w : World) (base : Nat) (v : Value) (l : List Nat) : Prop := w.ownsRow base 3 1 v l.length (nL l)
theorem ONs.ns {w : World} {base : Nat} {v : Value} {l : List Nat} (h : ONs w base v l) : Ns w v l := Sl.of_own h
theorem ONs.nil (w : World) (base : Nat) : ONs w base (.slice none 0 0) [] := World.ownsRow_nil w base _ _

theorem inInfoS : (Try.prog.info? 3).map (fun i => (i.zero, i.size, i.bytes)) = some (some (.int .i64 0), 1, 8) := by kernel_rfl

theorem run_zerosS (n : Nat) (hn : n ≤ 16) (W : World) : (Instr.makeSlice 23 (.int .i64 (n : Int)) (.int .i64 (n : Int))).run Try.prog W = .ok (.slice (some ⟨W.heap.size, 0, none⟩) n n) (W.alloc (.cells (Array.replicate n (Value.int .i64 0)) 3)) := by
  obtain ⟨i, hi, hz0, hz1, hz2⟩ := info_parts inInfoS
  have h := run_make (P := Try.prog) W 23 3 i _ Try.underlying23 hi hz0 .i64 .i64 (n : Int) (n : Int) (by omega) (by omega) (by rw [hz2]; omega) (by omega)
  have e : madeCells (Value.int .i64 0).cells (n * 1) = (Array.replicate n (Value.int .i64 0)) := by
    apply Array.ext
    · rw [size_madeCells, Array.size_replicate, Nat.mul_one]
    · intro j h1 h2
      rw [size_madeCells] at h1
      have hmd : (madeCells (Value.int .i64 0).cells (n * 1))[j]? = some ((#[Value.int .i64 0])[j % 1]!) := by
        unfold madeCells
        rw [Array.getElem?_map, Array.getElem?_range, if_pos h1]
        rfl
      rw [Array.getElem?_eq_getElem (by rw [size_madeCells]; exact h1)] at hmd
      rw [Option.some.inj hmd, Nat.mod_one]
      simp
  rw [hz1, Int.toNat_natCast, e] at h
  exact h

/-- numbers, as far as they are filled in -/
def partN (A : List Nat) (k : Nat) : List Nat := A.take k ++ List.replicate (A.length - k) 0
theorem partN_length (A : List Nat) (k : Nat) (h : k ≤ A.length) : (partN A k).length = A.length := by
  unfold partN; rw [List.length_append, List.length_take, List.length_replicate]; omega
theorem partN_set (A : List Nat) (k : Nat) (h : k < A.length) : (nL (partN A k)).set k (.int .i64 ((A[k] : Nat) : Int)) = nL (partN A (k + 1)) := by
  have hl : (A.take k).length = k := by rw [List.length_take]; omega
  have e : (partN A k).set k A[k] = partN A (k + 1) := by
    unfold partN
    rw [List.set_append_right _ _ (by omega), hl, Nat.sub_self, show A.length - k = (A.length - (k + 1)) + 1 by omega, List.replicate_succ, List.set_cons_zero, List.take_succ_eq_append_getElem h, List.append_assoc]
    rfl
  rw [← e]
  unfold nL
  rw [List.map_set]
theorem partN_full (A : List Nat) : partN A A.length = A := by unfold partN; simp

def SzsRel (A : List Nat) (W0 : World) (g n : Nat) (i : Value) (wr : World) : Prop :=
  ∃ k : Nat, k ≤ n ∧ i = .int .i64 (k : Int) ∧ Up W0 wr ∧ RowC wr g 3 (nL (partN A k))

def NsPost (w : World) (l : List Nat) (e : Ending) (w' : World) : Prop := ∃ v', e = .returned v' ∧ ONs w' w.heap.size v' l ∧ Up w w'

set_option maxRecDepth 100000 in
set_option maxHeartbeats 2000000 in
theorem sizes_any (v : Value) (l : List (List Rc)) (w : World) (h : Sgs w v l) (hl : l.length ≤ 16) (ht : ∀ s ∈ l, takes s ≤ 200) :
    Calls Try.prog 28 #[v] w (NsPost w (l.map takes)) := by
  have HX := Lib.hid h
  have HT := Lib.hid ht
  obtain ⟨o, c, rfl, h2, h3⟩ := h.slice
  unfold maxLen at h3
  obtain ⟨A, hA⟩ : ∃ A, l.map takes = A := ⟨_, rfl⟩
  have hAl : A.length = l.length := by rw [← hA, List.length_map]
  have HAK : Hid (∀ k (h : k < l.length), A[k]'(by omega) = takes l[k]) := fun k h => by subst hA; rw [List.getElem_map]
  rw [hA]
  obtain ⟨n, hn⟩ : ∃ n, l.length = n := ⟨_, rfl⟩
  rw [hn] at hl h2 HX hAl ⊢
  have HN := Lib.hid hn
  have HAL := Lib.hid hAl
  have hmk := run_zerosS n hl
  clear h ht hA hn hAl
  go_enter Try.func28, Try.ntmps28
  go_wp2_with fail
  have hr0 : RowC (w.alloc (.cells (Array.replicate n (Value.int .i64 0)) 3)) w.heap.size 3 (nL (partN A 0)) := by
    unfold RowC nL partN
    rw [List.take_zero, List.nil_append, Nat.sub_zero, HAL.out, List.map_replicate, List.toArray_replicate]
    exact heap_alloc_new w _
  have HR0 := Lib.hid hr0
  have HU0 : Hid (Up w (w.alloc (.cells (Array.replicate n (Value.int .i64 0)) 3))) := Up.alloc _ _
  clear hr0 hmk
  generalize (w.alloc (.cells (Array.replicate n (Value.int .i64 0)) 3)) = w1 at HR0 HU0 ⊢
  go_loopw [11] (fun i wr => SzsRel A w w.heap.size n i wr) (fun i _ => n - (intOf i).toNat)
  case atStart => exact ⟨0, Nat.zero_le _, rfl, HU0.out, HR0.out⟩
  case round =>
    obtain ⟨k, hk, rfl, hu, hr⟩ := hrel
    by_cases hlt : k < n
    · have hkl : k < l.length := by rw [HN.out]; exact hlt
      obtain ⟨b, off, rfl, hat⟩ := HX.out.at (by rintro rfl; simp at hkl)
      obtain ⟨x, a0, hx⟩ := hat k hkl
      rw [← hu.cell (World.block_lt_of_cell? w _ a0)] at a0
      obtain ⟨o', c', hxe, _, _⟩ := hx.slice
      have HSZ := Lib.hid (fun W (hW : Up w W) => size_any x l[k] W (hx.up hW) (by have := HT.out _ (List.getElem_mem hkl); omega))
      have HK : Hid (A[k]'(by rw [HAL.out]; exact hlt) = takes l[k]) := HAK.out k hkl
      have hkA : k < A.length := by rw [HAL.out]; exact hlt
      have hst := partN_set A k hkA
      rw [HK.out] at hst
      have hck := hr.cell (j := k) (v := .int .i64 (((partN A k)[k]'(by rw [partN_length _ _ (by omega)]; omega) : Nat) : Int)) (nL_get _)
      generalize (partN A k)[k]'(by rw [partN_length _ _ (by omega)]; omega) = q0 at hck
      have hgl := hr.lt
      have hfz := hr.frozen k
      have HNX : Hid (∀ wF, Up wr wF → RowC (wF.setCell ⟨w.heap.size, k, none⟩ (.int .i64 ((takes l[k] : Nat) : Int))) w.heap.size 3 (nL (partN A (k + 1))) ∧ Up w (wF.setCell ⟨w.heap.size, k, none⟩ (.int .i64 ((takes l[k] : Nat) : Int)))) := fun wF hF => by
        have h1 := (hr.up hF).set k (.int .i64 ((takes l[k] : Nat) : Int))
        rw [hst] at h1
        exact ⟨h1, Below.setCell (hu.trans hF) (p := ⟨w.heap.size, k, none⟩) (Nat.le_refl _) _⟩
      obtain ⟨T, hT⟩ : ∃ T, takes l[k] = T := ⟨_, rfl⟩
      rw [hT] at HSZ HNX
      generalize l[k].length = m at hxe
      subst hxe
      have d1 : decide (k < n) = true := decide_eq_true hlt
      have HU := Lib.hid hu
      clear hat hx hst hT hr hu
      go_wp2_with fail
      refine (HSZ.out _ HU.out).mono ?_
      rintro e w2 ⟨rfl, u2⟩
      have z0 := (Below.cell u2 (p := ⟨w.heap.size, k, none⟩) hgl).trans hck
      have z1 := (Below.frozen u2 (p := ⟨w.heap.size, k, none⟩) hgl).trans hfz
      obtain ⟨n1, n2⟩ := HNX.out _ u2
      have HN1 := Lib.hid n1
      have HN2 := Lib.hid n2
      clear n1 n2 u2
      go_wp2_with fail
      go_roundw
      case rel => exact ⟨k + 1, by omega, by go_num, HN2.out, HN1.out⟩
      case measure => simp only [intOf]; omega
    · have d1 : decide (k < n) = false := decide_eq_false hlt
      have hke : k = A.length := by rw [HAL.out]; omega
      rw [hke, partN_full] at hr
      have HO : Hid (ONs wr w.heap.size (.slice (some ⟨w.heap.size, 0, none⟩) n n) A) := by
        have := own_mk (m := 1) (n := n) (cap := n) (L := nL A) (sp := []) (Nat.le_refl w.heap.size) (by rw [List.append_nil]; exact hr) (by rw [nL_length, HAL.out]; omega) (Nat.le_refl _) (by unfold maxLen; omega) (by simp)
        show wr.ownsRow _ _ 1 _ A.length _
        rw [HAL.out]
        exact this
      have HU := Lib.hid hu
      clear hr hu hke
      go_wp2_with fail
      go_ret
      exact ⟨_, rfl, HO.out, HU.out⟩

/-- what Live answers -/
def liveV (l : List (List Rc)) (b : List Itm) : List Nat × Int := WoolSeg.live FP l b
def LivePost (w : World) (R : List Nat × Int) (e : Ending) (w' : World) : Prop :=
  ∃ v', e = .returned (.tuple #[v', .int .i64 R.2]) ∧ ONs w' w.heap.size v' R.1 ∧ Up w w'

theorem alive_takes {b : List Itm} {l : List (List Rc)} (h : Right l) : ∀ s ∈ alive b l, takes s ≤ 200 := by
  intro s hs
  obtain ⟨k, hk, rfl⟩ := List.getElem_of_mem hs
  rw [alive_length] at hk
  rw [alive_get hk]
  exact Nat.le_trans (takes_sublist (aliveS_sub _ _ _)) (h.seg _ (List.getElem_mem hk)).room

end Go.Proofs.Ytabhalajelbfoaa
