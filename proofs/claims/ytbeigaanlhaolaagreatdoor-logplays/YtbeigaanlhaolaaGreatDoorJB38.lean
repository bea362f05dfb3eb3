/-
  sort.Slice of a row of volumes by the reference's own closure: a permutation, each name behind the one before or alike. Conditions: the row is known whole; the closure's state holds the slice.
-/
import Derived.Test.YtbeigaanlhaolaaGreatDoorJB35
import Derived.Test.YtbeigaanlhaolaaGreatDoorJB05
import Derived.Test.YtbeigaanlhaolaaGreatDoorJB13
import Derived.Test.YtbeigaanlhaolaaGreatDoorJB11
namespace Go.Proofs.YtbeigaanlhaolaaGreatDoor
open Go.RowKit
open Go.Proofs
open WoolBag
open WoolVol
open Go.Shelf Go.Lib Go.Sort

/-- a volume as it lies in memory, its slice in parts -/
structure VS where
  nm : List UInt8
  o : Option Addr
  n : Nat
  c : Nat

instance : Inhabited VS := ⟨⟨[], none, 0, 0⟩⟩

def vsC (x : VS) : List Value := [.string (bs x.nm), .slice x.o x.n x.c]
theorem vsC_len (x : VS) : (vsC x).length = 2 := rfl
def toVC (x : VS) : VC := ⟨x.nm, .slice x.o x.n x.c⟩
theorem vsC_vc (x : VS) : vcC (toVC x) = vsC x := rfl
theorem fl_vs : ∀ d : List VS, fl vcC (d.map toVC) = fl vsC d
  | [] => rfl
  | x :: r => by show vcC (toVC x) ++ fl vcC (r.map toVC) = vsC x ++ fl vsC r; rw [fl_vs r]; rfl

def ltV (a b : VS) : Bool := slt a.nm b.nm

noncomputable def voT : TypeInfo := (Tryz.prog.info? 34).get (by kernel_rfl)
noncomputable def voE : TypeInfo := (Tryz.prog.info? 81).get (by kernel_rfl)

theorem voK (n : Nat) (h2 : 2 ≤ n) : Lib.swapperK n voE 25 = 9 := by
  have a : voE.hasPointers = true := by kernel_rfl
  have b : voE.bytes = 40 := by kernel_rfl
  have c : (n == 0) = false := by simp; omega
  have d : (n == 1) = false := by simp; omega
  simp [Lib.swapperK, a, b, c, d]

theorem swo_lt : SWO ltV where
  irrefl := fun x => slt_irrefl _
  trans := fun x y z h1 h2 => slt_trans h1 h2
  ntrans := fun x y z h1 h2 => by
    unfold ltV at *
    cases hh : slt x.nm z.nm with
    | false => rfl
    | true =>
      rcases slt_total y.nm z.nm with h | h | h
      · rw [h] at h2; cases h2
      · rw [← h] at hh; rw [hh] at h1; cases h1
      · have := slt_trans hh h; rw [this] at h1; cases h1

set_option maxRecDepth 100000 in
set_option maxHeartbeats 1000000 in
theorem lessV (blk c Bs size : Nat) (W : World) (dk : Nat → VS) (hs : W.cell? ⟨Bs, 1, none⟩ = some (.slice (some ⟨blk, 0, none⟩) size c))
    (hc0 : ∀ t, t < size → W.cell? ⟨blk, t * 2, none⟩ = some (.string (bs (dk t).nm))) (i j : Nat) (hi : i < size) (hj : j < size) (_hsz : size < 4611686018427387904) :
    Calls Tryz.prog 75 #[.int .i64 i, .int .i64 j, .pointer (some ⟨Bs, 0, none⟩)] W fun e w' => e = .returned (.bool (ltV (dk i) (dk j))) ∧ ∃ q, w' = W.drewN q := by
  have ci := hc0 i hi
  have cj := hc0 j hj
  have hb : Op.bytesLess (bs (dk i).nm).toList (bs (dk j).nm).toList = slt (dk i).nm (dk j).nm := by
    have h1 : ∀ a : List UInt8, (bs a).toList = a := fun a => by rw [ByteArray.toList_eq, bs_list]
    rw [h1, h1, slt_bytes]
  have hR : ltV (dk i) (dk j) = slt (dk i).nm (dk j).nm := rfl
  rw [hR]
  generalize slt (dk i).nm (dk j).nm = R at hb ⊢
  generalize bs (dk i).nm = a at *
  generalize bs (dk j).nm = b at *
  clear hc0 hR
  go_enter Tryz.func75, Tryz.ntmps75
  go_wp2_with fail
  go_quiet (fail)
  go_wp2_with fail
  go_ret
  exact ⟨by simp [go_sem], nq, rfl⟩

theorem flat_vs (d : List VS) : (flatK vsC 2 d.toArray).toList = fl vsC d := by
  apply List.ext_getElem
  · rw [Array.length_toList, size_flatK, fl_length vsC_len]; simp
  · intro t h1 h2
    rw [fl_length vsC_len] at h2
    have ht : t < d.toArray.size * 2 := by simpa using h2
    have e := get_flatK vsC 2 d.toArray t ht
    have e1 : (flatK vsC 2 d.toArray).toList[t] = (flatK vsC 2 d.toArray)[t]! := by
      rw [Array.length_toList] at h1
      rw [getElem!_pos _ t h1]; rfl
    rw [e1, e]
    have hd : t / 2 < d.length := by omega
    have e2 : d.toArray[t / 2]! = d[t / 2] := by rw [getElem!_pos d.toArray (t / 2) (by simpa using hd)]; simp
    rw [e2]
    have hm : t % 2 < 2 := Nat.mod_lt _ (by omega)
    have hg := fl_get vsC_len d (t / 2) hd (t % 2) hm
    rw [show t / 2 * 2 + t % 2 = t by omega, List.getElem?_eq_getElem (by rw [fl_length vsC_len]; exact h2), List.getElem?_eq_getElem (by rw [vsC_len]; exact hm)] at hg
    rw [Option.some.inj hg, getElem!_pos _ _ (by rw [vsC_len]; exact hm)]

theorem holds_rowV {w : World} {blk : Nat} {d : List VS} {sp : List Value} (h : RowC w blk 81 (fl vsC d ++ sp)) : HoldsK vsC 2 w blk 0 d.toArray := by
  intro t ht
  rw [size_flatK] at ht
  have ht' : t < d.length * 2 := by simpa using ht
  rw [Nat.zero_add]
  refine ⟨h.cell ?_, h.frozen t⟩
  have e : (flatK vsC 2 d.toArray)[t]! = (fl vsC d)[t]'(by rw [fl_length vsC_len]; exact ht') := by
    have h1 : (flatK vsC 2 d.toArray).toList[t]'(by rw [flat_vs, fl_length vsC_len]; exact ht') = (fl vsC d)[t]'(by rw [fl_length vsC_len]; exact ht') := by simp only [flat_vs]
    rw [← h1, getElem!_pos _ t (by rw [size_flatK]; exact ht)]; rfl
  rw [List.getElem?_append_left (by rw [fl_length vsC_len]; exact ht'), e]
  exact List.getElem?_eq_getElem _

/-- what sort.Slice leaves -/
def SortVPost (blk c : Nat) (d : List VS) (w : World) (e : Ending) (w' : World) : Prop :=
  e = .returned (.tuple #[]) ∧ ∃ d' : List VS, d'.Perm d ∧ d'.Pairwise (fun a b => slt b.nm a.nm = false) ∧ VCs w' (.slice (some ⟨blk, 0, none⟩) d.length c) (d'.map toVC) ∧ w.grownBy w' (some blk)

theorem grown_putV (w : World) (n blk off : Nat) (d : Array VS) : w.grownBy (putRowK vsC 2 (Sort.ahead w n) blk off d) (some blk) := by
  refine ⟨rfl, rfl, rfl, by unfold putRowK; rw [size_putRow]; exact Nat.le_refl _, fun k hk hne => ?_⟩
  have hkb : blk ≠ k := fun e => hne (by rw [e])
  unfold putRowK putRow mapBlock
  simp [Array.getElem?_modify, hkb, Sort.ahead]

set_option maxHeartbeats 4000000 in
theorem sortV (blk c Bs : Nat) (d : List VS) (sp : List Value) (w : World) (hrow : RowC w blk 81 (fl vsC d ++ sp)) (hs : w.cell? ⟨Bs, 1, none⟩ = some (.slice (some ⟨blk, 0, none⟩) d.length c)) (hne : Bs ≠ blk) (hd : d.length ≤ 100) (h1 : 1 ≤ d.length) (hc : d.length ≤ c) (hcm : c ≤ maxLen) :
    Calls Tryz.prog 74 #[.iface 34 (.slice (some ⟨blk, 0, none⟩) d.length c), .func (.func 75) #[] #[.pointer (some ⟨Bs, 0, none⟩)]] w (SortVPost blk c d w) := by
  have hBs : Bs < w.heap.size := World.block_lt_of_cell? w _ hs
  by_cases h2 : d.length = 1
  · have ht := Any.sort_Slice_tiny Tryz.laysGg6 34 81 voT voE (by kernel_rfl) (by kernel_rfl) (by kernel_rfl) (by kernel_rfl) 25 (fun _ => by kernel_rfl) (some ⟨blk, 0, none⟩) d.length c (by omega) 136
      (by rw [h2]; kernel_rfl) (.func 75) #[] #[.pointer (some ⟨Bs, 0, none⟩)] w
    change Calls Tryz.prog 74 _ _ _ at ht
    refine ht.mono ?_
    rintro e w' ⟨rfl, os, rfl⟩
    have hg := grown_grow w os (some blk)
    refine ⟨rfl, d, List.Perm.refl _, ?_, ?_, hg⟩
    · exact List.pairwise_iff_getElem.2 (fun i j hi hj hij => by omega)
    · unfold VCs
      rw [List.length_map, fl_vs]
      refine ⟨fl_length vsC_len d, _, c, rfl, hc, hcm, .inr ⟨blk, 0, rfl, fun j v hv => ?_⟩⟩
      rw [Nat.zero_add, cell?_grow _ _ _ hrow.lt]
      refine hrow.cell ?_
      rw [List.getElem?_append_left ((List.getElem?_eq_some_iff.1 hv).1)]; exact hv
  · have hH := holds_rowV hrow
    have hb := hrow.lt
    have hless : LessReadsK Tryz.prog 75 #[.pointer (some ⟨Bs, 0, none⟩)] vsC 2 ltV blk 0 d.toArray.size w := by
      intro m os dk hsz i j hi hj
      have e : sortWorldK vsC 2 w blk 0 m dk os = putRowK vsC 2 (Go.Sort.grow (Sort.ahead w m) os) blk 0 dk := by
        unfold sortWorldK; rw [putRowK_grow _ _ (Sort.ahead w m) _ blk 0 _ hb]
      have hHg : HoldsK vsC 2 (Go.Sort.grow (Sort.ahead w m) os) blk 0 d.toArray := holdsK_grow _ _ _ _ blk 0 _ hb (holdsK_ahead _ _ _ _ _ _ _ hH)
      have hcc := holdsK_putRowK _ _ _ blk 0 d.toArray dk hHg hsz
      refine lessV blk c Bs d.toArray.size _ (fun t => dk[t]!) ?_ (fun t ht => ?_) i j hi hj (by simp; omega)
      · rw [e, cell?_putRowK_other _ _ _ blk 0 dk _ hne, cell?_grow _ _ _ hBs]
        rw [List.size_toArray]
        exact hs
      · rw [e]
        have := (hcc.cell (i := t) (c := 0) (by omega) (by omega)).1
        rw [Nat.zero_add, Nat.add_zero] at this
        exact this
    have hS := Any.sort_Slice_cells_sorted Tryz.laysGg6 34 81 voT voE (by kernel_rfl) (by kernel_rfl) (by kernel_rfl) (by kernel_rfl) 25 (fun _ => by kernel_rfl) vsC 2 (fun _ => rfl) (by kernel_rfl) (fun _ => by kernel_rfl)
      (fun x v hv => by unfold vsC at hv; simp at hv; rcases hv with rfl | rfl <;> rfl) ltV swo_lt 75 #[.pointer (some ⟨Bs, 0, none⟩)]
      (enters_of Tryz.func75 (by kernel_rfl) rfl) blk 0 c d.toArray (by simp; omega) (by simp; omega) 143 (by rw [voK _ (by simp; omega)]; kernel_rfl) false
      (fun args W => run_callFunc_extern Tryz.func143 (by kernel_rfl) (by kernel_rfl) (by kernel_rfl) (e := Extern.ReflectliteSwapper.swap false) (by kernel_rfl) args W) w hless hH hb
    change Calls Tryz.prog 74 _ _ _ at hS
    rw [List.size_toArray] at hS
    refine hS.mono ?_
    rintro e w' ⟨rfl, d', n, os, hP, hSo, rfl⟩
    obtain ⟨hsz, _, hperm⟩ := hP
    have hsz' : d'.size = d.length := by simpa using hsz
    have hsl : d'.toList.length = d.length := by rw [Array.length_toList]; exact hsz'
    refine ⟨rfl, d'.toList, ?_, ?_, ?_, ?_⟩
    · have e1 : (d'.extract 0 d.length).toList = d'.toList := by rw [← hsz', Array.extract_size]
      have e2 : (d.toArray.extract 0 d.length).toList = d := by
        have : d.length = d.toArray.size := by simp
        rw [this, Array.extract_size]
      rw [e1, e2] at hperm
      exact hperm
    · rw [List.pairwise_iff_getElem]
      intro i j hi hj hij
      have := hSo i j (Nat.zero_le _) hij (by rw [← hsl]; exact hj)
      rw [getElem!_pos d' j (by rw [hsz']; rw [hsl] at hj; exact hj), getElem!_pos d' i (by rw [hsz']; rw [hsl] at hi; exact hi)] at this
      exact this
    · unfold VCs
      rw [List.length_map, fl_vs, hsl]
      have hbp : blk < (putRowK vsC 2 (Sort.ahead w n) blk 0 d').heap.size := by unfold putRowK; rw [size_putRow]; exact hb
      have hcc := holdsK_putRowK vsC 2 (Sort.ahead w n) blk 0 d.toArray d' (holdsK_ahead _ _ _ _ _ _ _ hH) hsz
      refine ⟨by rw [fl_length vsC_len, hsl], _, c, rfl, hc, hcm, .inr ⟨blk, 0, rfl, fun t v hv => ?_⟩⟩
      have ht : t < d.length * 2 := by
        have := (List.getElem?_eq_some_iff.1 hv).1
        rwa [fl_length vsC_len, hsl] at this
      have hk : t / 2 < d.length := by omega
      have hm : t % 2 < 2 := Nat.mod_lt _ (by omega)
      have hget : d'[t / 2]! = d'.toList[t / 2]'(by rw [hsl]; exact hk) := by rw [getElem!_pos d' (t / 2) (by rw [hsz']; exact hk)]; rfl
      have hg := fl_get vsC_len d'.toList (t / 2) (by rw [hsl]; exact hk) (t % 2) hm
      rw [show t / 2 * 2 + t % 2 = t by omega, hv, ← hget] at hg
      rw [cell?_grow _ _ _ hbp]
      have hcell := (hcc.cell (i := t / 2) (c := t % 2) (by rw [hsz']; exact hk) hm).1
      rw [Nat.zero_add, show t / 2 * 2 + t % 2 = t by omega] at hcell
      rw [Nat.zero_add, hcell, hg]
      rw [getElem!_pos _ _ (by rw [vsC_len]; exact hm), List.getElem?_eq_getElem (by rw [vsC_len]; exact hm)]
    · have h1 := grown_putV w n blk 0 d'
      have h2 := grown_grow (putRowK vsC 2 (Sort.ahead w n) blk 0 d') os (some blk)
      exact ⟨h1.os, h1.tape, h1.output, Nat.le_trans h1.size h2.size, fun k hk hne => (h2.block k (Nat.lt_of_lt_of_le hk h1.size) hne).trans (h1.block k hk hne)⟩

end Go.Proofs.YtbeigaanlhaolaaGreatDoor
