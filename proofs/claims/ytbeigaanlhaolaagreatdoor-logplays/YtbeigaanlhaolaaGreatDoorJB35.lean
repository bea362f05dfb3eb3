/-
  The texts BagSort, IntsB, one behind the other; each says below what it holds and on what conditions.
-/
import Derived.Test.YtbeigaanlhaolaaGreatDoorJB13
import Derived.Test.YtbeigaanlhaolaaGreatDoorJB34
import Derived.Shelf.SlSortFuncK.WholeK
import Derived.Shelf.GgSortFunc.Tiny
import Derived.Deep.QuietTactic
import Derived.BigQuiet

/-
  sort.Slice of a row of items by the reference's own closure: a permutation, each item behind the one before or alike. Conditions: the row is known whole; the closure's variable holds the slice.
-/
namespace Go.Proofs.YtbeigaanlhaolaaGreatDoor
open Go.RowKit
open Go.Proofs
open WoolBag
open Go.Shelf Go.Lib Go.Sort

noncomputable def siT : TypeInfo := (Tryz.prog.info? 33).get (by kernel_rfl)
noncomputable def siE : TypeInfo := (Tryz.prog.info? 89).get (by kernel_rfl)

theorem siK (n : Nat) (h2 : 2 ≤ n) : Lib.swapperK n siE 25 = 9 := by
  have a : siE.hasPointers = true := by kernel_rfl
  have b : siE.bytes = 40 := by kernel_rfl
  have c : (n == 0) = false := by simp; omega
  have d : (n == 1) = false := by simp; omega
  simp [Lib.swapperK, a, b, c, d]

theorem swo_beh : SWO behB where
  irrefl := fun x => by unfold behB; simp
  trans := fun x y z h1 h2 => by rw [beh_iff] at *; exact h1.trans h2
  ntrans := fun x y z h1 h2 => by
    rw [Bool.eq_false_iff, Ne, beh_iff] at *
    unfold Beh at *
    omega

set_option maxRecDepth 100000 in
set_option maxHeartbeats 2000000 in
theorem lessI (blk c Bs size : Nat) (W : World) (dk : Nat → Itm) (hs : W.cell? ⟨Bs, 0, none⟩ = some (.slice (some ⟨blk, 0, none⟩) size c))
    (hc0 : ∀ t, t < size → W.cell? ⟨blk, t * 4, none⟩ = some (.int .i64 (dk t).s)) (hc1 : ∀ t, t < size → W.cell? ⟨blk, t * 4 + 1, none⟩ = some (.int .i64 (dk t).n)) (i j : Nat) (hi : i < size) (hj : j < size) (_hsz : size < 4611686018427387904) :
    Calls Tryz.prog 110 #[.int .i64 i, .int .i64 j, .pointer (some ⟨Bs, 0, none⟩)] W fun e w' => e = .returned (.bool (behB (dk i) (dk j))) ∧ ∃ q, w' = W.drewN q := by
  have ci := hc0 i hi
  have cj := hc0 j hj
  have di := hc1 i hi
  have dj := hc1 j hj
  have hb : behB (dk i) (dk j) = (decide ((dk i).s < (dk j).s) || ((dk j).s == (dk i).s && decide ((dk i).n < (dk j).n))) := rfl
  obtain ⟨R, hR⟩ : ∃ R, behB (dk i) (dk j) = R := ⟨_, rfl⟩
  rw [hR]
  rw [hb] at hR
  generalize (dk i).s = a at *
  generalize (dk j).s = b at *
  generalize (dk i).n = p at *
  generalize (dk j).n = q at *
  clear hc0 hc1 hb
  by_cases r1 : a < b
  · have t1 : decide (a < b) = true := decide_eq_true r1
    have HV : Hid (R = true) := by show _ = _; rw [← hR, t1]; rfl
    clear hR
    go_enter Tryz.func110, Tryz.ntmps110
    go_wp2_with fail
    go_quiet (fail)
    go_wp2_with fail
    go_ret
    exact ⟨by rw [HV.out]; rfl, nq, rfl⟩
  have t1 : decide (a < b) = false := decide_eq_false r1
  by_cases r2 : a = b
  · have t2 : (a == b) = true := by simpa using r2
    by_cases r3 : p < q
    · have t3 : decide (p < q) = true := decide_eq_true r3
      have HV : Hid (R = true) := by show _ = _; rw [← hR, r2, t3]; simp
      clear hR r2
      go_enter Tryz.func110, Tryz.ntmps110
      go_wp2_with fail
      go_quiet (fail)
      go_wp2_with fail
      go_ret
      exact ⟨by rw [HV.out]; rfl, nq, rfl⟩
    · have t3 : decide (p < q) = false := decide_eq_false r3
      have HV : Hid (R = false) := by show _ = _; rw [← hR, r2, t3]; simp
      clear hR r2
      go_enter Tryz.func110, Tryz.ntmps110
      go_wp2_with fail
      go_quiet (fail)
      go_wp2_with fail
      go_ret
      exact ⟨by rw [HV.out]; rfl, nq, rfl⟩
  · have t2 : (a == b) = false := by simpa using r2
    have t2' : (b == a) = false := by simpa using fun h => r2 h.symm
    have HV : Hid (R = false) := by show _ = _; rw [← hR, t1, t2']; rfl
    clear hR r2 t2'
    go_enter Tryz.func110, Tryz.ntmps110
    go_wp2_with fail
    go_quiet (fail)
    go_wp2_with fail
    go_ret
    exact ⟨by rw [HV.out]; rfl, nq, rfl⟩

theorem flat_itL (d : List Itm) : (flatK itC 4 d.toArray).toList = itL d := by
  apply List.ext_getElem
  · rw [Array.length_toList, size_flatK, itL_length]; simp
  · intro t h1 h2
    rw [itL_length] at h2
    have ht : t < d.toArray.size * 4 := by simpa using h2
    have e := get_flatK itC 4 d.toArray t ht
    have e1 : (flatK itC 4 d.toArray).toList[t] = (flatK itC 4 d.toArray)[t]! := by
      rw [Array.length_toList] at h1
      rw [getElem!_pos _ t h1]; rfl
    rw [e1, e]
    have hd : t / 4 < d.length := by omega
    have e2 : d.toArray[t / 4]! = d[t / 4] := by rw [getElem!_pos d.toArray (t / 4) (by simpa using hd)]; simp
    rw [e2]
    obtain ⟨b1, b2, b3, b4⟩ := itL_get d (t / 4) hd
    have hm : t % 4 < 4 := Nat.mod_lt _ (by omega)
    have hg : (itL d)[t]? = some ((itC d[t / 4])[t % 4]!) := by
      rcases Nat.lt_or_ge (t % 4) 1 with m0 | m0
      · rw [show t % 4 = 0 by omega]; rw [show t / 4 * 4 = t by omega] at b1; exact b1
      rcases Nat.lt_or_ge (t % 4) 2 with m1 | m1
      · rw [show t % 4 = 1 by omega]; rw [show t / 4 * 4 + 1 = t by omega] at b2; exact b2
      rcases Nat.lt_or_ge (t % 4) 3 with m2 | m2
      · rw [show t % 4 = 2 by omega]; rw [show t / 4 * 4 + 2 = t by omega] at b3; exact b3
      · rw [show t % 4 = 3 by omega]; rw [show t / 4 * 4 + 3 = t by omega] at b4; exact b4
    rw [List.getElem?_eq_getElem (by rw [itL_length]; exact h2)] at hg
    exact (Option.some.inj hg).symm

theorem holds_row {w : World} {blk : Nat} {d : List Itm} {sp : List Value} (h : RowI w blk (itL d ++ sp)) : HoldsK itC 4 w blk 0 d.toArray := by
  intro t ht
  rw [size_flatK] at ht
  have ht' : t < d.length * 4 := by simpa using ht
  rw [Nat.zero_add]
  refine ⟨h.cell ?_, h.frozen t⟩
  have e : (flatK itC 4 d.toArray)[t]! = (itL d)[t]'(by rw [itL_length]; exact ht') := by
    have h1 : (flatK itC 4 d.toArray).toList[t]'(by rw [flat_itL, itL_length]; exact ht') = (itL d)[t]'(by rw [itL_length]; exact ht') := by simp only [flat_itL]
    rw [← h1, getElem!_pos _ t (by rw [size_flatK]; exact ht)]; rfl
  rw [List.getElem?_append_left (by rw [itL_length]; exact ht'), e]
  exact List.getElem?_eq_getElem _

/-- what sort.Slice leaves -/
def SortPost (blk c : Nat) (d : List Itm) (w : World) (e : Ending) (w' : World) : Prop :=
  e = .returned (.tuple #[]) ∧ ∃ d' : List Itm, d'.Perm d ∧ d'.Pairwise (fun a b => behB b a = false) ∧ Items w' (.slice (some ⟨blk, 0, none⟩) d.length c) d' ∧ w.grownBy w' (some blk)

theorem grown_grow (w : World) (os : Array Obj) (row : Option Nat) : w.grownBy (Go.Sort.grow w os) row :=
  ⟨rfl, rfl, rfl, by rw [size_grow]; omega, fun k hk _ => heap_grow_old w os hk⟩

theorem grown_put (w : World) (n blk off : Nat) (d : Array Itm) : w.grownBy (putRowK itC 4 (Sort.ahead w n) blk off d) (some blk) := by
  refine ⟨rfl, rfl, rfl, by unfold putRowK; rw [size_putRow]; exact Nat.le_refl _, fun k hk hne => ?_⟩
  have hkb : blk ≠ k := fun e => hne (by rw [e])
  unfold putRowK putRow mapBlock
  simp [Array.getElem?_modify, hkb, Sort.ahead]

set_option maxHeartbeats 4000000 in
theorem sortI (blk c Bs : Nat) (d : List Itm) (sp : List Value) (w : World) (hrow : RowI w blk (itL d ++ sp)) (hs : w.cell? ⟨Bs, 0, none⟩ = some (.slice (some ⟨blk, 0, none⟩) d.length c)) (hne : Bs ≠ blk) (hd : d.length ≤ 100) (h1 : 1 ≤ d.length) (hc : d.length ≤ c) (hcm : c ≤ maxLen) :
    Calls Tryz.prog 74 #[.iface 33 (.slice (some ⟨blk, 0, none⟩) d.length c), .func (.func 110) #[] #[.pointer (some ⟨Bs, 0, none⟩)]] w (SortPost blk c d w) := by
  have hBs : Bs < w.heap.size := World.block_lt_of_cell? w _ hs
  by_cases h2 : d.length = 1
  · have ht := Any.sort_Slice_tiny Tryz.laysGg6 33 89 siT siE (by kernel_rfl) (by kernel_rfl) (by kernel_rfl) (by kernel_rfl) 25 (fun _ => by kernel_rfl) (some ⟨blk, 0, none⟩) d.length c (by omega) 136
      (by rw [h2]; kernel_rfl) (.func 110) #[] #[.pointer (some ⟨Bs, 0, none⟩)] w
    change Calls Tryz.prog 74 _ _ _ at ht
    refine ht.mono ?_
    rintro e w' ⟨rfl, os, rfl⟩
    have hg := grown_grow w os (some blk)
    refine ⟨rfl, d, List.Perm.refl _, ?_, ?_, hg⟩
    · exact List.pairwise_iff_getElem.2 (fun i j hi hj hij => by omega)
    · refine ⟨_, c, rfl, hc, hcm, .inr ⟨blk, 0, rfl, fun k hk => ?_⟩⟩
      obtain ⟨b1, b2, b3, b4⟩ := itL_get d k hk
      have hcell : ∀ j v, (itL d)[j]? = some v → (Go.Sort.grow w os).cell? ⟨blk, 0 + j, none⟩ = some v := fun j v hv => by
        rw [Nat.zero_add, cell?_grow _ _ _ hrow.lt]
        exact hrow.cell (get_app hv)
      exact ⟨hcell _ _ b1, hcell _ _ b2, hcell _ _ b3, hcell _ _ b4⟩
  · have hH := holds_row hrow
    have hb := hrow.lt
    have hless : LessReadsK Tryz.prog 110 #[.pointer (some ⟨Bs, 0, none⟩)] itC 4 behB blk 0 d.toArray.size w := by
      intro m os dk hsz i j hi hj
      have e : sortWorldK itC 4 w blk 0 m dk os = putRowK itC 4 (Go.Sort.grow (Sort.ahead w m) os) blk 0 dk := by
        unfold sortWorldK; rw [putRowK_grow _ _ (Sort.ahead w m) _ blk 0 _ hb]
      have hHg : HoldsK itC 4 (Go.Sort.grow (Sort.ahead w m) os) blk 0 d.toArray := holdsK_grow _ _ _ _ blk 0 _ hb (holdsK_ahead _ _ _ _ _ _ _ hH)
      have hcc := holdsK_putRowK _ _ _ blk 0 d.toArray dk hHg hsz
      refine lessI blk c Bs d.toArray.size _ (fun t => dk[t]!) ?_ (fun t ht => ?_) (fun t ht => ?_) i j hi hj (by simp; omega)
      · rw [e, cell?_putRowK_other _ _ _ blk 0 dk _ hne, cell?_grow _ _ _ hBs]
        rw [List.size_toArray]
        exact hs
      · rw [e]
        have := (hcc.cell (i := t) (c := 0) (by omega) (by omega)).1
        rw [Nat.zero_add, Nat.add_zero] at this
        exact this
      · rw [e]
        have := (hcc.cell (i := t) (c := 1) (by omega) (by omega)).1
        rw [Nat.zero_add] at this
        exact this
    have hS := Any.sort_Slice_cells_sorted Tryz.laysGg6 33 89 siT siE (by kernel_rfl) (by kernel_rfl) (by kernel_rfl) (by kernel_rfl) 25 (fun _ => by kernel_rfl) itC 4 (fun _ => rfl) (by kernel_rfl) (fun _ => by kernel_rfl)
      (fun x v hv => by unfold itC at hv; simp at hv; rcases hv with rfl | rfl | rfl | rfl <;> rfl) behB swo_beh 110 #[.pointer (some ⟨Bs, 0, none⟩)]
      (enters_of Tryz.func110 (by kernel_rfl) rfl) blk 0 c d.toArray (by simp; omega) (by simp; omega) 143 (by rw [siK _ (by simp; omega)]; kernel_rfl) false
      (fun args W => run_callFunc_extern Tryz.func143 (by kernel_rfl) (by kernel_rfl) (by kernel_rfl) (e := Extern.ReflectliteSwapper.swap false) (by kernel_rfl) args W) w hless hH hb
    change Calls Tryz.prog 74 _ _ _ at hS
    rw [List.size_toArray] at hS
    refine hS.mono ?_
    rintro e w' ⟨rfl, d', n, os, hP, hSo, rfl⟩
    obtain ⟨hsz, _, hperm⟩ := hP
    have hsz' : d'.size = d.length := by simpa using hsz
    have hsl : d'.toList.length = d.length := by rw [Array.length_toList]; exact hsz'
    refine ⟨rfl, d'.toList, ?_, ?_, ?_, ?_⟩
    · have e1 : (d'.extract 0 d.length).toList = d'.toList := by rw [← hsz', Array.extract_size]
      have e2 : (d.toArray.extract 0 d.length).toList = d := by
        have : d.length = d.toArray.size := by simp
        rw [this, Array.extract_size]
      rw [e1, e2] at hperm
      exact hperm
    · rw [List.pairwise_iff_getElem]
      intro i j hi hj hij
      have := hSo i j (Nat.zero_le _) hij (by rw [← hsl]; exact hj)
      rw [getElem!_pos d' j (by rw [hsz']; rw [hsl] at hj; exact hj), getElem!_pos d' i (by rw [hsz']; rw [hsl] at hi; exact hi)] at this
      exact this
    · refine ⟨_, c, by rw [hsl], by rw [hsl]; exact hc, hcm, .inr ⟨blk, 0, rfl, fun k hk => ?_⟩⟩
      rw [hsl] at hk
      have hbp : blk < (putRowK itC 4 (Sort.ahead w n) blk 0 d').heap.size := by unfold putRowK; rw [size_putRow]; exact hb
      have hcc := holdsK_putRowK itC 4 (Sort.ahead w n) blk 0 d.toArray d' (holdsK_ahead _ _ _ _ _ _ _ hH) hsz
      have hget : d'[k]! = d'.toList[k]'(by rw [hsl]; exact hk) := by rw [getElem!_pos d' k (by rw [hsz']; exact hk)]; rfl
      have hcell : ∀ q v, q < 4 → (itC d'[k]!)[q]! = v → (Go.Sort.grow (putRowK itC 4 (Sort.ahead w n) blk 0 d') os).cell? ⟨blk, 0 + k * 4 + q, none⟩ = some v := fun q v hq hv => by
        rw [cell?_grow _ _ _ hbp, ← hv]
        exact (hcc.cell (i := k) (c := q) (by rw [hsz']; exact hk) hq).1
      rw [← hget]
      exact ⟨hcell 0 _ (by omega) rfl, hcell 1 _ (by omega) rfl, hcell 2 _ (by omega) rfl, hcell 3 _ (by omega) rfl⟩
    · have h1 := grown_put w n blk 0 d'
      have h2 := grown_grow (putRowK itC 4 (Sort.ahead w n) blk 0 d') os (some blk)
      exact ⟨h1.os, h1.tape, h1.output, Nat.le_trans h1.size h2.size, fun k hk hne => (h2.block k (Nat.lt_of_lt_of_le hk h1.size) hne).trans (h1.block k hk hne)⟩

end Go.Proofs.YtbeigaanlhaolaaGreatDoor

/-
  Slices of ints that the call owns; what slices.Contains (of ints) returns of them. Conditions: as each says.
-/
namespace Go.Proofs.YtbeigaanlhaolaaGreatDoor
open Go.RowKit
open Go.Proofs

def inL (l : List Int) : List Value := l.map (Value.int .i64)
theorem inL_length (l : List Int) : (inL l).length = l.length := List.length_map _
theorem inL_one (l : List Int) : ∀ u ∈ inL l, u.oneCell' = true := by
  intro u hu
  obtain ⟨x, _, rfl⟩ := List.mem_map.1 hu
  rfl

theorem inInfo : ∃ i, Tryz.prog.info? 3 = some i ∧ i.zero = some (.int .i64 0) ∧ i.size = 1 ∧ i.bytes = 8 := by
  have h : (Tryz.prog.info? 3).map (fun i => (i.zero, i.size, i.bytes)) = some (some (.int .i64 0), 1, 8) := by kernel_rfl
  cases hq : Tryz.prog.info? 3 with
  | none => rw [hq] at h; cases h
  | some i =>
    rw [hq] at h
    simp only [Option.map_some, Option.some.injEq, Prod.mk.injEq] at h
    exact ⟨i, rfl, h.1, h.2.1, h.2.2⟩

/-- a slice of ints of the call's own -/
def OInts (w : World) (base : Nat) (v : Value) (l : List Int) : Prop := w.ownsRow base 3 1 v l.length (inL l)

theorem OInts.nil (w : World) (base : Nat) : OInts w base (.slice none 0 0) [] := World.ownsRow_nil _ _ _ _
theorem OInts.keep {w w' : World} {base : Nat} {v : Value} {l : List Int} (h : OInts w base v l) (hu : ∀ b, v.ownBlock = some b → w'.heap[b]? = w.heap[b]?) : OInts w' base v l := by
  refine ⟨h.1, ?_⟩
  rcases h.2 with h | ⟨g, cap, cur, rfl, h2, h3, h4⟩
  · exact .inl h
  · exact .inr ⟨g, cap, cur, rfl, h2, (hu g rfl).trans h3, h4⟩
theorem OInts.up {w w' : World} {base : Nat} {v : Value} {l : List Int} (h : OInts w base v l) (hu : Up w w') : OInts w' base v l :=
  h.keep fun b hb => hu.block b (World.ownsRow.lt h b hb).2
theorem OInts.shape {w : World} {base : Nat} {v : Value} {l : List Int} (h : OInts w base v l) : ∃ o c, v = .slice o l.length c ∧ l.length ≤ c ∧ c ≤ maxLen ∧ (l = [] ∨ ∃ g, o = some ⟨g, 0, none⟩ ∧ ∀ k (hk : k < l.length), w.cell? ⟨g, 0 + k * 1, none⟩ = some (.int .i64 l[k])) := by
  have h' := h
  rcases h.2 with ⟨rfl, h0⟩ | ⟨g, cap, cur, rfl, _, _, h3, h4, _⟩
  · have : l = [] := List.eq_nil_of_length_eq_zero h0
    subst this
    exact ⟨none, 0, rfl, Nat.le_refl _, by unfold maxLen; omega, .inl rfl⟩
  · refine ⟨_, cap, rfl, h3, h4, .inr ⟨g, rfl, fun k hk => ?_⟩⟩
    have := World.ownsRow.cellAt h' k (by omega)
    rw [Nat.zero_add, Nat.mul_one, this]
    unfold inL
    rw [List.getElem?_map, List.getElem?_eq_getElem hk]
    rfl

def IdxIRel (l : List Int) (z : Int) (w : World) (i : Value) (wr : World) : Prop :=
  ∃ k : Nat, k ≤ l.length ∧ i = .int .i64 k ∧ Up w wr ∧ ∀ j (h : j < l.length), j < k → l[j] ≠ z

/-- what slices.Index says of whether it is there -/
def IdxIPost (l : List Int) (z : Int) (w : World) (e : Ending) (w' : World) : Prop := ∃ r : Int, e = .returned (.int .i64 r) ∧ decide (0 ≤ r) = l.contains z ∧ Up w w'

set_option maxRecDepth 100000 in
set_option maxHeartbeats 400000 in
theorem indexInt (v : Value) (base : Nat) (l : List Int) (z : Int) (w : World) (h : OInts w base v l) :
    Calls Tryz.prog 154 #[v, .int .i64 z] w (IdxIPost l z w) := by
  obtain ⟨o, c, rfl, h2, h3, h4⟩ := h.shape
  unfold maxLen at h3
  have H4 := Lib.hid h4
  clear h4 h
  go_enter Tryz.func154, Tryz.ntmps154
  go_wp2_with fail
  go_loopw [5, 8] (fun _ i wr => IdxIRel l z w i wr) (fun _ i _ => l.length - (intOf i).toNat)
  case atStart => exact ⟨0, Nat.zero_le _, rfl, Up.refl w, fun j _ hj => by omega⟩
  case round =>
    obtain ⟨k, hk, rfl, hu, hno⟩ := hrel
    have HN := Lib.hid hno
    clear hno
    by_cases hlt : k < l.length
    · rcases H4.out with h5 | ⟨g, rfl, h5⟩
      · rw [h5] at hlt; simp at hlt
      · have a1 := h5 k hlt
        rw [← hu.cell (World.block_lt_of_cell? w _ a1)] at a1
        have d1 : decide (k < l.length) = true := decide_eq_true hlt
        obtain ⟨y, hy⟩ : ∃ y, l[k] = y := ⟨_, rfl⟩
        rw [hy] at a1
        simp only [Nat.zero_add, Nat.mul_one] at a1
        have HY := Lib.hid hy
        have HU := Lib.hid hu
        clear h5 hy hu
        by_cases e : z = y
        · subst e
          go_wp2_with fail
          all_goals try go_quiet (fail)
          all_goals
            go_wp2_with fail
            go_ret
            refine ⟨(k : Int), rfl, ?_, by first | exact HU.out | exact HU.out.trans (Up.drewN _ _)⟩
            have hc : l.contains z = true := List.contains_iff_mem.2 (by rw [← HY.out]; exact List.getElem_mem hlt)
            rw [hc]
            simp
        · have e1 : (z == y) = false := by simpa using e
          have e2 : (y == z) = false := by simpa using fun h => e h.symm
          have HE := Lib.hid e
          clear e
          go_wp2_with fail
          all_goals try go_quiet (fail)
          all_goals
            go_wp2_with fail
            go_roundw
            case rel =>
              refine ⟨k + 1, by omega, by go_num, by first | exact HU.out | exact HU.out.trans (Up.drewN _ _), fun j hj hjk => ?_⟩
              by_cases ej : j = k
              · subst ej; rw [HY.out]; exact fun h => HE.out h.symm
              · exact HN.out j hj (by omega)
            case measure => simp only [intOf]; omega
    · have d1 : decide (k < l.length) = false := decide_eq_false hlt
      have HU := Lib.hid hu
      clear hu
      go_wp2_with fail
      go_ret
      refine ⟨-1, rfl, ?_, HU.out⟩
      have hc : l.contains z = false := by
        rw [Bool.eq_false_iff]
        intro h
        obtain ⟨i, hi, e⟩ := List.getElem_of_mem (List.contains_iff_mem.1 h)
        exact HN.out i hi (by omega) e
      rw [hc]; rfl

set_option maxRecDepth 100000 in
theorem containsInt (v : Value) (base : Nat) (l : List Int) (z : Int) (w : World) (h : OInts w base v l) :
    Calls Tryz.prog 109 #[v, .int .i64 z] w fun e w' => e = .returned (.bool (l.contains z)) ∧ Up w w' := by
  obtain ⟨o, c, hv, _⟩ := h.shape
  have hcall := indexInt v base l z w h
  generalize hq : l.contains z = q at hcall ⊢
  have HQ := Lib.hid hq
  subst hv
  clear h hq
  go_enter Tryz.func109, Tryz.ntmps109
  go_wp2_with fail
  refine hcall.mono ?_
  rintro e w1 ⟨r, rfl, hr, u1⟩
  rw [HQ.out] at hr
  have HR := Lib.hid hr
  clear hr
  go_wp2_with fail
  go_ret
  exact ⟨by rw [← HR.out]; rfl, u1⟩

end Go.Proofs.YtbeigaanlhaolaaGreatDoor
