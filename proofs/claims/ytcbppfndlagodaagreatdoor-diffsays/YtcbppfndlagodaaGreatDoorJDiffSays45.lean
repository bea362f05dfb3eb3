/-
  The texts ShelfS, BagSort, one behind the other; each says below what it holds and on what conditions.
-/
import Derived.Ground.GgsProg
import Derived.Shelf.GgSortFunc.Tiny
import Derived.Shelf.SlSortFuncK.WholeK
import Derived.Test.YtcbppfndlagodaaGreatDoorProg
import Derived.Test.YtcbppfndlagodaaGreatDoorJDiffSays19
import Derived.Deep.QuietTactic
import Derived.BigQuiet

/-
  Contracts of library functions at this program, each one application of a theorem of the library: what is proved is what each says. Conditions: as each says.
-/
namespace Go.Proofs
open Go.Shelf
def Tryz.laysGg6_ren : Go.Shelf.Ren := ⟨fun | 6 => 62 | 10 => 87 | 11 => 88 | 12 => 89 | 13 => 90 | 14 => 91 | 24 => 122 | 25 => 123 | 26 => 124 | 27 => 125 | 28 => 126 | 29 => 127 | 30 => 128 | 31 => 129 | 32 => 130 | 33 => 131 | 34 => 144 | 35 => 145 | 36 => 146 | 37 => 147 | 38 => 148 | 39 => 156 | n => n, fun | 20 => 20 | 26 => 100 | 35 => 126 | 0 => 0 | 37 => 128 | 3 => 3 | 41 => 132 | 44 => 135 | 49 => 160 | 51 => 162 | 4 => 4 | 54 => 165 | 53 => 164 | 58 => 153 | 5 => 5 | 9 => 9 | 60 => 178 | 64 => 182 | 66 => 188 | 67 => 189 | 17 => 17 | 32 => 123 | 33 => 124 | 82 => 218 | 12 => 12 | 75 => 212 | 76 => 213 | 77 => 214 | 78 => 155 | 79 => 215 | 80 => 216 | n => n, fun | n => n⟩
theorem Tryz.laysGg6 : Go.Proofs.LaysGg.n6 Tryz.prog Tryz.laysGg6_ren := {
  mixed := by kernel_rfl
  f6 := Tryz.func62.trans (congrArg some (by kernel_rfl))
  f10 := Tryz.func87.trans (congrArg some (by kernel_rfl))
  f11 := Tryz.func88.trans (congrArg some (by kernel_rfl))
  f12 := Tryz.func89.trans (congrArg some (by kernel_rfl))
  f13 := Tryz.func90.trans (congrArg some (by kernel_rfl))
  f14 := Tryz.func91.trans (congrArg some (by kernel_rfl))
  f24 := Tryz.func122.trans (congrArg some (by kernel_rfl))
  f25 := Tryz.func123.trans (congrArg some (by kernel_rfl))
  f26 := Tryz.func124.trans (congrArg some (by kernel_rfl))
  f27 := Tryz.func125.trans (congrArg some (by kernel_rfl))
  f28 := Tryz.func126.trans (congrArg some (by kernel_rfl))
  f29 := Tryz.func127.trans (congrArg some (by kernel_rfl))
  f30 := Tryz.func128.trans (congrArg some (by kernel_rfl))
  f31 := Tryz.func129.trans (congrArg some (by kernel_rfl))
  f32 := Tryz.func130.trans (congrArg some (by kernel_rfl))
  f33 := Tryz.func131.trans (congrArg some (by kernel_rfl))
  f34 := Tryz.func144.trans (congrArg some (by kernel_rfl))
  f35 := Tryz.func145.trans (congrArg some (by kernel_rfl))
  f36 := Tryz.func146.trans (congrArg some (by kernel_rfl))
  f37 := Tryz.func147.trans (congrArg some (by kernel_rfl))
  f38 := Tryz.func148.trans (congrArg some (by kernel_rfl))
  f39 := Tryz.func156.trans (congrArg some (by kernel_rfl))
  t0 := Tryz.underlying0
  a0 := Tryz.isAgg0
  z0 := Tryz.sizeOf0
  v0 := Tryz.zeroValue0
  i0 := by kernel_rfl
  t3 := Tryz.underlying3
  a3 := Tryz.isAgg3
  z3 := Tryz.sizeOf3
  v3 := Tryz.zeroValue3
  i3 := by kernel_rfl
  t4 := Tryz.underlying4
  a4 := Tryz.isAgg4
  z4 := Tryz.sizeOf4
  v4 := Tryz.zeroValue4
  i4 := by kernel_rfl
  t5 := Tryz.underlying5
  a5 := Tryz.isAgg5
  z5 := Tryz.sizeOf5
  v5 := Tryz.zeroValue5
  i5 := by kernel_rfl
  t9 := Tryz.underlying9
  a9 := Tryz.isAgg9
  z9 := Tryz.sizeOf9
  v9 := Tryz.zeroValue9
  i9 := by kernel_rfl
  t12 := Tryz.underlying12
  a12 := Tryz.isAgg12
  z12 := Tryz.sizeOf12
  v12 := Tryz.zeroValue12
  i12 := by kernel_rfl
  t17 := Tryz.underlying17
  a17 := Tryz.isAgg17
  z17 := Tryz.sizeOf17
  v17 := Tryz.zeroValue17
  i17 := by kernel_rfl
  t20 := Tryz.underlying20
  a20 := Tryz.isAgg20
  z20 := Tryz.sizeOf20
  v20 := Tryz.zeroValue20
  i20 := by kernel_rfl
  t26 := Tryz.underlying100
  a26 := Tryz.isAgg100
  z26 := Tryz.sizeOf100
  v26 := Tryz.zeroValue100
  i26 := by kernel_rfl
  t32 := Tryz.underlying123
  a32 := Tryz.isAgg123
  z32 := Tryz.sizeOf123
  v32 := Tryz.zeroValue123
  i32 := by kernel_rfl
  t33 := Tryz.underlying124
  a33 := Tryz.isAgg124
  z33 := Tryz.sizeOf124
  v33 := Tryz.zeroValue124
  i33 := by kernel_rfl
  t35 := Tryz.underlying126
  a35 := Tryz.isAgg126
  z35 := Tryz.sizeOf126
  v35 := Tryz.zeroValue126
  i35 := by kernel_rfl
  t37 := Tryz.underlying128
  a37 := Tryz.isAgg128
  z37 := Tryz.sizeOf128
  v37 := Tryz.zeroValue128
  i37 := by kernel_rfl
  t41 := Tryz.underlying132
  a41 := Tryz.isAgg132
  z41 := Tryz.sizeOf132
  v41 := Tryz.zeroValue132
  i41 := by kernel_rfl
  t44 := Tryz.underlying135
  a44 := Tryz.isAgg135
  z44 := Tryz.sizeOf135
  v44 := Tryz.zeroValue135
  i44 := by kernel_rfl
  t49 := Tryz.underlying160
  a49 := Tryz.isAgg160
  z49 := Tryz.sizeOf160
  v49 := Tryz.zeroValue160
  i49 := by kernel_rfl
  t51 := Tryz.underlying162
  a51 := Tryz.isAgg162
  z51 := Tryz.sizeOf162
  v51 := Tryz.zeroValue162
  i51 := by kernel_rfl
  t53 := Tryz.underlying164
  a53 := Tryz.isAgg164
  z53 := Tryz.sizeOf164
  v53 := Tryz.zeroValue164
  i53 := by kernel_rfl
  t54 := Tryz.underlying165
  a54 := Tryz.isAgg165
  z54 := Tryz.sizeOf165
  v54 := Tryz.zeroValue165
  i54 := by kernel_rfl
  t58 := Tryz.underlying153
  a58 := Tryz.isAgg153
  z58 := Tryz.sizeOf153
  v58 := Tryz.zeroValue153
  i58 := by kernel_rfl
  t60 := Tryz.underlying178
  a60 := Tryz.isAgg178
  z60 := Tryz.sizeOf178
  v60 := Tryz.zeroValue178
  i60 := by kernel_rfl
  t64 := Tryz.underlying182
  a64 := Tryz.isAgg182
  z64 := Tryz.sizeOf182
  v64 := Tryz.zeroValue182
  i64 := by kernel_rfl
  t66 := Tryz.underlying188
  a66 := Tryz.isAgg188
  z66 := Tryz.sizeOf188
  v66 := Tryz.zeroValue188
  i66 := by kernel_rfl
  t67 := Tryz.underlying189
  a67 := Tryz.isAgg189
  z67 := Tryz.sizeOf189
  v67 := Tryz.zeroValue189
  i67 := by kernel_rfl
  t75 := Tryz.underlying212
  a75 := Tryz.isAgg212
  z75 := Tryz.sizeOf212
  v75 := Tryz.zeroValue212
  i75 := by kernel_rfl
  t76 := Tryz.underlying213
  a76 := Tryz.isAgg213
  z76 := Tryz.sizeOf213
  v76 := Tryz.zeroValue213
  i76 := by kernel_rfl
  t77 := Tryz.underlying214
  a77 := Tryz.isAgg214
  z77 := Tryz.sizeOf214
  v77 := Tryz.zeroValue214
  i77 := by kernel_rfl
  t78 := Tryz.underlying155
  a78 := Tryz.isAgg155
  z78 := Tryz.sizeOf155
  v78 := Tryz.zeroValue155
  i78 := by kernel_rfl
  t79 := Tryz.underlying215
  a79 := Tryz.isAgg215
  z79 := Tryz.sizeOf215
  v79 := Tryz.zeroValue215
  i79 := by kernel_rfl
  t80 := Tryz.underlying216
  a80 := Tryz.isAgg216
  z80 := Tryz.sizeOf216
  v80 := Tryz.zeroValue216
  i80 := by kernel_rfl
  t82 := Tryz.underlying218
  a82 := Tryz.isAgg218
  z82 := Tryz.sizeOf218
  v82 := Tryz.zeroValue218
  i82 := by kernel_rfl }
end Go.Proofs

/-
  sort.Slice of a row of items by the reference's own closure: a permutation, each item behind the one before or alike. Conditions: the row is known whole; the closure's variable holds the slice.
-/
namespace Go.Proofs.YtcbppfndlagodaaGreatDoor
open Go.RowKit
open Go.Proofs
open WoolBag
open Go.Shelf Go.Lib Go.Sort

noncomputable def siT : TypeInfo := (Tryz.prog.info? 22).get (by kernel_rfl)
noncomputable def siE : TypeInfo := (Tryz.prog.info? 70).get (by kernel_rfl)

theorem siK (n : Nat) (h2 : 2 ≤ n) : Lib.swapperK n siE 25 = 9 := by
  have a : siE.hasPointers = true := by kernel_rfl
  have b : siE.bytes = 40 := by kernel_rfl
  have c : (n == 0) = false := by simp; omega
  have d : (n == 1) = false := by simp; omega
  simp [Lib.swapperK, a, b, c, d]

theorem swo_beh : SWO behB where
  irrefl := fun x => by unfold behB; simp
  trans := fun x y z h1 h2 => by rw [beh_iff] at *; exact h1.trans h2
  ntrans := fun x y z h1 h2 => by
    rw [Bool.eq_false_iff, Ne, beh_iff] at *
    unfold Beh at *
    omega

set_option maxRecDepth 100000 in
set_option maxHeartbeats 2000000 in
theorem lessI (blk c Bs size : Nat) (W : World) (dk : Nat → Itm) (hs : W.cell? ⟨Bs, 0, none⟩ = some (.slice (some ⟨blk, 0, none⟩) size c))
    (hc0 : ∀ t, t < size → W.cell? ⟨blk, t * 4, none⟩ = some (.int .i64 (dk t).s)) (hc1 : ∀ t, t < size → W.cell? ⟨blk, t * 4 + 1, none⟩ = some (.int .i64 (dk t).n)) (i j : Nat) (hi : i < size) (hj : j < size) (_hsz : size < 4611686018427387904) :
    Calls Tryz.prog 95 #[.int .i64 i, .int .i64 j, .pointer (some ⟨Bs, 0, none⟩)] W fun e w' => e = .returned (.bool (behB (dk i) (dk j))) ∧ ∃ q, w' = W.drewN q := by
  have ci := hc0 i hi
  have cj := hc0 j hj
  have di := hc1 i hi
  have dj := hc1 j hj
  have hb : behB (dk i) (dk j) = (decide ((dk i).s < (dk j).s) || ((dk j).s == (dk i).s && decide ((dk i).n < (dk j).n))) := rfl
  obtain ⟨R, hR⟩ : ∃ R, behB (dk i) (dk j) = R := ⟨_, rfl⟩
  rw [hR]
  rw [hb] at hR
  generalize (dk i).s = a at *
  generalize (dk j).s = b at *
  generalize (dk i).n = p at *
  generalize (dk j).n = q at *
  clear hc0 hc1 hb
  by_cases r1 : a < b
  · have t1 : decide (a < b) = true := decide_eq_true r1
    have HV : Hid (R = true) := by show _ = _; rw [← hR, t1]; rfl
    clear hR
    go_enter Tryz.func95, Tryz.ntmps95
    go_wp2_with fail
    go_quiet (fail)
    go_wp2_with fail
    go_ret
    exact ⟨by rw [HV.out]; rfl, nq, rfl⟩
  have t1 : decide (a < b) = false := decide_eq_false r1
  by_cases r2 : a = b
  · have t2 : (a == b) = true := by simpa using r2
    by_cases r3 : p < q
    · have t3 : decide (p < q) = true := decide_eq_true r3
      have HV : Hid (R = true) := by show _ = _; rw [← hR, r2, t3]; simp
      clear hR r2
      go_enter Tryz.func95, Tryz.ntmps95
      go_wp2_with fail
      go_quiet (fail)
      go_wp2_with fail
      go_ret
      exact ⟨by rw [HV.out]; rfl, nq, rfl⟩
    · have t3 : decide (p < q) = false := decide_eq_false r3
      have HV : Hid (R = false) := by show _ = _; rw [← hR, r2, t3]; simp
      clear hR r2
      go_enter Tryz.func95, Tryz.ntmps95
      go_wp2_with fail
      go_quiet (fail)
      go_wp2_with fail
      go_ret
      exact ⟨by rw [HV.out]; rfl, nq, rfl⟩
  · have t2 : (a == b) = false := by simpa using r2
    have t2' : (b == a) = false := by simpa using fun h => r2 h.symm
    have HV : Hid (R = false) := by show _ = _; rw [← hR, t1, t2']; rfl
    clear hR r2 t2'
    go_enter Tryz.func95, Tryz.ntmps95
    go_wp2_with fail
    go_quiet (fail)
    go_wp2_with fail
    go_ret
    exact ⟨by rw [HV.out]; rfl, nq, rfl⟩

theorem flat_itL (d : List Itm) : (flatK itC 4 d.toArray).toList = itL d := by
  apply List.ext_getElem
  · rw [Array.length_toList, size_flatK, itL_length]; simp
  · intro t h1 h2
    rw [itL_length] at h2
    have ht : t < d.toArray.size * 4 := by simpa using h2
    have e := get_flatK itC 4 d.toArray t ht
    have e1 : (flatK itC 4 d.toArray).toList[t] = (flatK itC 4 d.toArray)[t]! := by
      rw [Array.length_toList] at h1
      rw [getElem!_pos _ t h1]; rfl
    rw [e1, e]
    have hd : t / 4 < d.length := by omega
    have e2 : d.toArray[t / 4]! = d[t / 4] := by rw [getElem!_pos d.toArray (t / 4) (by simpa using hd)]; simp
    rw [e2]
    obtain ⟨b1, b2, b3, b4⟩ := itL_get d (t / 4) hd
    have hm : t % 4 < 4 := Nat.mod_lt _ (by omega)
    have hg : (itL d)[t]? = some ((itC d[t / 4])[t % 4]!) := by
      rcases Nat.lt_or_ge (t % 4) 1 with m0 | m0
      · rw [show t % 4 = 0 by omega]; rw [show t / 4 * 4 = t by omega] at b1; exact b1
      rcases Nat.lt_or_ge (t % 4) 2 with m1 | m1
      · rw [show t % 4 = 1 by omega]; rw [show t / 4 * 4 + 1 = t by omega] at b2; exact b2
      rcases Nat.lt_or_ge (t % 4) 3 with m2 | m2
      · rw [show t % 4 = 2 by omega]; rw [show t / 4 * 4 + 2 = t by omega] at b3; exact b3
      · rw [show t % 4 = 3 by omega]; rw [show t / 4 * 4 + 3 = t by omega] at b4; exact b4
    rw [List.getElem?_eq_getElem (by rw [itL_length]; exact h2)] at hg
    exact (Option.some.inj hg).symm

theorem holds_row {w : World} {blk : Nat} {d : List Itm} {sp : List Value} (h : RowI w blk (itL d ++ sp)) : HoldsK itC 4 w blk 0 d.toArray := by
  intro t ht
  rw [size_flatK] at ht
  have ht' : t < d.length * 4 := by simpa using ht
  rw [Nat.zero_add]
  refine ⟨h.cell ?_, h.frozen t⟩
  have e : (flatK itC 4 d.toArray)[t]! = (itL d)[t]'(by rw [itL_length]; exact ht') := by
    have h1 : (flatK itC 4 d.toArray).toList[t]'(by rw [flat_itL, itL_length]; exact ht') = (itL d)[t]'(by rw [itL_length]; exact ht') := by simp only [flat_itL]
    rw [← h1, getElem!_pos _ t (by rw [size_flatK]; exact ht)]; rfl
  rw [List.getElem?_append_left (by rw [itL_length]; exact ht'), e]
  exact List.getElem?_eq_getElem _

/-- what sort.Slice leaves -/
def SortPost (blk c : Nat) (d : List Itm) (w : World) (e : Ending) (w' : World) : Prop :=
  e = .returned (.tuple #[]) ∧ ∃ d' : List Itm, d'.Perm d ∧ d'.Pairwise (fun a b => behB b a = false) ∧ Items w' (.slice (some ⟨blk, 0, none⟩) d.length c) d' ∧ w.grownBy w' (some blk)

theorem grown_grow (w : World) (os : Array Obj) (row : Option Nat) : w.grownBy (Go.Sort.grow w os) row :=
  ⟨rfl, rfl, rfl, by rw [size_grow]; omega, fun k hk _ => heap_grow_old w os hk⟩

theorem grown_put (w : World) (n blk off : Nat) (d : Array Itm) : w.grownBy (putRowK itC 4 (Sort.ahead w n) blk off d) (some blk) := by
  refine ⟨rfl, rfl, rfl, by unfold putRowK; rw [size_putRow]; exact Nat.le_refl _, fun k hk hne => ?_⟩
  have hkb : blk ≠ k := fun e => hne (by rw [e])
  unfold putRowK putRow mapBlock
  simp [Array.getElem?_modify, hkb, Sort.ahead]

set_option maxHeartbeats 4000000 in
theorem sortI (blk c Bs : Nat) (d : List Itm) (sp : List Value) (w : World) (hrow : RowI w blk (itL d ++ sp)) (hs : w.cell? ⟨Bs, 0, none⟩ = some (.slice (some ⟨blk, 0, none⟩) d.length c)) (hne : Bs ≠ blk) (hd : d.length ≤ 100) (h1 : 1 ≤ d.length) (hc : d.length ≤ c) (hcm : c ≤ maxLen) :
    Calls Tryz.prog 62 #[.iface 22 (.slice (some ⟨blk, 0, none⟩) d.length c), .func (.func 95) #[] #[.pointer (some ⟨Bs, 0, none⟩)]] w (SortPost blk c d w) := by
  have hBs : Bs < w.heap.size := World.block_lt_of_cell? w _ hs
  by_cases h2 : d.length = 1
  · have ht := Any.sort_Slice_tiny Tryz.laysGg6 22 70 siT siE (by kernel_rfl) (by kernel_rfl) (by kernel_rfl) (by kernel_rfl) 25 (fun _ => by kernel_rfl) (some ⟨blk, 0, none⟩) d.length c (by omega) 114
      (by rw [h2]; kernel_rfl) (.func 95) #[] #[.pointer (some ⟨Bs, 0, none⟩)] w
    change Calls Tryz.prog 62 _ _ _ at ht
    refine ht.mono ?_
    rintro e w' ⟨rfl, os, rfl⟩
    have hg := grown_grow w os (some blk)
    refine ⟨rfl, d, List.Perm.refl _, ?_, ?_, hg⟩
    · exact List.pairwise_iff_getElem.2 (fun i j hi hj hij => by omega)
    · refine ⟨_, c, rfl, hc, hcm, .inr ⟨blk, 0, rfl, fun k hk => ?_⟩⟩
      obtain ⟨b1, b2, b3, b4⟩ := itL_get d k hk
      have hcell : ∀ j v, (itL d)[j]? = some v → (Go.Sort.grow w os).cell? ⟨blk, 0 + j, none⟩ = some v := fun j v hv => by
        rw [Nat.zero_add, cell?_grow _ _ _ hrow.lt]
        exact hrow.cell (get_app hv)
      exact ⟨hcell _ _ b1, hcell _ _ b2, hcell _ _ b3, hcell _ _ b4⟩
  · have hH := holds_row hrow
    have hb := hrow.lt
    have hless : LessReadsK Tryz.prog 95 #[.pointer (some ⟨Bs, 0, none⟩)] itC 4 behB blk 0 d.toArray.size w := by
      intro m os dk hsz i j hi hj
      have e : sortWorldK itC 4 w blk 0 m dk os = putRowK itC 4 (Go.Sort.grow (Sort.ahead w m) os) blk 0 dk := by
        unfold sortWorldK; rw [putRowK_grow _ _ (Sort.ahead w m) _ blk 0 _ hb]
      have hHg : HoldsK itC 4 (Go.Sort.grow (Sort.ahead w m) os) blk 0 d.toArray := holdsK_grow _ _ _ _ blk 0 _ hb (holdsK_ahead _ _ _ _ _ _ _ hH)
      have hcc := holdsK_putRowK _ _ _ blk 0 d.toArray dk hHg hsz
      refine lessI blk c Bs d.toArray.size _ (fun t => dk[t]!) ?_ (fun t ht => ?_) (fun t ht => ?_) i j hi hj (by simp; omega)
      · rw [e, cell?_putRowK_other _ _ _ blk 0 dk _ hne, cell?_grow _ _ _ hBs]
        rw [List.size_toArray]
        exact hs
      · rw [e]
        have := (hcc.cell (i := t) (c := 0) (by omega) (by omega)).1
        rw [Nat.zero_add, Nat.add_zero] at this
        exact this
      · rw [e]
        have := (hcc.cell (i := t) (c := 1) (by omega) (by omega)).1
        rw [Nat.zero_add] at this
        exact this
    have hS := Any.sort_Slice_cells_sorted Tryz.laysGg6 22 70 siT siE (by kernel_rfl) (by kernel_rfl) (by kernel_rfl) (by kernel_rfl) 25 (fun _ => by kernel_rfl) itC 4 (fun _ => rfl) (by kernel_rfl) (fun _ => by kernel_rfl)
      (fun x v hv => by unfold itC at hv; simp at hv; rcases hv with rfl | rfl | rfl | rfl <;> rfl) behB swo_beh 95 #[.pointer (some ⟨Bs, 0, none⟩)]
      (enters_of Tryz.func95 (by kernel_rfl) rfl) blk 0 c d.toArray (by simp; omega) (by simp; omega) 121 (by rw [siK _ (by simp; omega)]; kernel_rfl) false
      (fun args W => run_callFunc_extern Tryz.func121 (by kernel_rfl) (by kernel_rfl) (by kernel_rfl) (e := Extern.ReflectliteSwapper.swap false) (by kernel_rfl) args W) w hless hH hb
    change Calls Tryz.prog 62 _ _ _ at hS
    rw [List.size_toArray] at hS
    refine hS.mono ?_
    rintro e w' ⟨rfl, d', n, os, hP, hSo, rfl⟩
    obtain ⟨hsz, _, hperm⟩ := hP
    have hsz' : d'.size = d.length := by simpa using hsz
    have hsl : d'.toList.length = d.length := by rw [Array.length_toList]; exact hsz'
    refine ⟨rfl, d'.toList, ?_, ?_, ?_, ?_⟩
    · have e1 : (d'.extract 0 d.length).toList = d'.toList := by rw [← hsz', Array.extract_size]
      have e2 : (d.toArray.extract 0 d.length).toList = d := by
        have : d.length = d.toArray.size := by simp
        rw [this, Array.extract_size]
      rw [e1, e2] at hperm
      exact hperm
    · rw [List.pairwise_iff_getElem]
      intro i j hi hj hij
      have := hSo i j (Nat.zero_le _) hij (by rw [← hsl]; exact hj)
      rw [getElem!_pos d' j (by rw [hsz']; rw [hsl] at hj; exact hj), getElem!_pos d' i (by rw [hsz']; rw [hsl] at hi; exact hi)] at this
      exact this
    · refine ⟨_, c, by rw [hsl], by rw [hsl]; exact hc, hcm, .inr ⟨blk, 0, rfl, fun k hk => ?_⟩⟩
      rw [hsl] at hk
      have hbp : blk < (putRowK itC 4 (Sort.ahead w n) blk 0 d').heap.size := by unfold putRowK; rw [size_putRow]; exact hb
      have hcc := holdsK_putRowK itC 4 (Sort.ahead w n) blk 0 d.toArray d' (holdsK_ahead _ _ _ _ _ _ _ hH) hsz
      have hget : d'[k]! = d'.toList[k]'(by rw [hsl]; exact hk) := by rw [getElem!_pos d' k (by rw [hsz']; exact hk)]; rfl
      have hcell : ∀ q v, q < 4 → (itC d'[k]!)[q]! = v → (Go.Sort.grow (putRowK itC 4 (Sort.ahead w n) blk 0 d') os).cell? ⟨blk, 0 + k * 4 + q, none⟩ = some v := fun q v hq hv => by
        rw [cell?_grow _ _ _ hbp, ← hv]
        exact (hcc.cell (i := k) (c := q) (by rw [hsz']; exact hk) hq).1
      rw [← hget]
      exact ⟨hcell 0 _ (by omega) rfl, hcell 1 _ (by omega) rfl, hcell 2 _ (by omega) rfl, hcell 3 _ (by omega) rfl⟩
    · have h1 := grown_put w n blk 0 d'
      have h2 := grown_grow (putRowK itC 4 (Sort.ahead w n) blk 0 d') os (some blk)
      exact ⟨h1.os, h1.tape, h1.output, Nat.le_trans h1.size h2.size, fun k hk hne => (h2.block k (Nat.lt_of_lt_of_le hk h1.size) hne).trans (h1.block k hk hne)⟩

end Go.Proofs.YtcbppfndlagodaaGreatDoor
