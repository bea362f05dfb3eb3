/-
  The texts Bag5, Bag6, ShelfS, one behind the other; each says below what it holds and on what conditions.
-/
import Derived.Test.YtcbppfndlagodaaGreatDoorJVolMakes07
import Derived.Ground.GgsProg
import Derived.Shelf.GgSortFunc.Tiny
import Derived.Shelf.SlSortFuncK.WholeK
import Derived.Test.YtcbppfndlagodaaGreatDoorProg

/-
  What find and Get of package bag return. Condition: the row can be read.
-/
namespace Go.Proofs.YtcbppfndlagodaaGreatDoor
open Go.RowKit
open Go.Proofs
open WoolBag

/-- what find answers, as the two results -/
def findR (l : List Itm) (i : Bool × Int × Int) : Value := .tuple #[.int .i64 ((find FP l i).1 : Int), .int .i64 (find FP l i).2]

set_option maxRecDepth 100000 in
set_option maxHeartbeats 1000000 in
theorem find_any (v : Value) (l : List Itm) (i : Bool × Int × Int) (w : World) (h : Items w v l) :
    Calls Tryz.prog 85 #[v, idV i] w fun e w' => e = .returned (findR l i) ∧ Up w w' := by
  obtain ⟨R, hR⟩ : ∃ R, findR l i = R := ⟨_, rfl⟩
  rw [hR]
  have HR := Lib.hid hR
  have HX := Lib.hid h
  have HC := Lib.hid (fun W (hW : Up w W) => check_any v l W (h.up hW))
  obtain ⟨o, c, rfl, h3⟩ := h.slice
  unfold maxLen at h3
  obtain ⟨C, hC⟩ : ∃ C, chk FP l = C := ⟨_, rfl⟩
  have HCC := Lib.hid hC
  have HM := Lib.hid (hasId_make i)
  have hix := fun W (hW : Up w W) => indexF (.slice o l.length c) l W 134
  unfold idV at HM ⊢
  obtain ⟨ib, is, iN⟩ := i
  simp only at HM ⊢
  clear hR hC h hix
  go_enter Tryz.func85, Tryz.ntmps85
  go_wp2_with fail
  refine (HC.out _ (Up.alloc _ _)).mono ?_
  rintro e w1 ⟨rfl, u1⟩
  rw [HCC.out]
  have HU1 : Hid (Up w w1) := Up.after _ _ _ u1
  have hbx := BoxI.up (BoxI.new w 49 (.bool ib) (.int .i64 is) (.int .i64 iN)) u1
  obtain ⟨c0, c1, c2⟩ := hbx.cells
  clear hbx u1
  by_cases h0 : C = 0
  · subst h0
    go_wp2_with fail
    refine (HM.out _).mono ?_
    rintro e w2 ⟨lb, rfl, u2, hp⟩
    have hcall := indexF (.slice o l.length c) l w2 134 lb _ eg_id (HX.out.up (HU1.out.trans u2)) hp
    have HCALL := Lib.hid hcall
    clear hcall hp
    go_wp2_with fail
    refine HCALL.out.mono ?_
    rintro e w3 ⟨rfl, u3⟩
    unfold ixI
    cases hi : idx (idB (ib, is, iN)) l with
    | some k =>
      have HRR : Hid (R = .tuple #[.int .i64 (k : Int), .int .i64 0]) := by
        show _ = _
        rw [← HR.out]; unfold findR find
        rw [if_neg (by simp [HCC.out]), hi]
      clear hi
      simp only
      go_wp2_with fail
      go_ret2
      exact ⟨by rw [HRR.out]; rfl, (HU1.out.trans u2).trans u3⟩
    | none =>
      have HRR : Hid (R = .tuple #[.int .i64 0, .int .i64 4]) := by
        show _ = _
        rw [← HR.out]; unfold findR find
        rw [if_neg (by simp [HCC.out]), hi]
        rfl
      clear hi
      simp only
      go_wp2_with fail
      go_ret2
      exact ⟨by rw [HRR.out]; rfl, (HU1.out.trans u2).trans u3⟩
  · have hne : (C != 0) = true := by rw [bne_iff_ne]; exact h0
    have HRR : Hid (R = .tuple #[.int .i64 0, .int .i64 C]) := by
      show _ = _
      rw [← HR.out]; unfold findR find
      rw [if_pos (by rw [HCC.out]; exact h0), HCC.out]
      rfl
    clear h0
    go_wp2_with fail
    go_ret2
    exact ⟨by rw [HRR.out]; rfl, HU1.out⟩

theorem find_lt {l : List Itm} {i : Bool × Int × Int} (h : (find FP l i).2 = 0) : (find FP l i).1 < l.length ∧ Bag FP l ∧ idB i l[(find FP l i).1]! = true := by
  unfold find at h ⊢
  by_cases hc : chk FP l ≠ 0
  · rw [if_pos hc] at h; exact absurd h hc
  · rw [if_neg hc] at h ⊢
    cases hi : idx (idB i) l with
    | none => rw [hi] at h; cases h
    | some k =>
      obtain ⟨h1, h2, _⟩ := idx_some hi
      simp only
      refine ⟨h1, (chk_zero _).1 (by simpa using hc), ?_⟩
      rw [getElem!_pos l k h1]; exact h2

/-- what Get answers, as the two results -/
def getBR (l : List Itm) (i : Bool × Int × Int) : Value := .tuple #[.string (bs (WoolBag.get FP l i).1), .int .i64 (WoolBag.get FP l i).2]

set_option maxRecDepth 100000 in
set_option maxHeartbeats 1000000 in
theorem get_any (v : Value) (l : List Itm) (i : Bool × Int × Int) (w : World) (h : Items w v l) :
    Calls Tryz.prog 102 #[v, idV i] w fun e w' => e = .returned (getBR l i) ∧ Up w w' := by
  obtain ⟨R, hR⟩ : ∃ R, getBR l i = R := ⟨_, rfl⟩
  rw [hR]
  have HR := Lib.hid hR
  have hfi := Lib.hid (fun W (hW : Up w W) => find_any v l i W (h.up hW))
  unfold findR at hfi
  have HL := Lib.hid (find_lt (l := l) (i := i))
  unfold getBR WoolBag.get at hR
  obtain ⟨K, hK⟩ : ∃ K, (find FP l i).1 = K := ⟨_, rfl⟩
  obtain ⟨E, hE⟩ : ∃ E, (find FP l i).2 = E := ⟨_, rfl⟩
  rw [hK, hE] at hfi HL hR
  have HRR := Lib.hid hR
  obtain ⟨o, c, rfl, h2, h3, h4⟩ := h
  unfold maxLen at h3
  have H4 := Lib.hid h4
  unfold idV at hfi ⊢
  obtain ⟨ib, is, iN⟩ := i
  simp only at hfi ⊢
  clear hR hK hE h4
  go_enter Tryz.func102, Tryz.ntmps102
  go_wp2_with fail
  refine (hfi.out _ (Up.alloc _ _)).mono ?_
  rintro e w1 ⟨rfl, u1⟩
  have HU1 : Hid (Up w w1) := Up.after _ _ _ u1
  clear u1
  by_cases h0 : E = 0
  · subst h0
    obtain ⟨hk, hbag, _⟩ := HL.out rfl
    have ht := (hbag.ok _ (List.getElem_mem hk)).1
    rcases H4.out with h5 | ⟨b, off, rfl, h5⟩
    · rw [h5] at hk; simp at hk
    obtain ⟨_, _, a3, _⟩ := h5 K hk
    rw [← HU1.out.cell (World.block_lt_of_cell? w _ a3)] at a3
    have hr := HRR.out
    rw [if_pos rfl] at hr
    simp only at hr
    rw [getElem!_pos l K hk] at hr
    have HT : Hid ((bs l[K].t).size ≤ 1000) := by show (bs l[K].t).size ≤ 1000; rw [bs_size]; omega
    generalize bs l[K].t = T at a3 hr HT
    have HRV := Lib.hid hr
    clear h5 hbag ht hr
    go_wp2_with fail
    refine (clone_str T _ HT.out).mono ?_
    rintro e w2 ⟨rfl, u2⟩
    go_wp2_with fail
    go_ret2
    exact ⟨by rw [← HRV.out]; rfl, HU1.out.trans u2⟩
  · have hr := HRR.out
    rw [if_neg h0] at hr
    have HRV := Lib.hid hr
    have hne : (E != 0) = true := by rw [bne_iff_ne]; exact h0
    clear hr h0
    go_wp2_with fail
    go_ret2
    exact ⟨by rw [← HRV.out]; rfl, HU1.out⟩

end Go.Proofs.YtcbppfndlagodaaGreatDoor

/-
  Rows of items that are known whole (RowI); slices.Clone of items; clone and reuse of package bag. Conditions: as each says.
-/
namespace Go.Proofs.YtcbppfndlagodaaGreatDoor
open Go.RowKit
open Go.Proofs
open WoolBag

/-- a row of items' cells, known whole -/
def RowI (w : World) (g : Nat) (L : List Value) : Prop := w.heap[g]? = some (.cells L.toArray 70 (0, 0))

theorem RowI.lt {w : World} {g : Nat} {L : List Value} (h : RowI w g L) : g < w.heap.size := (Array.getElem?_eq_some_iff.1 h).1
theorem RowI.at {w : World} {g : Nat} {L : List Value} (h : RowI w g L) (j : Nat) : w.cell? ⟨g, j, none⟩ = L[j]? := by
  rw [cell_of_row _ _ j _ _ _ h, List.getElem?_toArray]
theorem RowI.cell {w : World} {g : Nat} {L : List Value} {j : Nat} {v : Value} (h : RowI w g L) (hj : L[j]? = some v) : w.cell? ⟨g, j, none⟩ = some v := (h.at j).trans hj
theorem RowI.frozen {w : World} {g : Nat} {L : List Value} (h : RowI w g L) (j : Nat) : w.frozen? ⟨g, j, none⟩ = false := by
  unfold RowI at h; simp [World.frozen?, h]
theorem RowI.set {w : World} {g : Nat} {L : List Value} (h : RowI w g L) (j : Nat) (v : Value) : RowI (w.setCell ⟨g, j, none⟩ v) g (L.set j v) := by
  unfold RowI at h ⊢
  simp [World.setCell, Array.getElem?_modify, h]
theorem RowI.below {w w' : World} {g n : Nat} {L : List Value} (h : RowI w g L) (hb : Below n w w') (hg : g < n) : RowI w' g L := (hb.block g hg).trans h
theorem RowI.up {w w' : World} {g : Nat} {L : List Value} (h : RowI w g L) (hb : Up w w') : RowI w' g L := h.below hb h.lt

theorem OItems.mk {w : World} {base g cap : Nat} {l : List Itm} {sp : List Value} (hb : base ≤ g) (h : RowI w g (itL l ++ sp)) (h1 : l.length ≤ cap) (h2 : cap ≤ maxLen) (h3 : l.length * 4 + sp.length = cap * 4) :
    OItems w base (.slice (some ⟨g, 0, none⟩) l.length cap) l := by
  refine ⟨itL_length l, .inr ⟨g, cap, (itL l ++ sp).toArray, rfl, hb, h, h1, h2, ?_, ?_⟩⟩
  · rw [List.size_toArray, List.length_append, itL_length]; exact h3
  · rw [← itL_length l]; simp

theorem OItems.row {w : World} {base : Nat} {v : Value} {l : List Itm} (h : OItems w base v l) :
    (v = .slice none 0 0 ∧ l = []) ∨ ∃ g cap sp, v = .slice (some ⟨g, 0, none⟩) l.length cap ∧ base ≤ g ∧ RowI w g (itL l ++ sp) ∧ l.length ≤ cap ∧ cap ≤ maxLen ∧ l.length * 4 + sp.length = cap * 4 := by
  rcases h.2 with ⟨h1, h2⟩ | ⟨g, cap, cur, h1, h2, h3, h4, h5, h6, h7⟩
  · exact .inl ⟨h1, List.eq_nil_of_length_eq_zero h2⟩
  · refine .inr ⟨g, cap, cur.toList.drop (l.length * 4), h1, h2, ?_, h4, h5, ?_⟩
    · unfold RowI
      rw [h3, ← h7, List.take_append_drop]
    · have hs : cur.toList.length = cur.size := Array.length_toList
      rw [List.length_drop, hs, h6]
      omega

theorem get_app {l : List Itm} {sp : List Value} {j : Nat} {v : Value} (h : (itL l)[j]? = some v) : (itL l ++ sp)[j]? = some v := by
  rw [List.getElem?_append_left ((List.getElem?_eq_some_iff.1 h).1)]; exact h

theorem itL_setR : ∀ (l : List Itm) (k : Nat) (h : k < l.length) (d : Int), (itL l).set (k * 4 + 3) (.int .i64 (l[k].r + d)) = itL (l.set k (more l[k] d))
  | [], k, h, _ => by simp at h
  | x :: r, 0, h, d => rfl
  | x :: r, k + 1, h, d => by
    have ih := itL_setR r k (by simpa using h) d
    rw [show (k + 1) * 4 + 3 = (k * 4 + 3) + 1 + 1 + 1 + 1 by omega, List.set_cons_succ]
    unfold itL
    simp only [List.set_cons_succ, List.getElem_cons_succ]
    rw [ih]

theorem set_same : ∀ (L : List Value) (j : Nat) (v : Value), L[j]? = some v → L.set j v = L
  | [], _, _, _ => rfl
  | x :: r, 0, v, h => by simp at h; simp [h]
  | x :: r, j + 1, v, h => by rw [List.set_cons_succ, set_same r j v (by simpa using h)]

/-- what a call leaves that answers a new row of items -/
def OwnPost (w : World) (l : List Itm) (e : Ending) (w' : World) : Prop := ∃ v', e = .returned v' ∧ OItems w' w.heap.size v' l ∧ Up w w'

/-- the cells of a slice that reads as items -/
theorem Items.cells {w : World} {b off n c : Nat} {l : List Itm} (h : Items w (.slice (some ⟨b, off, none⟩) n c) l) (hne : l ≠ []) : ∀ j u, (itL l)[j]? = some u → w.cell? ⟨b, off + j, none⟩ = some u := by
  obtain ⟨o', c', h1, h2, h3, h4⟩ := h
  simp only [Value.slice.injEq] at h1
  obtain ⟨rfl, rfl, rfl⟩ := h1
  rcases h4 with h4 | ⟨b', off', h5, h6⟩
  · exact absurd h4 hne
  · cases h5
    intro j u hj
    have hlt : j < l.length * 4 := by rw [← itL_length]; exact (List.getElem?_eq_some_iff.1 hj).1
    obtain ⟨a1, a2, a3, a4⟩ := h6 (j / 4) (by omega)
    obtain ⟨b1, b2, b3, b4⟩ := itL_get l (j / 4) (by omega)
    have hm : j % 4 < 4 := Nat.mod_lt _ (by omega)
    have hd : j / 4 * 4 + j % 4 = j := by omega
    rcases Nat.lt_or_ge (j % 4) 1 with m0 | m0
    · rw [show j / 4 * 4 = j by omega] at a1 b1
      rw [hj] at b1; rw [a1]; exact b1.symm
    rcases Nat.lt_or_ge (j % 4) 2 with m1 | m1
    · rw [show off + j / 4 * 4 + 1 = off + j by omega] at a2
      rw [show j / 4 * 4 + 1 = j by omega, hj] at b2; rw [a2]; exact b2.symm
    rcases Nat.lt_or_ge (j % 4) 3 with m2 | m2
    · rw [show off + j / 4 * 4 + 2 = off + j by omega] at a3
      rw [show j / 4 * 4 + 2 = j by omega, hj] at b3; rw [a3]; exact b3.symm
    · rw [show off + j / 4 * 4 + 3 = off + j by omega] at a4
      rw [show j / 4 * 4 + 3 = j by omega, hj] at b4; rw [a4]; exact b4.symm

theorem add_lit (b off j : Nat) : (⟨b, off, none⟩ : Addr).add j = ⟨b, off + j, none⟩ := by
  unfold Addr.add
  split
  · rename_i e; subst e; rfl
  · rfl

theorem itInfo' : ∃ i, Tryz.prog.info? 70 = some i ∧ i.zero = some (.agg #[.int .i64 0, .int .i64 0, .string ⟨#[]⟩, .int .i64 0]) ∧ i.size = 4 ∧ i.bytes = 40 := by
  have h := itInfo
  cases hq : Tryz.prog.info? 70 with
  | none => rw [hq] at h; cases h
  | some i =>
    rw [hq] at h
    simp only [Option.map_some, Option.some.injEq, Prod.mk.injEq] at h
    exact ⟨i, rfl, h.1, h.2.1, h.2.2⟩

set_option maxRecDepth 100000 in
set_option maxHeartbeats 1000000 in
theorem sclone_any (v : Value) (l : List Itm) (w : World) (h : Items w v l) (hl : l.length ≤ 64) :
    Calls Tryz.prog 34 #[v] w (OwnPost w l) := by
  obtain ⟨i0, hi, hz0, hz1, hz2⟩ := itInfo'
  have HX := Lib.hid h
  obtain ⟨o, c, rfl, h3⟩ := h.slice
  unfold maxLen at h3
  have q22 : ∀ (w : World) (a : Option Addr) (n c n' c' : Nat), (binOp .eql 22 (.slice a n c) (.slice none n' c')).run Tryz.prog w = .ok (.bool a.isNone) w := fun w a n c n' c' => Lib.run_eql_slice_nil w _ _ a n c n' c' Tryz.underlying22
  cases o with
  | none =>
    have hn : l = [] := by
      obtain ⟨o', c', h1, _, _, h4⟩ := h
      rcases h4 with h4 | ⟨b, off, h5, _⟩
      · exact h4
      · cases h1; cases h5
    subst hn
    clear h
    go_enter Tryz.func34, Tryz.ntmps34
    go_wp2
    go_ret
    exact ⟨_, rfl, OItems.nil _ _, Up.refl _⟩
  | some ad =>
    have hcl : Hid (∀ j u, (itL l)[j]? = some u → w.cell? (ad.add j) = some u) := by
      intro j u hj
      have hne : l ≠ [] := by rintro rfl; simp [itL] at hj
      obtain ⟨b, off, sp⟩ := ad
      obtain ⟨o', c', h1, _, _, h4⟩ := h
      rcases h4 with h4 | ⟨b', off', h5, _⟩
      · exact absurd h4 hne
      · cases h1; cases h5
        rw [add_lit]
        exact HX.out.cells hne j u hj
    clear h HX
    go_enter Tryz.func34, Tryz.ntmps34
    go_wp2_with (at_builtin; refine wpList_append_own _ rfl _ _ 22 rfl w.heap.size 70 i0 _ 4 40 Tryz.underlying22 hi hz0 hz1 hz2 rfl (by omega) _ _ _ rfl (World.ownsRow_made w #[] 0 (Nat.le_refl _) (Nat.zero_le _) (by simp)) ad l.length c (itL l) rfl ?qc1 ?qc2 ?qc3 ?qc4 ?qc5 ?qc6 ?_)
    case qc1 => exact itL_length l
    case qc2 =>
      intro j u hj
      exact Lib.cell?_alloc_some _ (hcl.out j u hj)
    case qc3 => exact itL_one l
    case qc4 => unfold maxLen; omega
    case qc5 => omega
    case qc6 => simp
    intro v' w1 hown hgrow hnil
    have HO : Hid (OItems w1 w.heap.size v' l) := by
      show OItems w1 w.heap.size v' l
      unfold OItems
      simpa using hown
    have HU : Hid (Up w w1) := ((Below.refl _ w).alloc (Nat.le_refl _) _).grown hgrow (by simp) (by intro k hk; simp [Value.ownBlock] at hk; omega)
    clear hown hgrow hnil hcl
    go_wp2
    go_ret
    exact ⟨v', rfl, HO.out, HU.out⟩

end Go.Proofs.YtcbppfndlagodaaGreatDoor

/-
  Contracts of library functions at this program, each one application of a theorem of the library: what is proved is what each says. Conditions: as each says.
-/
namespace Go.Proofs
open Go.Shelf
def Tryz.laysGg6_ren : Go.Shelf.Ren := ⟨fun | 6 => 62 | 10 => 87 | 11 => 88 | 12 => 89 | 13 => 90 | 14 => 91 | 24 => 122 | 25 => 123 | 26 => 124 | 27 => 125 | 28 => 126 | 29 => 127 | 30 => 128 | 31 => 129 | 32 => 130 | 33 => 131 | 34 => 144 | 35 => 145 | 36 => 146 | 37 => 147 | 38 => 148 | 39 => 156 | n => n, fun | 20 => 20 | 26 => 100 | 35 => 126 | 0 => 0 | 37 => 128 | 3 => 3 | 41 => 132 | 44 => 135 | 49 => 160 | 51 => 162 | 4 => 4 | 54 => 165 | 53 => 164 | 58 => 153 | 5 => 5 | 9 => 9 | 60 => 178 | 64 => 182 | 66 => 188 | 67 => 189 | 17 => 17 | 32 => 123 | 33 => 124 | 82 => 218 | 12 => 12 | 75 => 212 | 76 => 213 | 77 => 214 | 78 => 155 | 79 => 215 | 80 => 216 | n => n, fun | n => n⟩
theorem Tryz.laysGg6 : Go.Proofs.LaysGg.n6 Tryz.prog Tryz.laysGg6_ren := {
  mixed := by kernel_rfl
  f6 := Tryz.func62.trans (congrArg some (by kernel_rfl))
  f10 := Tryz.func87.trans (congrArg some (by kernel_rfl))
  f11 := Tryz.func88.trans (congrArg some (by kernel_rfl))
  f12 := Tryz.func89.trans (congrArg some (by kernel_rfl))
  f13 := Tryz.func90.trans (congrArg some (by kernel_rfl))
  f14 := Tryz.func91.trans (congrArg some (by kernel_rfl))
  f24 := Tryz.func122.trans (congrArg some (by kernel_rfl))
  f25 := Tryz.func123.trans (congrArg some (by kernel_rfl))
  f26 := Tryz.func124.trans (congrArg some (by kernel_rfl))
  f27 := Tryz.func125.trans (congrArg some (by kernel_rfl))
  f28 := Tryz.func126.trans (congrArg some (by kernel_rfl))
  f29 := Tryz.func127.trans (congrArg some (by kernel_rfl))
  f30 := Tryz.func128.trans (congrArg some (by kernel_rfl))
  f31 := Tryz.func129.trans (congrArg some (by kernel_rfl))
  f32 := Tryz.func130.trans (congrArg some (by kernel_rfl))
  f33 := Tryz.func131.trans (congrArg some (by kernel_rfl))
  f34 := Tryz.func144.trans (congrArg some (by kernel_rfl))
  f35 := Tryz.func145.trans (congrArg some (by kernel_rfl))
  f36 := Tryz.func146.trans (congrArg some (by kernel_rfl))
  f37 := Tryz.func147.trans (congrArg some (by kernel_rfl))
  f38 := Tryz.func148.trans (congrArg some (by kernel_rfl))
  f39 := Tryz.func156.trans (congrArg some (by kernel_rfl))
  t0 := Tryz.underlying0
  a0 := Tryz.isAgg0
  z0 := Tryz.sizeOf0
  v0 := Tryz.zeroValue0
  i0 := by kernel_rfl
  t3 := Tryz.underlying3
  a3 := Tryz.isAgg3
  z3 := Tryz.sizeOf3
  v3 := Tryz.zeroValue3
  i3 := by kernel_rfl
  t4 := Tryz.underlying4
  a4 := Tryz.isAgg4
  z4 := Tryz.sizeOf4
  v4 := Tryz.zeroValue4
  i4 := by kernel_rfl
  t5 := Tryz.underlying5
  a5 := Tryz.isAgg5
  z5 := Tryz.sizeOf5
  v5 := Tryz.zeroValue5
  i5 := by kernel_rfl
  t9 := Tryz.underlying9
  a9 := Tryz.isAgg9
  z9 := Tryz.sizeOf9
  v9 := Tryz.zeroValue9
  i9 := by kernel_rfl
  t12 := Tryz.underlying12
  a12 := Tryz.isAgg12
  z12 := Tryz.sizeOf12
  v12 := Tryz.zeroValue12
  i12 := by kernel_rfl
  t17 := Tryz.underlying17
  a17 := Tryz.isAgg17
  z17 := Tryz.sizeOf17
  v17 := Tryz.zeroValue17
  i17 := by kernel_rfl
  t20 := Tryz.underlying20
  a20 := Tryz.isAgg20
  z20 := Tryz.sizeOf20
  v20 := Tryz.zeroValue20
  i20 := by kernel_rfl
  t26 := Tryz.underlying100
  a26 := Tryz.isAgg100
  z26 := Tryz.sizeOf100
  v26 := Tryz.zeroValue100
  i26 := by kernel_rfl
  t32 := Tryz.underlying123
  a32 := Tryz.isAgg123
  z32 := Tryz.sizeOf123
  v32 := Tryz.zeroValue123
  i32 := by kernel_rfl
  t33 := Tryz.underlying124
  a33 := Tryz.isAgg124
  z33 := Tryz.sizeOf124
  v33 := Tryz.zeroValue124
  i33 := by kernel_rfl
  t35 := Tryz.underlying126
  a35 := Tryz.isAgg126
  z35 := Tryz.sizeOf126
  v35 := Tryz.zeroValue126
  i35 := by kernel_rfl
  t37 := Tryz.underlying128
  a37 := Tryz.isAgg128
  z37 := Tryz.sizeOf128
  v37 := Tryz.zeroValue128
  i37 := by kernel_rfl
  t41 := Tryz.underlying132
  a41 := Tryz.isAgg132
  z41 := Tryz.sizeOf132
  v41 := Tryz.zeroValue132
  i41 := by kernel_rfl
  t44 := Tryz.underlying135
  a44 := Tryz.isAgg135
  z44 := Tryz.sizeOf135
  v44 := Tryz.zeroValue135
  i44 := by kernel_rfl
  t49 := Tryz.underlying160
  a49 := Tryz.isAgg160
  z49 := Tryz.sizeOf160
  v49 := Tryz.zeroValue160
  i49 := by kernel_rfl
  t51 := Tryz.underlying162
  a51 := Tryz.isAgg162
  z51 := Tryz.sizeOf162
  v51 := Tryz.zeroValue162
  i51 := by kernel_rfl
  t53 := Tryz.underlying164
  a53 := Tryz.isAgg164
  z53 := Tryz.sizeOf164
  v53 := Tryz.zeroValue164
  i53 := by kernel_rfl
  t54 := Tryz.underlying165
  a54 := Tryz.isAgg165
  z54 := Tryz.sizeOf165
  v54 := Tryz.zeroValue165
  i54 := by kernel_rfl
  t58 := Tryz.underlying153
  a58 := Tryz.isAgg153
  z58 := Tryz.sizeOf153
  v58 := Tryz.zeroValue153
  i58 := by kernel_rfl
  t60 := Tryz.underlying178
  a60 := Tryz.isAgg178
  z60 := Tryz.sizeOf178
  v60 := Tryz.zeroValue178
  i60 := by kernel_rfl
  t64 := Tryz.underlying182
  a64 := Tryz.isAgg182
  z64 := Tryz.sizeOf182
  v64 := Tryz.zeroValue182
  i64 := by kernel_rfl
  t66 := Tryz.underlying188
  a66 := Tryz.isAgg188
  z66 := Tryz.sizeOf188
  v66 := Tryz.zeroValue188
  i66 := by kernel_rfl
  t67 := Tryz.underlying189
  a67 := Tryz.isAgg189
  z67 := Tryz.sizeOf189
  v67 := Tryz.zeroValue189
  i67 := by kernel_rfl
  t75 := Tryz.underlying212
  a75 := Tryz.isAgg212
  z75 := Tryz.sizeOf212
  v75 := Tryz.zeroValue212
  i75 := by kernel_rfl
  t76 := Tryz.underlying213
  a76 := Tryz.isAgg213
  z76 := Tryz.sizeOf213
  v76 := Tryz.zeroValue213
  i76 := by kernel_rfl
  t77 := Tryz.underlying214
  a77 := Tryz.isAgg214
  z77 := Tryz.sizeOf214
  v77 := Tryz.zeroValue214
  i77 := by kernel_rfl
  t78 := Tryz.underlying155
  a78 := Tryz.isAgg155
  z78 := Tryz.sizeOf155
  v78 := Tryz.zeroValue155
  i78 := by kernel_rfl
  t79 := Tryz.underlying215
  a79 := Tryz.isAgg215
  z79 := Tryz.sizeOf215
  v79 := Tryz.zeroValue215
  i79 := by kernel_rfl
  t80 := Tryz.underlying216
  a80 := Tryz.isAgg216
  z80 := Tryz.sizeOf216
  v80 := Tryz.zeroValue216
  i80 := by kernel_rfl
  t82 := Tryz.underlying218
  a82 := Tryz.isAgg218
  z82 := Tryz.sizeOf218
  v82 := Tryz.zeroValue218
  i82 := by kernel_rfl }
end Go.Proofs
