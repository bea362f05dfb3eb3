/-
  The texts Bag5, Bag6, Bag7, Bag8, Bag9, BagA, BagB, BagC, BagL, BagO, one behind the other; each says below what it holds and on what conditions.
-/
import Derived.Test.YtabhalajelbfoaaBag4
import Derived.Test.YtabhalajelbfoaaClone
import Derived.Laws.CopyOwn
import Derived.Deep.RegionLaw
import Derived.Lib.AppendZerosOnto
import Derived.Lib.Overlaps
import Derived.Laws.Externs
import Derived.Deep.LoopGhost
import Derived.Test.YtabhalajelbfoaaBagP

/-
  What find and Get of package bag return. Condition: the row can be read.
-/
namespace Go.Proofs.Ytabhalajelbfoaa
open Go.RowKit
open Go.Proofs
open WoolBag

/-- what find answers, as the two results -/
def findR (l : List Itm) (i : Bool × Int × Int) : Value := .tuple #[.int .i64 ((find FP l i).1 : Int), .int .i64 (find FP l i).2]

set_option maxRecDepth 100000 in
set_option maxHeartbeats 1000000 in
theorem find_any (v : Value) (l : List Itm) (i : Bool × Int × Int) (w : World) (h : Items w v l) :
    Calls Try.prog 24 #[v, idV i] w fun e w' => e = .returned (findR l i) ∧ Up w w' := by
  obtain ⟨R, hR⟩ : ∃ R, findR l i = R := ⟨_, rfl⟩
  rw [hR]
  have HR := Lib.hid hR
  have HX := Lib.hid h
  have HC := Lib.hid (fun W (hW : Up w W) => check_any v l W (h.up hW))
  obtain ⟨o, c, rfl, h3⟩ := h.slice
  unfold maxLen at h3
  obtain ⟨C, hC⟩ : ∃ C, chk FP l = C := ⟨_, rfl⟩
  have HCC := Lib.hid hC
  have HM := Lib.hid (hasId_make i)
  have hix := fun W (hW : Up w W) => indexF (.slice o l.length c) l W 57
  unfold idV at HM ⊢
  obtain ⟨ib, is, iN⟩ := i
  simp only at HM ⊢
  clear hR hC h hix
  go_enter Try.func24, Try.ntmps24
  go_wp2_with fail
  refine (HC.out _ (Up.alloc _ _)).mono ?_
  rintro e w1 ⟨rfl, u1⟩
  rw [HCC.out]
  have HU1 : Hid (Up w w1) := Up.after _ _ _ u1
  have hbx := BoxI.up (BoxI.new w 29 (.bool ib) (.int .i64 is) (.int .i64 iN)) u1
  obtain ⟨c0, c1, c2⟩ := hbx.cells
  clear hbx u1
  by_cases h0 : C = 0
  · subst h0
    go_wp2_with fail
    refine (HM.out _).mono ?_
    rintro e w2 ⟨lb, rfl, u2, hp⟩
    have hcall := indexF (.slice o l.length c) l w2 57 lb _ eg_id (HX.out.up (HU1.out.trans u2)) hp
    have HCALL := Lib.hid hcall
    clear hcall hp
    go_wp2_with fail
    refine HCALL.out.mono ?_
    rintro e w3 ⟨rfl, u3⟩
    unfold ixI
    cases hi : idx (idB (ib, is, iN)) l with
    | some k =>
      have HRR : Hid (R = .tuple #[.int .i64 (k : Int), .int .i64 0]) := by
        show _ = _
        rw [← HR.out]; unfold findR find
        rw [if_neg (by simp [HCC.out]), hi]
      clear hi
      simp only
      go_wp2_with fail
      go_ret2
      exact ⟨by rw [HRR.out]; rfl, (HU1.out.trans u2).trans u3⟩
    | none =>
      have HRR : Hid (R = .tuple #[.int .i64 0, .int .i64 4]) := by
        show _ = _
        rw [← HR.out]; unfold findR find
        rw [if_neg (by simp [HCC.out]), hi]
        rfl
      clear hi
      simp only
      go_wp2_with fail
      go_ret2
      exact ⟨by rw [HRR.out]; rfl, (HU1.out.trans u2).trans u3⟩
  · have hne : (C != 0) = true := by rw [bne_iff_ne]; exact h0
    have HRR : Hid (R = .tuple #[.int .i64 0, .int .i64 C]) := by
      show _ = _
      rw [← HR.out]; unfold findR find
      rw [if_pos (by rw [HCC.out]; exact h0), HCC.out]
      rfl
    clear h0
    go_wp2_with fail
    go_ret2
    exact ⟨by rw [HRR.out]; rfl, HU1.out⟩

theorem find_lt {l : List Itm} {i : Bool × Int × Int} (h : (find FP l i).2 = 0) : (find FP l i).1 < l.length ∧ Bag FP l ∧ idB i l[(find FP l i).1]! = true := by
  unfold find at h ⊢
  by_cases hc : chk FP l ≠ 0
  · rw [if_pos hc] at h; exact absurd h hc
  · rw [if_neg hc] at h ⊢
    cases hi : idx (idB i) l with
    | none => rw [hi] at h; cases h
    | some k =>
      obtain ⟨h1, h2, _⟩ := idx_some hi
      simp only
      refine ⟨h1, (chk_zero _).1 (by simpa using hc), ?_⟩
      rw [getElem!_pos l k h1]; exact h2

/-- what Get answers, as the two results -/
def getBR (l : List Itm) (i : Bool × Int × Int) : Value := .tuple #[.string (bs (WoolBag.get FP l i).1), .int .i64 (WoolBag.get FP l i).2]

end Go.Proofs.Ytabhalajelbfoaa

/-
  Rows of items that are known whole (RowI); slices.Clone of items; clone and reuse of package bag. Conditions: as each says.
-/
namespace Go.Proofs.Ytabhalajelbfoaa
open Go.RowKit
open Go.Proofs
open WoolBag

/-- a row of items' cells, known whole -/
def RowI (w : World) (g : Nat) (L : List Value) : Prop := w.heap[g]? = some (.cells L.toArray 43 (0, 0))

theorem RowI.lt {w : World} {g : Nat} {L : List Value} (h : RowI w g L) : g < w.heap.size := (Array.getElem?_eq_some_iff.1 h).1
theorem RowI.at {w : World} {g : Nat} {L : List Value} (h : RowI w g L) (j : Nat) : w.cell? ⟨g, j, none⟩ = L[j]? := by
  rw [cell_of_row _ _ j _ _ _ h, List.getElem?_toArray]
theorem RowI.cell {w : World} {g : Nat} {L : List Value} {j : Nat} {v : Value} (h : RowI w g L) (hj : L[j]? = some v) : w.cell? ⟨g, j, none⟩ = some v := (h.at j).trans hj
theorem RowI.frozen {w : World} {g : Nat} {L : List Value} (h : RowI w g L) (j : Nat) : w.frozen? ⟨g, j, none⟩ = false := by
  unfold RowI at h; simp [World.frozen?, h]
theorem RowI.set {w : World} {g : Nat} {L : List Value} (h : RowI w g L) (j : Nat) (v : Value) : RowI (w.setCell ⟨g, j, none⟩ v) g (L.set j v) := by
  unfold RowI at h ⊢
  simp [World.setCell, Array.getElem?_modify, h]
theorem RowI.below {w w' : World} {g n : Nat} {L : List Value} (h : RowI w g L) (hb : Below n w w') (hg : g < n) : RowI w' g L := (hb.block g hg).trans h
theorem RowI.up {w w' : World} {g : Nat} {L : List Value} (h : RowI w g L) (hb : Up w w') : RowI w' g L := h.below hb h.lt

theorem OItems.mk {w : World} {base g cap : Nat} {l : List Itm} {sp : List Value} (hb : base ≤ g) (h : RowI w g (itL l ++ sp)) (h1 : l.length ≤ cap) (h2 : cap ≤ maxLen) (h3 : l.length * 4 + sp.length = cap * 4) :
    OItems w base (.slice (some ⟨g, 0, none⟩) l.length cap) l := by
  refine ⟨itL_length l, .inr ⟨g, cap, (itL l ++ sp).toArray, rfl, hb, h, h1, h2, ?_, ?_⟩⟩
  · rw [List.size_toArray, List.length_append, itL_length]; exact h3
  · rw [← itL_length l]; simp

theorem OItems.row {w : World} {base : Nat} {v : Value} {l : List Itm} (h : OItems w base v l) :
    (v = .slice none 0 0 ∧ l = []) ∨ ∃ g cap sp, v = .slice (some ⟨g, 0, none⟩) l.length cap ∧ base ≤ g ∧ RowI w g (itL l ++ sp) ∧ l.length ≤ cap ∧ cap ≤ maxLen ∧ l.length * 4 + sp.length = cap * 4 := by
  rcases h.2 with ⟨h1, h2⟩ | ⟨g, cap, cur, h1, h2, h3, h4, h5, h6, h7⟩
  · exact .inl ⟨h1, List.eq_nil_of_length_eq_zero h2⟩
  · refine .inr ⟨g, cap, cur.toList.drop (l.length * 4), h1, h2, ?_, h4, h5, ?_⟩
    · unfold RowI
      rw [h3, ← h7, List.take_append_drop]
    · have hs : cur.toList.length = cur.size := Array.length_toList
      rw [List.length_drop, hs, h6]
      omega

theorem get_app {l : List Itm} {sp : List Value} {j : Nat} {v : Value} (h : (itL l)[j]? = some v) : (itL l ++ sp)[j]? = some v := by
  rw [List.getElem?_append_left ((List.getElem?_eq_some_iff.1 h).1)]; exact h

theorem itL_setR : ∀ (l : List Itm) (k : Nat) (h : k < l.length) (d : Int), (itL l).set (k * 4 + 3) (.int .i64 (l[k].r + d)) = itL (l.set k (more l[k] d))
  | [], k, h, _ => by simp at h
  | x :: r, 0, h, d => rfl
  | x :: r, k + 1, h, d => by
    have ih := itL_setR r k (by simpa using h) d
    rw [show (k + 1) * 4 + 3 = (k * 4 + 3) + 1 + 1 + 1 + 1 by omega, List.set_cons_succ]
    unfold itL
    simp only [List.set_cons_succ, List.getElem_cons_succ]
    rw [ih]

theorem set_same : ∀ (L : List Value) (j : Nat) (v : Value), L[j]? = some v → L.set j v = L
  | [], _, _, _ => rfl
  | x :: r, 0, v, h => by simp at h; simp [h]
  | x :: r, j + 1, v, h => by rw [List.set_cons_succ, set_same r j v (by simpa using h)]

/-- what a call leaves that answers a new row of items -/
def OwnPost (w : World) (l : List Itm) (e : Ending) (w' : World) : Prop := ∃ v', e = .returned v' ∧ OItems w' w.heap.size v' l ∧ Up w w'

/-- the cells of a slice that reads as items -/
theorem Items.cells {w : World} {b off n c : Nat} {l : List Itm} (h : Items w (.slice (some ⟨b, off, none⟩) n c) l) (hne : l ≠ []) : ∀ j u, (itL l)[j]? = some u → w.cell? ⟨b, off + j, none⟩ = some u := by
  obtain ⟨o', c', h1, h2, h3, h4⟩ := h
  simp only [Value.slice.injEq] at h1
  obtain ⟨rfl, rfl, rfl⟩ := h1
  rcases h4 with h4 | ⟨b', off', h5, h6⟩
  · exact absurd h4 hne
  · cases h5
    intro j u hj
    have hlt : j < l.length * 4 := by rw [← itL_length]; exact (List.getElem?_eq_some_iff.1 hj).1
    obtain ⟨a1, a2, a3, a4⟩ := h6 (j / 4) (by omega)
    obtain ⟨b1, b2, b3, b4⟩ := itL_get l (j / 4) (by omega)
    have hm : j % 4 < 4 := Nat.mod_lt _ (by omega)
    have hd : j / 4 * 4 + j % 4 = j := by omega
    rcases Nat.lt_or_ge (j % 4) 1 with m0 | m0
    · rw [show j / 4 * 4 = j by omega] at a1 b1
      rw [hj] at b1; rw [a1]; exact b1.symm
    rcases Nat.lt_or_ge (j % 4) 2 with m1 | m1
    · rw [show off + j / 4 * 4 + 1 = off + j by omega] at a2
      rw [show j / 4 * 4 + 1 = j by omega, hj] at b2; rw [a2]; exact b2.symm
    rcases Nat.lt_or_ge (j % 4) 3 with m2 | m2
    · rw [show off + j / 4 * 4 + 2 = off + j by omega] at a3
      rw [show j / 4 * 4 + 2 = j by omega, hj] at b3; rw [a3]; exact b3.symm
    · rw [show off + j / 4 * 4 + 3 = off + j by omega] at a4
      rw [show j / 4 * 4 + 3 = j by omega, hj] at b4; rw [a4]; exact b4.symm

theorem add_lit (b off j : Nat) : (⟨b, off, none⟩ : Addr).add j = ⟨b, off + j, none⟩ := by
  unfold Addr.add
  split
  · rename_i e; subst e; rfl
  · rfl

theorem itInfo' : ∃ i, Try.prog.info? 43 = some i ∧ i.zero = some (.agg #[.int .i64 0, .int .i64 0, .string ⟨#[]⟩, .int .i64 0]) ∧ i.size = 4 ∧ i.bytes = 40 := by
  have h := itInfo
  cases hq : Try.prog.info? 43 with
  | none => rw [hq] at h; cases h
  | some i =>
    rw [hq] at h
    simp only [Option.map_some, Option.some.injEq, Prod.mk.injEq] at h
    exact ⟨i, rfl, h.1, h.2.1, h.2.2⟩

set_option maxRecDepth 100000 in
set_option maxHeartbeats 1000000 in
theorem sclone_any (v : Value) (l : List Itm) (w : World) (h : Items w v l) (hl : l.length ≤ 64) :
    Calls Try.prog 50 #[v] w (OwnPost w l) := by
  obtain ⟨i0, hi, hz0, hz1, hz2⟩ := itInfo'
  have HX := Lib.hid h
  obtain ⟨o, c, rfl, h3⟩ := h.slice
  unfold maxLen at h3
  have q22 : ∀ (w : World) (a : Option Addr) (n c n' c' : Nat), (binOp .eql 25 (.slice a n c) (.slice none n' c')).run Try.prog w = .ok (.bool a.isNone) w := fun w a n c n' c' => Lib.run_eql_slice_nil w _ _ a n c n' c' Try.underlying25
  cases o with
  | none =>
    have hn : l = [] := by
      obtain ⟨o', c', h1, _, _, h4⟩ := h
      rcases h4 with h4 | ⟨b, off, h5, _⟩
      · exact h4
      · cases h1; cases h5
    subst hn
    clear h
    go_enter Try.func50, Try.ntmps50
    go_wp2
    go_ret
    exact ⟨_, rfl, OItems.nil _ _, Up.refl _⟩
  | some ad =>
    have hcl : Hid (∀ j u, (itL l)[j]? = some u → w.cell? (ad.add j) = some u) := by
      intro j u hj
      have hne : l ≠ [] := by rintro rfl; simp [itL] at hj
      obtain ⟨b, off, sp⟩ := ad
      obtain ⟨o', c', h1, _, _, h4⟩ := h
      rcases h4 with h4 | ⟨b', off', h5, _⟩
      · exact absurd h4 hne
      · cases h1; cases h5
        rw [add_lit]
        exact HX.out.cells hne j u hj
    clear h HX
    go_enter Try.func50, Try.ntmps50
    go_wp2_with (at_builtin; refine wpList_append_own _ rfl _ _ 25 rfl w.heap.size 43 i0 _ 4 40 Try.underlying25 hi hz0 hz1 hz2 rfl (by omega) _ _ _ rfl (World.ownsRow_made w #[] 0 (Nat.le_refl _) (Nat.zero_le _) (by simp)) ad l.length c (itL l) rfl ?qc1 ?qc2 ?qc3 ?qc4 ?qc5 ?qc6 ?_)
    case qc1 => exact itL_length l
    case qc2 =>
      intro j u hj
      exact Lib.cell?_alloc_some _ (hcl.out j u hj)
    case qc3 => exact itL_one l
    case qc4 => unfold maxLen; omega
    case qc5 => omega
    case qc6 => simp
    intro v' w1 hown hgrow hnil
    have HO : Hid (OItems w1 w.heap.size v' l) := by
      show OItems w1 w.heap.size v' l
      unfold OItems
      simpa using hown
    have HU : Hid (Up w w1) := ((Below.refl _ w).alloc (Nat.le_refl _) _).grown hgrow (by simp) (by intro k hk; simp [Value.ownBlock] at hk; omega)
    clear hown hgrow hnil hcl
    go_wp2
    go_ret
    exact ⟨v', rfl, HO.out, HU.out⟩

end Go.Proofs.Ytabhalajelbfoaa

/-
  What clone and reuse of package bag return. Conditions: the row can be read; at most 64 items, each of at most 64 bytes; reuse: the place is one of the row's.
-/
namespace Go.Proofs.Ytabhalajelbfoaa
open Go.RowKit
open Go.Proofs
open WoolBag

def CloneRel (N g : Nat) (L : List Value) (w : World) (i : Value) (wr : World) : Prop :=
  ∃ k : Nat, k ≤ N ∧ i = .int .i64 k ∧ Up w wr ∧ RowI wr g L

set_option maxRecDepth 100000 in
set_option maxHeartbeats 1000000 in
theorem clone_any (v : Value) (l : List Itm) (w : World) (h : Items w v l) (hl : l.length ≤ 64) (ht : ∀ x ∈ l, x.t.length ≤ 64) :
    Calls Try.prog 25 #[v] w (OwnPost w l) := by
  have HC := Lib.hid (sclone_any v l w h hl)
  obtain ⟨o, c, rfl, h3⟩ := h.slice
  have HT := Lib.hid ht
  clear h ht
  go_enter Try.func25, Try.ntmps25
  go_wp2_with fail
  refine HC.out.mono ?_
  rintro e w1 ⟨v', rfl, hown, u1⟩
  have HU1 := Lib.hid u1
  have hsz := u1.size
  rcases hown.row with ⟨rfl, rfl⟩ | ⟨g, cap, sp, rfl, hg, hrow, hc1, hc2, hc3⟩
  · clear hown u1
    go_wp2_with fail
    go_loopw [9] (fun i wr => i = .int .i64 0 ∧ wr = w1) (fun _ _ => 0)
    case atStart => exact ⟨rfl, rfl⟩
    case round =>
      obtain ⟨rfl, rfl⟩ := hrel
      go_wp2_with fail
      go_ret
      exact ⟨_, rfl, OItems.nil _ _, HU1.out⟩
  · have HROW := Lib.hid hrow
    have HC3 := Lib.hid hc3
    have HG : Hid (w.heap.size ≤ g) := hg
    unfold maxLen at hc2
    clear hown u1 hrow hc3 hsz
    go_wp2_with fail
    go_loopw [4, 9] (fun _ i wr => CloneRel l.length g (itL l ++ sp) w i wr) (fun _ i _ => l.length - (intOf i).toNat)
    case atStart => exact ⟨0, Nat.zero_le _, rfl, HU1.out, HROW.out⟩
    case round =>
      obtain ⟨k, hk, rfl, hu, hr⟩ := hrel
      by_cases hlt : k < l.length
      · have d1 : decide (k < l.length) = true := decide_eq_true hlt
        obtain ⟨_, _, b3, _⟩ := itL_get l k hlt
        have a3 := hr.cell (get_app (sp := sp) b3)
        have hsame := set_same _ _ _ (get_app (sp := sp) b3)
        have HTK : Hid ((bs l[k].t).size ≤ 1000) := by
          show (bs l[k].t).size ≤ 1000
          have := HT.out l[k] (List.getElem_mem hlt)
          rw [bs_size]; omega
        obtain ⟨T, hT⟩ : ∃ T, bs l[k].t = T := ⟨_, rfl⟩
        have hb3 := get_app (sp := sp) b3
        rw [hT] at a3 hsame HTK hb3
        have HB3 := Lib.hid hb3
        clear hb3
        have HS := Lib.hid hsame
        have HR := Lib.hid hr
        have HU := Lib.hid hu
        clear hT hsame hr hu b3
        go_wp2_with fail
        refine (clone_str T _ HTK.out).mono ?_
        rintro e w2 ⟨rfl, u2⟩
        have hr2 := HR.out.up u2
        have hu2 := HU.out.trans u2
        have c2 := hr2.cell HB3.out
        have fz := hr2.frozen (k * 4 + 2)
        have hset := hr2.set (k * 4 + 2) (.string T)
        rw [HS.out] at hset
        have HSET := Lib.hid hset
        have HUP : Hid (Up w (w2.setCell ⟨g, k * 4 + 2, none⟩ (.string T))) := Below.setCell hu2 (p := ⟨g, k * 4 + 2, none⟩) HG.out _
        clear hr2 hu2 hset u2 HS HR a3
        go_wp2_with fail
        go_roundw
        case rel => exact ⟨k + 1, by omega, by go_num, HUP.out, HSET.out⟩
        case measure => simp only [intOf]; omega
      · have d1 : decide (k < l.length) = false := decide_eq_false hlt
        have HU := Lib.hid hu
        have HR := Lib.hid hr
        clear hu hr
        go_wp2_with fail
        go_ret
        exact ⟨_, rfl, OItems.mk HG.out HR.out hc1 (by unfold maxLen; omega) HC3.out, HU.out⟩

/-- what Put and its helpers leave: a new row, an identifier, an error -/
def PutPost (w : World) (R : List Itm × (Bool × Int × Int) × Int) (e : Ending) (w' : World) : Prop :=
  ∃ v', e = .returned (.tuple #[v', idV R.2.1, .int .i64 R.2.2]) ∧ OItems w' w.heap.size v' R.1 ∧ Up w w'

/-- what Put answers for a block that is there -/
def reuseV (l : List Itm) (k : Nat) : List Itm × (Bool × Int × Int) × Int :=
  if (l[k]!).r = 1000000 then ([], noId, 8) else (l.set k (more l[k]! 1), idOf l[k]!, 0)

set_option maxRecDepth 100000 in
set_option maxHeartbeats 1000000 in
theorem reuse_any (v : Value) (l : List Itm) (k : Nat) (w : World) (h : Items w v l) (hb : Bag FP l) (hk : k < l.length) :
    Calls Try.prog 19 #[v, .int .i64 (k : Int)] w (PutPost w (reuseV l k)) := by
  have hl := hb.len
  have hok := hb.ok _ (List.getElem_mem hk)
  have HC := Lib.hid (fun W (hW : Up w W) => clone_any v l W (h.up hW) hl (fun x hx => (hb.ok x hx).1))
  obtain ⟨R, hR⟩ : ∃ R, reuseV l k = R := ⟨_, rfl⟩
  rw [hR]
  unfold reuseV at hR
  rw [getElem!_pos l k hk] at hR
  obtain ⟨o, c, rfl, h2, h3, h4⟩ := h
  unfold maxLen at h3
  rcases h4 with h5 | ⟨b, off, rfl, h5⟩
  · rw [h5] at hk; simp at hk
  have a4 := (h5 k hk).2.2.2
  have r1 := hok.2.2.2.2.1
  have r2 := hok.2.2.2.2.2
  clear hok
  obtain ⟨r, hr⟩ : ∃ r, l[k].r = r := ⟨_, rfl⟩
  rw [hr] at a4 hR r1 r2
  have hbw := World.block_lt_of_cell? w _ a4
  have hbw' : b < w.heap.size := hbw
  have hne : b ≠ w.heap.size := by omega
  by_cases h0 : r = 1000000
  · subst h0
    rw [if_pos rfl] at hR
    subst hR
    clear h5 hb HC hr hbw
    go_enter Try.func19, Try.ntmps19
    go_wp2_with fail
    exact bodyPost_ret (v := .tuple #[.slice none 0 0, .agg #[.bool false, .int .i64 0, .int .i64 0], .int .i64 8]) (by simp [results, Try.results19, go_sem]) rfl ⟨_, rfl, OItems.nil _ _, Up.alloc _ _⟩
  · rw [if_neg h0] at hR
    have d0 : (r == 1000000) = false := by simpa using h0
    have HR := Lib.hid hR
    have HRR := Lib.hid hr
    have hidn := identifier_any (more l[k] 1)
    have hidv : idV (idOf (more l[k] 1)) = .agg #[.bool true, .int .i64 l[k].s, .int .i64 l[k].n] := rfl
    have hidv2 : idV (idOf l[k]) = .agg #[.bool true, .int .i64 l[k].s, .int .i64 l[k].n] := rfl
    have HI2 := Lib.hid hidv2
    have hitv : itV (more l[k] 1) = .agg #[.int .i64 l[k].s, .int .i64 l[k].n, .string (bs l[k].t), .int .i64 (l[k].r + 1)] := rfl
    simp only [hidv, hitv, hr] at hidn
    have hgets := itL_get l k hk
    have hsetR := itL_setR l k hk 1
    rw [hr] at hgets hsetR
    obtain ⟨L', hL'⟩ : ∃ L', l.set k (more l[k] 1) = L' := ⟨_, rfl⟩
    have hLl : L'.length = l.length := by rw [← hL', List.length_set]
    have hgets' := itL_get L' k (by omega)
    have hk' : L'[k]'(by omega) = more l[k] 1 := by subst hL'; rw [List.getElem_set_self]
    rw [hk'] at hgets'
    simp only [more, hr] at hgets'
    rw [hL'] at hR hsetR HR
    generalize l[k].s = xs at *
    generalize l[k].n = xn at *
    generalize bs l[k].t = xt at *
    have HID := Lib.hid hidn
    have HG1 := Lib.hid hgets
    have HG2 := Lib.hid hgets'
    have HSR := Lib.hid hsetR
    have HLL := Lib.hid hLl
    clear h5 hb hr hbw hR hidn hidv hidv2 hitv hgets hgets' hsetR hL' hLl hk' h0
    go_enter Try.func19, Try.ntmps19
    go_wp2_with fail
    refine (HC.out _ (Up.alloc _ _)).mono ?_
    rintro e w1 ⟨v', rfl, hown, u1⟩
    rcases hown.row with ⟨_, hnil⟩ | ⟨g, cap, sp, rfl, hg, hrow, hc1, hc2, hc3⟩
    · rw [hnil] at hk; simp at hk
    have hbx := BoxI.up (BoxI.new w 29 (.bool false) (.int .i64 0) (.int .i64 0)) u1
    have hgw : w.heap.size < g := by simp at hg; omega
    have hU1 := Up.after _ _ _ u1
    have c3 := hrow.cell (get_app (sp := sp) HG1.out.2.2.2)
    have fz := hrow.frozen (k * 4 + 3)
    obtain ⟨w2, hw2⟩ : ∃ w2, w1.setCell ⟨g, k * 4 + 3, none⟩ (.int .i64 (r + 1)) = w2 := ⟨_, rfl⟩
    have hrow2 := hrow.set (k * 4 + 3) (.int .i64 (r + 1))
    rw [List.set_append_left _ _ (by rw [itL_length]; omega), HSR.out, hw2] at hrow2
    have hU2 : Up w w2 := by rw [← hw2]; exact Below.setCell hU1 (p := ⟨g, k * 4 + 3, none⟩) (by show w.heap.size ≤ g; omega) _
    have hbx2 : BoxI w2 w.heap.size 29 (.bool false) (.int .i64 0) (.int .i64 0) := by
      rw [← hw2]
      unfold BoxI at hbx ⊢
      simp [World.setCell, Array.getElem?_modify, hbx, show g ≠ w.heap.size by omega]
    have e0 := hrow2.cell (get_app (sp := sp) HG2.out.1)
    have e1 := hrow2.cell (get_app (sp := sp) HG2.out.2.1)
    have e2 := hrow2.cell (get_app (sp := sp) HG2.out.2.2.1)
    have e3 := hrow2.cell (get_app (sp := sp) HG2.out.2.2.2)
    have HW2 := Lib.hid hw2
    have HROW2 := Lib.hid hrow2
    have HU2 := Lib.hid hU2
    have HBX2 := Lib.hid hbx2
    have HC3 := Lib.hid hc3
    have hwr : IntKind.i64.wrap (r + 1) = r + 1 := IntWalk.i64_in _ (by omega)
    unfold maxLen at hc2
    rw [← hw2] at e0 e1 e2 e3
    clear hown hrow hg u1 hU1 hrow2 hU2 hbx hbx2 hw2 hc3 HG1 HG2 HSR
    go_wp2_with fail
    rw [HW2.out]
    refine (HID.out w2).mono ?_
    rintro e w3 ⟨rfl, u3⟩
    have hbx3 := HBX2.out.up u3
    obtain ⟨z0, z1, z2⟩ := hbx3.cells
    have y0 := hbx3.frozen 0
    have y1 := hbx3.frozen 1
    have y2 := hbx3.frozen 2
    have hset := hbx3.set (.bool true) (.int .i64 xs) (.int .i64 xn)
    obtain ⟨w4, hw4⟩ : ∃ w4, ((w3.setCell ⟨w.heap.size, 0, none⟩ (.bool true)).setCell ⟨w.heap.size, 1, none⟩ (.int .i64 xs)).setCell ⟨w.heap.size, 2, none⟩ (.int .i64 xn) = w4 := ⟨_, rfl⟩
    rw [hw4] at hset
    obtain ⟨s0, s1, s2⟩ := hset.cells
    have HU4 : Hid (Up w w4) := by
      show Up w w4
      rw [← hw4]
      exact ((Below.setCell (HU2.out.trans u3) (p := ⟨w.heap.size, 0, none⟩) (Nat.le_refl _) _).setCell (p := ⟨w.heap.size, 1, none⟩) (Nat.le_refl _) _).setCell (p := ⟨w.heap.size, 2, none⟩) (Nat.le_refl _) _
    have HROW4 : Hid (RowI w4 g (itL L' ++ sp)) := by
      show RowI w4 g (itL L' ++ sp)
      have h3 := HROW2.out.up u3
      rw [← hw4]
      unfold RowI at h3 ⊢
      simp [World.setCell, Array.getElem?_modify, h3, show w.heap.size ≠ g by omega]
    have HW4 := Lib.hid hw4
    clear hw4 hset hbx3 u3 e0 e1 e2 e3
    go_wp2_with fail
    rw [HW4.out]
    have hRe := HR.out
    have hll := HLL.out
    exact bodyPost_ret (v := .tuple #[.slice (some ⟨g, 0, none⟩) l.length cap, .agg #[.bool true, .int .i64 xs, .int .i64 xn], .int .i64 0]) (by simp [results, Try.results19, go_sem, s0, s1, s2]) rfl
      ⟨_, by rw [← hRe, HI2.out], by rw [← hRe]; simp only; rw [← hll]; exact OItems.mk (by omega) HROW4.out (by omega) (by unfold maxLen; omega) (by rw [hll]; exact HC3.out), HU4.out⟩

end Go.Proofs.Ytabhalajelbfoaa

/-
  Stores into a row of items that is known whole; slices.Delete of one item of such a row. Conditions: as each says.
-/
namespace Go.Proofs.Ytabhalajelbfoaa
open Go.RowKit
open Go.Proofs
open WoolBag

theorem splice_cons {L : List Value} {s : Nat} {v : Value} {r : List Value} (h : s < L.length) : splice (L.set s v) (s + 1) r = splice L s (v :: r) := by
  unfold splice
  rw [List.take_set, List.drop_set, if_pos (by omega), List.length_cons, List.take_succ_eq_append_getElem (by omega), List.set_append_right _ _ (by rw [List.length_take]; omega)]
  have h0 : s - (L.take s).length = 0 := by rw [List.length_take]; omega
  rw [h0]
  simp [show s + (r.length + 1) = s + 1 + r.length by omega]

theorem RowI.setCells : ∀ (news : List Value) {w : World} {g : Nat} {L : List Value} (s : Nat), RowI w g L → s + news.length ≤ L.length → RowI (w.setCells g s news) g (splice L s news)
  | [], w, g, L, s, h, hl => by
    show RowI w g _
    unfold splice
    simpa using h
  | v :: r, w, g, L, s, h, hl => by
    have hs : s < L.length := by simp at hl; omega
    have ih := RowI.setCells r (s + 1) (h.set s v) (by simp at hl ⊢; omega)
    rw [splice_cons hs] at ih
    exact ih

theorem below_setCells : ∀ (news : List Value) {B g : Nat} {w0 w : World} (s : Nat), Below B w0 w → B ≤ g → Below B w0 (w.setCells g s news)
  | [], _, _, _, _, _, h, _ => h
  | v :: r, _, g, _, _, s, h, hg => below_setCells r (s + 1) (Below.setCell h (p := ⟨g, s, none⟩) hg v) hg

/-- the cells of the empty item -/
def zc : List Value := [.int .i64 0, .int .i64 0, .string ⟨#[]⟩, .int .i64 0]

theorem RowI.setRow {w : World} {g : Nat} {L : List Value} (h : RowI w g L) (L' : List Value) : RowI (w.setRow g L'.toArray) g L' := setRow_heap w g _ _ _ _ h

/-- clear of one item -/
theorem clear_one {w : World} {g s c : Nat} {L : List Value} (h : RowI w g L) (hs : s + 4 ≤ L.length) (ty : TypeId) :
    (Builtin.clear_ #[25] ty #[.slice (some ⟨g, s, none⟩) 1 c]).run Try.prog w = .ok (.tuple #[]) (w.setRow g (splice L s zc).toArray) := by
  have hst := run_storeCells_at Try.prog g s 43 zc 0 L.toArray w h (by simp [zc]; omega) (by intro u hu; simp [zc] at hu; rcases hu with rfl | rfl | rfl | rfl <;> rfl)
  have hz : (Builtin.zeroCells (Value.agg #[.int .i64 0, .int .i64 0, .string ⟨#[]⟩, .int .i64 0]).cells 1).toList = zc := by kernel_rfl
  simp only [Nat.add_zero] at hst
  simp [Builtin.clear_, run_underlying Try.underlying25, hz, hst, splice]

/-- the row behind the two steps of a Delete -/
theorem erase_row (l : List Itm) (k : Nat) (hk : k < l.length) (sp : List Value) :
    splice (splice (itL l ++ sp) (k * 4) (itL (l.drop (k + 1)))) ((l.length - 1) * 4) zc = itL (l.eraseIdx k) ++ (zc ++ sp) := by
  have e1 : splice (itL l ++ sp) (k * 4) (itL (l.drop (k + 1))) = itL (l.eraseIdx k) ++ ((itL l).drop ((l.length - 1) * 4) ++ sp) := by
    unfold splice
    rw [List.take_append_of_le_length (by rw [itL_length]; omega), ← itL_take, itL_length, List.length_drop, List.drop_append_of_le_length (by rw [itL_length]; omega), List.eraseIdx_eq_take_drop_succ, itL_append, List.append_assoc,
      show k * 4 + (l.length - (k + 1)) * 4 = (l.length - 1) * 4 by omega]
  rw [e1]
  have e2 : (itL (l.eraseIdx k)).length = (l.length - 1) * 4 := by rw [itL_length, List.length_eraseIdx_of_lt hk]
  have e3 : ((itL l).drop ((l.length - 1) * 4)).length = 4 := by rw [List.length_drop, itL_length]; omega
  have e4 : zc.length = 4 := rfl
  generalize (itL l).drop ((l.length - 1) * 4) = D at e3
  unfold splice
  rw [← e2, List.take_left, e4, List.drop_append, List.drop_of_length_le (by omega), List.nil_append, show (itL (l.eraseIdx k)).length + 4 - (itL (l.eraseIdx k)).length = 4 by omega, List.drop_append, List.drop_of_length_le (by omega), e3, List.nil_append]
  rfl

set_option maxRecDepth 100000 in
set_option maxHeartbeats 2000000 in
theorem delete_any (l : List Itm) (k j g cap : Nat) (sp : List Value) (w : World) (hj : j = k + 1) (hk : k < l.length) (hrow : RowI w g (itL l ++ sp)) (hc1 : l.length ≤ cap) (hc2 : cap ≤ maxLen) (hc3 : l.length * 4 + sp.length = cap * 4) :
    Calls Try.prog 26 #[.slice (some ⟨g, 0, none⟩) l.length cap, .int .i64 (k : Int), .int .i64 (j : Int)] w fun e w' => e = .returned (.slice (some ⟨g, 0, none⟩) (l.length - 1) cap) ∧ RowI w' g (itL (l.eraseIdx k) ++ (zc ++ sp)) ∧ Below g w w' := by
  obtain ⟨i0, hi0, hz0, hz1, hz2⟩ := itInfo'
  have hcm := hc2
  unfold maxLen at hcm
  clear hc2
  have HE := Lib.hid (erase_row l k hk sp)
  obtain ⟨news, hnews⟩ : ∃ news, itL (l.drop (k + 1)) = news := ⟨_, rfl⟩
  have hlen : news.length = (l.length - j) * 4 := by rw [← hnews, itL_length, List.length_drop, hj]
  have hget : ∀ t u, news[t]? = some u → w.cell? ⟨g, j * 4 + t, none⟩ = some u := by
    intro t u hu
    rw [← hnews, itL_drop, List.getElem?_drop] at hu
    rw [hj]
    exact hrow.cell (get_app hu)
  have hone : ∀ u ∈ news, u.oneCell' = true := by rw [← hnews]; exact itL_one _
  rw [hnews] at HE
  obtain ⟨A, hA, hsrc⟩ : ∃ A : Addr, (if cap = j then some (⟨g, 0, none⟩ : Addr) else some ⟨g, j * 4, none⟩) = some A ∧ Hid (∀ t u, news[t]? = some u → w.drew.cell? (A.add t) = some u) := by
    by_cases h : cap = j
    · refine ⟨⟨g, 0, none⟩, by simp [h], fun t u hu => ?_⟩
      have h0 : news.length = 0 := by rw [hlen]; omega
      rw [List.length_eq_zero_iff.1 h0] at hu
      simp at hu
    · refine ⟨⟨g, j * 4, none⟩, by simp [h], fun t u hu => ?_⟩
      rw [add_lit]
      exact hget t u hu
  have hLL : (itL l ++ sp).length = cap * 4 := by rw [List.length_append, itL_length]; exact hc3
  have s1 := Lib.hid hlen
  have s2 := Lib.hid hone
  have s3 : Hid (∀ t, t < news.length → (w.drew.cell? ⟨g, 0 + k * 4 + t, none⟩).isSome = true ∧ w.drew.frozen? ⟨g, 0 + k * 4 + t, none⟩ = false) := by
    intro t ht
    rw [hlen] at ht
    refine ⟨?_, hrow.frozen _⟩
    show (w.cell? _).isSome = true
    rw [hrow.at, List.getElem?_eq_getElem (by rw [hLL]; omega)]; rfl
  obtain ⟨W1, hW1⟩ : ∃ W1, W1 = w.drew.setCells g (0 + k * 4) news := ⟨_, rfl⟩
  have hrd : RowI w.drew g (itL l ++ sp) := hrow
  have hR1 : RowI W1 g (splice (itL l ++ sp) (k * 4) news) := by
    rw [hW1, Nat.zero_add]
    exact hrd.setCells news (k * 4) (by rw [hLL, hlen]; omega)
  have hB1 : Below g w W1 := by rw [hW1]; exact below_setCells news _ (Below.drew (Below.refl g w)) (Nat.le_refl _)
  have hspl : (splice (itL l ++ sp) (k * 4) news).length = cap * 4 := by rw [length_splice _ _ _ (by rw [hLL, hlen]; omega), hLL]
  have hcl := fun c ty => clear_one (c := c) hR1 (s := (l.length - 1) * 4) (by rw [hspl]; omega) ty
  have hR2 := hR1.setRow (splice (splice (itL l ++ sp) (k * 4) news) ((l.length - 1) * 4) zc)
  rw [HE.out] at hcl hR2
  have HW := Lib.hid hW1
  have HR2 := Lib.hid hR2
  have HB1 := Lib.hid hB1
  have HLN : Hid (k + (l.length - j) = l.length - 1) := by show _ = _; omega
  have HLN2 : Hid (l.length - (l.length - 1) = 1) := by show _ = _; omega
  have hkj : ((k : Int) == (j : Int)) = false := by simp; omega
  have hkc : k ≤ cap := by omega
  have hjc : j ≤ cap := by omega
  have hjl : j ≤ l.length := by omega
  have hkj' : k ≤ j := by omega
  obtain ⟨n, hn⟩ : ∃ n, l.length = n := ⟨_, rfl⟩
  rw [hn] at hc1 s1 hcl HLN HLN2 hjl hk ⊢
  have hnk : ¬ n = k := by omega
  have HJ := Lib.hid hj
  have HN1 : Hid (n - 1 ≤ cap) := by show _ ≤ _; omega
  have hnj : n - 1 = k + (n - j) := by omega
  rw [hnj] at hcl ⊢
  have hx1 : n - (k + (n - j)) = 1 := by omega
  have hx2 : k + (n - j) ≤ n := by omega
  have hx3 : k + (n - j) ≤ cap := by omega
  have hx4 : ¬ cap = k + (n - j) := by omega
  clear hW1 hR1 hB1 hspl hrow hrd hget hone hlen hnews hR2 hLL hn hc3 hj hnj HE
  go_enter Try.func26, Try.ntmps26
  go_wp2_with fail
  go_region_law (refine step_append_room rfl (.tmp 22) (.tmp 25) 25 rfl 43 i0 4 Try.underlying25 hi0 hz1 g 0 k cap (by simp [Act.eval, Act.put]) A (n - j) (cap - j) news (by simp [Act.eval, Act.put]) s1.out hsrc.out s2.out (by omega) s3.out ?_; rw [← HW.out])
  all_goals
    go_wp2_with fail
    go_ret
    exact ⟨rfl, HR2.out, below_setRow HB1.out (Nat.le_refl _) _⟩

end Go.Proofs.Ytabhalajelbfoaa

/-
  What Drop of package bag returns. Condition: the row can be read.
-/
namespace Go.Proofs.Ytabhalajelbfoaa
open Go.RowKit
open Go.Proofs
open WoolBag

/-- what Drop leaves: a new row and an error -/
def DropPost (w : World) (R : List Itm × Int) (e : Ending) (w' : World) : Prop :=
  ∃ v', e = .returned (.tuple #[v', .int .i64 R.2]) ∧ OItems w' w.heap.size v' R.1 ∧ Up w w'

theorem less_set (l : List Itm) (k : Nat) (h : k < l.length) : (l.set k (more l[k] (-1))).eraseIdx k = l.eraseIdx k := by
  rw [List.eraseIdx_set_eq]

set_option maxRecDepth 100000 in
set_option maxHeartbeats 1000000 in
theorem drop_any (v : Value) (l : List Itm) (i : Bool × Int × Int) (w : World) (h : Items w v l) :
    Calls Try.prog 8 #[v, idV i] w (DropPost w (WoolBag.drop FP l i)) := by
  obtain ⟨R, hR⟩ : ∃ R, WoolBag.drop FP l i = R := ⟨_, rfl⟩
  rw [hR]
  unfold WoolBag.drop at hR
  have hfi := Lib.hid (fun W (hW : Up w W) => find_any v l i W (h.up hW))
  unfold findR at hfi
  have HL := Lib.hid (find_lt (l := l) (i := i))
  obtain ⟨k, hK⟩ : ∃ K, (find FP l i).1 = K := ⟨_, rfl⟩
  obtain ⟨E, hE⟩ : ∃ E, (find FP l i).2 = E := ⟨_, rfl⟩
  rw [hK, hE] at hfi HL hR
  have HCL := Lib.hid (fun W (hW : Up w W) hb => clone_any v l W (h.up hW) (Bag.len hb) (fun x hx => (Bag.ok (F := FP) hb x hx).1))
  have HRR := Lib.hid hR
  obtain ⟨o, c, rfl, h3⟩ := h.slice
  unfold maxLen at h3
  unfold idV at hfi ⊢
  obtain ⟨ib, is, iN⟩ := i
  simp only at hfi ⊢
  clear hR hK hE h
  go_enter Try.func8, Try.ntmps8
  go_wp2_with fail
  refine (hfi.out _ (Up.alloc _ _)).mono ?_
  rintro e w1 ⟨rfl, u1⟩
  have HU1 : Hid (Up w w1) := Up.after _ _ _ u1
  clear u1
  by_cases h0 : E = 0
  · subst h0
    obtain ⟨hk, hbag, _⟩ := HL.out rfl
    have hl := hbag.len
    have hok := hbag.ok _ (List.getElem_mem hk)
    have r1 := hok.2.2.2.2.1
    have r2 := hok.2.2.2.2.2
    have hr := HRR.out
    rw [if_pos rfl] at hr
    unfold less at hr
    rw [getElem!_pos l k hk] at hr
    have HC := Lib.hid (HCL.out w1 HU1.out hbag)
    have hgets := (itL_get l k hk).2.2.2
    have hsetR := itL_setR l k hk (-1)
    obtain ⟨L', hL'⟩ : ∃ L', l.set k (more l[k] (-1)) = L' := ⟨_, rfl⟩
    have hLl : L'.length = l.length := by rw [← hL', List.length_set]
    have hgets' := (itL_get L' k (by omega)).2.2.2
    have hk' : L'[k]'(by omega) = more l[k] (-1) := by subst hL'; rw [List.getElem_set_self]
    have hera : L'.eraseIdx k = l.eraseIdx k := by rw [← hL']; exact less_set l k hk
    rw [hk'] at hgets'
    simp only [more] at hgets'
    rw [hL'] at hr hsetR
    obtain ⟨r, hrr⟩ : ∃ r, l[k].r = r := ⟨_, rfl⟩
    rw [hrr] at r1 r2 hr hgets hsetR hgets'
    have HG1 := Lib.hid hgets
    have HG2 := Lib.hid hgets'
    have HSR := Lib.hid hsetR
    have HLL := Lib.hid hLl
    have HER := Lib.hid hera
    have HRV := Lib.hid hr
    clear hgets hgets' hsetR hLl hk' hr hrr hok hbag hL' HL HRR HCL hera
    go_wp2_with fail
    refine HC.out.mono ?_
    rintro e w2 ⟨v', rfl, hown, u2⟩
    rcases hown.row with ⟨_, hnil⟩ | ⟨g, cap, sp, rfl, hg, hrow, hc1, hc2, hc3⟩
    · rw [hnil] at hk; simp at hk
    have hU2 := HU1.out.trans u2
    have hgw : w.heap.size ≤ g := Nat.le_trans HU1.out.size hg
    have c3 := hrow.cell (get_app (sp := sp) HG1.out)
    have fz := hrow.frozen (k * 4 + 3)
    obtain ⟨w3, hw3⟩ : ∃ w3, w2.setCell ⟨g, k * 4 + 3, none⟩ (.int .i64 (r + -1)) = w3 := ⟨_, rfl⟩
    have hrow3 := hrow.set (k * 4 + 3) (.int .i64 (r + -1))
    rw [List.set_append_left _ _ (by rw [itL_length]; omega), HSR.out, hw3] at hrow3
    have hU3 : Up w w3 := by rw [← hw3]; exact Below.setCell hU2 (p := ⟨g, k * 4 + 3, none⟩) hgw _
    have e3 := hrow3.cell (get_app (sp := sp) HG2.out)
    have hwr : IntKind.i64.wrap (r - 1) = r + -1 := by rw [Int.sub_eq_add_neg]; exact IntWalk.i64_in _ (by omega)
    have hm : r - 1 = r + -1 := Int.sub_eq_add_neg
    have HROW3 := Lib.hid hrow3
    have HU3 := Lib.hid hU3
    have HC3 := Lib.hid hc3
    have HW3 := Lib.hid hw3
    have HGW := Lib.hid hgw
    have HC2 := Lib.hid hc2
    unfold maxLen at hc2
    rw [← hw3, ← hm] at e3
    rw [← hm] at HW3
    clear hown hrow hg u2 hU2 hrow3 hU3 hw3 hc3 HG1 HG2 HSR hwr
    by_cases h1 : r = 1
    · have hr := HRV.out
      rw [if_pos h1] at hr
      subst h1
      have HRV2 := Lib.hid hr
      have HDEL := Lib.hid (delete_any L' k (k + 1) g cap sp w3 rfl (by rw [HLL.out]; exact hk) HROW3.out (by rw [HLL.out]; exact hc1) HC2.out (by rw [HLL.out]; exact HC3.out))
      rw [HLL.out, HER.out] at HDEL
      clear hr hm
      have hel : (l.eraseIdx k).length = l.length - 1 := List.length_eraseIdx_of_lt hk
      have HEL := Lib.hid hel
      clear hel
      go_wp2_with fail
      rw [show w2.setCell ⟨g, k * 4 + 3, none⟩ (.int .i64 0) = w3 from HW3.out]
      have hd := HDEL.out
      rw [show ((k + 1 : Nat) : Int) = (k : Int) + 1 by omega] at hd
      refine hd.mono ?_
      rintro e w4 ⟨rfl, hr4, hb4⟩
      have HR4 := Lib.hid hr4
      have HB4 := Lib.hid hb4
      clear hd hr4 hb4
      go_wp2_with fail
      go_ret2
      have hel := HEL.out
      refine ⟨_, by rw [← HRV2.out]; rfl, ?_, Below.trans HU3.out (HB4.out.mono hgw)⟩
      rw [← HRV2.out]
      show OItems w4 w.heap.size (.slice (some ⟨g, 0, none⟩) (l.length - 1) cap) (l.eraseIdx k)
      rw [← hel]
      have hz : zc.length = 4 := rfl
      exact OItems.mk hgw HR4.out (by omega) HC2.out (by rw [List.length_append, hz]; have := HC3.out; omega)
    · have hr := HRV.out
      rw [if_neg h1] at hr
      have HRV2 := Lib.hid hr
      have d0 : (r - 1 == 0) = false := by simp; omega
      clear hr hm
      go_wp2_with fail
      rw [HW3.out]
      go_ret2
      have hll := HLL.out
      refine ⟨_, by rw [← HRV2.out]; rfl, ?_, HU3.out⟩
      rw [← HRV2.out]
      show OItems w3 w.heap.size (.slice (some ⟨g, 0, none⟩) l.length cap) L'
      rw [← hll]
      exact OItems.mk hgw HROW3.out (by omega) HC2.out (by rw [hll]; exact HC3.out)
  · have hr := HRR.out
    rw [if_neg h0] at hr
    have HRV := Lib.hid hr
    have hne : (E != 0) = true := by rw [bne_iff_ne]; exact h0
    clear hr h0
    go_wp2_with fail
    go_ret2
    exact ⟨_, by rw [← HRV.out]; rfl, by rw [← HRV.out]; exact OItems.nil _ _, HU1.out⟩

end Go.Proofs.Ytabhalajelbfoaa

/-
  copy of items into a row that is known whole; slices.Insert of one item. Conditions: as each says.
-/
namespace Go.Proofs.Ytabhalajelbfoaa
open Go.RowKit
open Go.Proofs
open WoolBag

theorem copyI {w : World} {g off dLen dCap : Nat} {a : Addr} {sLen sCap : Nat} {L cs : List Value} (h : RowI w g L) (hn : cs.length = Nat.min sLen dLen * 4) (hsrc : ∀ j v, cs[j]? = some v → w.cell? (a.add j) = some v)
    (hfit : off + cs.length ≤ L.length) (h1 : ∀ v ∈ cs, v.oneCell' = true) (ty : TypeId) :
    (Builtin.copy_ #[25, 25] ty #[.slice (some ⟨g, off, none⟩) dLen dCap, .slice (some a) sLen sCap]).run Try.prog w = .ok (goInt (Nat.min sLen dLen)) (w.setRow g (splice L off cs).toArray) := by
  obtain ⟨i0, hi, _, hz1, _⟩ := itInfo'
  have hl := run_loadCells_list (P := Try.prog) w a cs hsrc
  have hst := run_storeCells_at Try.prog g off 43 cs 0 L.toArray w h (by simpa using hfit) h1
  simp only [Nat.add_zero] at hst
  simp [Builtin.copy_, run_underlying Try.underlying25, Builtin.lenOf, Builtin.firstCells, sizeOf, typeInfo, hi, hz1, ← hn, hl, hst, splice]

theorem wpList_copyI {w : World} {ops : Array Oper} {rest : List Oper} {o : Oper} {a : Act} {Q : Exit → Act → World → Prop} (hgd : o.guard = none) (d s : Operand)
    (ho : o.op = .call { callee := .builtin .copy, args := #[d, s], argTypes := #[25, 25] }) (v u : Value) (hd : a.eval d = v) (hs : a.eval s = u) {v' : Value} {w' : World}
    (hr : ∀ ty, (Builtin.copy_ #[25, 25] ty #[v, u]).run Try.prog w = .ok v' w') (h : wpList Try.prog ops Q rest (a.put o.dst v') w') : wpList Try.prog ops Q (o :: rest) a w := by
  refine wpList_plain hgd fun K hK => ?_
  unfold Oper.wp
  simp [execOp, ho, resolve, invoke, builtin, hd, hs, hr, Result.andThen]
  exact hK _ _ h

theorem step_copyI {w : World} {ops : Array Oper} {o : Oper} {a : Act} {K : Act → World → Prop} {Q : Exit → Act → World → Prop} {E : Prop} (hgd : o.guard = none) (d s : Operand)
    (ho : o.op = .call { callee := .builtin .copy, args := #[d, s], argTypes := #[25, 25] }) (v u : Value) (hd : a.eval d = v) (hs : a.eval s = u) {v' : Value} {w' : World}
    (hr : ∀ ty, (Builtin.copy_ #[25, 25] ty #[v, u]).run Try.prog w = .ok v' w') (h : K (a.put o.dst v') w') : if Region.wanted o (yielded ops a.tmps) = true then Oper.wp Try.prog o a w K Q else E := by
  have hw : Region.wanted o (yielded ops a.tmps) = true := by simp [Region.wanted, hgd]
  rw [if_pos hw]
  unfold Oper.wp
  simp [execOp, ho, resolve, invoke, builtin, hd, hs, hr, Result.andThen]
  exact h

theorem ins_room (A B sp X : List Value) (hX : X.length = 4) (hr : 4 ≤ sp.length) : splice (splice (A ++ B ++ sp) (A.length + 4) B) A.length X = A ++ (X ++ (B ++ sp.drop 4)) := by
  have hT : ((B ++ sp).take 4).length = 4 := by rw [List.length_take, List.length_append]; omega
  have e1 : splice (A ++ B ++ sp) (A.length + 4) B = A ++ ((B ++ sp).take 4 ++ (B ++ sp.drop 4)) := by
    unfold splice
    rw [List.append_assoc A B sp, List.take_append, List.take_of_length_le (by omega), show A.length + 4 - A.length = 4 by omega, List.drop_append, List.drop_of_length_le (by omega), List.nil_append,
      show A.length + 4 + B.length - A.length = B.length + 4 by omega, List.drop_append, List.drop_of_length_le (by omega), List.nil_append, show B.length + 4 - B.length = 4 by omega, List.append_assoc]
  rw [e1]
  generalize (B ++ sp).take 4 = T at hT
  unfold splice
  rw [List.take_left, hX, List.drop_append, List.drop_of_length_le (by omega), List.nil_append, show A.length + 4 - A.length = 4 by omega, List.drop_append, List.drop_of_length_le (by omega), hT, List.nil_append]
  rfl

theorem ins_new (A B Z X : List Value) (hX : X.length = 4) : splice (splice (A ++ Z) A.length X) (A.length + 4) B = A ++ (X ++ (B ++ Z.drop (4 + B.length))) := by
  have e1 : splice (A ++ Z) A.length X = A ++ (X ++ Z.drop 4) := by
    unfold splice
    rw [List.take_left, hX, List.drop_append, List.drop_of_length_le (by omega), List.nil_append, show A.length + 4 - A.length = 4 by omega]
  rw [e1]
  unfold splice
  rw [← List.append_assoc A X, List.take_append, List.take_of_length_le (by rw [List.length_append]; omega), List.length_append, hX, Nat.sub_self, List.take_zero, List.append_nil, List.drop_append, List.drop_of_length_le (by rw [List.length_append]; omega), List.nil_append, List.drop_drop, List.length_append, hX, List.append_assoc,
    show 4 + (A.length + 4 + B.length - (A.length + 4)) = 4 + B.length by omega]

/-- what slices.Insert leaves -/
def InsPost (w : World) (base : Nat) (row : Option Nat) (L : List Itm) (e : Ending) (w' : World) : Prop := ∃ v', e = .returned v' ∧ OItems w' base v' L ∧ w.grownBy w' row

set_option maxRecDepth 100000 in
set_option maxHeartbeats 2000000 in
/-- at the end -/
theorem insert_end (v : Value) (l : List Itm) (x : Itm) (base vb : Nat) (w : World) (h : OItems w base v l) (hl : l.length ≤ 64) (hv : RowI w vb (itC x)) (hbase : base ≤ w.heap.size) :
    Calls Try.prog 46 #[v, .int .i64 (l.length : Int), .slice (some ⟨vb, 0, none⟩) 1 1] w (InsPost w base v.ownBlock (l ++ [x])) := by
  obtain ⟨i0, hi, hz0, hz1, hz2⟩ := itInfo'
  have hsrc : ∀ j u, (itC x)[j]? = some u → w.cell? ((⟨vb, 0, none⟩ : Addr).add j) = some u := fun j u hu => by
    rw [add_lit, Nat.zero_add]; exact hv.cell hu
  have HS := Lib.hid hsrc
  have hO : w.ownsRow base 43 4 v l.length (itL l) := h
  have HO := Lib.hid hO
  have h1 : ∀ u ∈ itC x, u.oneCell' = true := by have := itL_one [x]; rwa [show itL [x] = itC x from List.append_nil (itC x)] at this
  have H1 := Lib.hid h1
  obtain ⟨o, c, hvv, hc, hoc⟩ : ∃ o c, v = .slice o l.length c ∧ c ≤ maxLen ∧ l.length ≤ c := by
    obtain ⟨o, c, h1, h2, h3, _⟩ := h.items
    exact ⟨o, c, h1, h3, h2⟩
  subst hvv
  unfold maxLen at hc
  obtain ⟨n, hn⟩ : ∃ n, l.length = n := ⟨_, rfl⟩
  have hL : itL (l ++ [x]) = itL l ++ itC x := by rw [itL_append]; rfl
  have hLn : (l ++ [x]).length = n + 1 := by rw [List.length_append, hn]; rfl
  have HL := Lib.hid hL
  have HLN := Lib.hid hLn
  rw [hn] at HO hl hoc ⊢
  clear hsrc hO h1 hv h hL hLn hn
  go_enter Try.func46, Try.ntmps46
  go_wp2_with (at_builtin; refine wpList_append_own _ rfl _ _ 25 rfl base 43 i0 _ 4 40 Try.underlying25 hi hz0 hz1 hz2 rfl (by omega) _ _ _ rfl HO.out ⟨vb, 0, none⟩ 1 1 (itC x) rfl rfl HS.out H1.out (by unfold maxLen; omega) (by omega) hbase ?_)
  all_goals
    intro v' w1 hown hgrow hnil
    have HOW : Hid (OItems w1 base v' (l ++ [x])) := by
      show OItems w1 base v' (l ++ [x])
      unfold OItems
      rw [HL.out, HLN.out]
      exact hown
    have HGR := Lib.hid hgrow
    clear hown hgrow hnil
    go_wp2_with fail
    go_ret
    exact ⟨v', rfl, HOW.out, by have hq := HGR.out; cases o <;> exact hq⟩

theorem grown_setRow {w w' : World} {g : Nat} (h : w.grownBy w' (some g)) (L : Array Value) : w.grownBy (w'.setRow g L) (some g) :=
  ⟨h.os, h.tape, h.output, by simpa [World.setRow] using h.size, fun k hk hne => by rw [setRow_other w' g k L (fun e => hne (by rw [e]))]; exact h.block k hk hne⟩
theorem grown_refl (w : World) (row : Option Nat) : w.grownBy w row := ⟨rfl, rfl, rfl, Nat.le_refl _, fun _ _ _ => rfl⟩
theorem grown_drew {w w' : World} {row : Option Nat} (h : w.grownBy w' row) : w.grownBy w'.drew row := ⟨h.os, h.tape, h.output, h.size, h.block⟩

theorem run_extern_overlaps {w : World} {g vb s lb cb : Nat} {L X : List Value} (h : RowI w g L) (hv : RowI w vb X) (hne : vb ≠ g) (hL : L.length ≠ 0) :
    (callFunc 59 #[.slice (some ⟨vb, 0, none⟩) 1 1, .slice (some ⟨g, s, none⟩) lb cb]).run Try.prog w = .ok (.value (.bool false)) w := by
  rw [run_callFunc_extern Try.func59 (by kernel_rfl) (by kernel_rfl) (by kernel_rfl) (e := Extern.SlicesOverlaps.overlaps #[25, 25] #[4]) (by kernel_rfl),
    Lib.run_overlaps_apart w 25 4 43 Try.underlying25 4 Try.sizeOf43 ⟨vb, 0, none⟩ ⟨g, s, none⟩ 1 1 lb cb hne 43 43 X.length L.length (by unfold RowI at hv; simp [World.shape?, hv]) (by unfold RowI at h; simp [World.shape?, h]) hL (hv.frozen 0) (hv.frozen _)]
  rfl

set_option maxRecDepth 100000 in
set_option maxHeartbeats 4000000 in
/-- within, where there is room -/
theorem insert_room (l : List Itm) (x : Itm) (k base g cap vb : Nat) (sp : List Value) (w : World) (hk : k < l.length) (hl : l.length ≤ 64) (hg : base ≤ g) (hrow : RowI w g (itL l ++ sp)) (hroom : l.length + 1 ≤ cap) (hc2 : cap ≤ maxLen) (hc3 : l.length * 4 + sp.length = cap * 4)
    (hv : RowI w vb (itC x)) (hne : vb ≠ g) :
    Calls Try.prog 46 #[.slice (some ⟨g, 0, none⟩) l.length cap, .int .i64 (k : Int), .slice (some ⟨vb, 0, none⟩) 1 1] w (InsPost w base (some g) (l.take k ++ x :: l.drop k)) := by
  have h4 : (itC x).length = 4 := rfl
  have hLL : (itL l ++ sp).length = cap * 4 := by rw [List.length_append, itL_length]; exact hc3
  have hov := fun s lb cb => run_extern_overlaps (s := s) (lb := lb) (cb := cb) hrow hv hne (by omega)
  have hrd : RowI w.drew g (itL l ++ sp) := hrow
  have hdl : (itL (l.drop k)).length = (l.length - k) * 4 := by rw [itL_length, List.length_drop]
  have htl : (itL (l.take k)).length = k * 4 := by rw [itL_length, List.length_take]; omega
  have hlk : l.take k ++ l.drop k = l := List.take_append_drop k l
  have hLs : itL (l.take k) ++ itL (l.drop k) = itL l := by rw [← itL_append, hlk]
  have hfin := ins_room (itL (l.take k)) (itL (l.drop k)) sp (itC x) h4 (by omega)
  rw [hLs, htl] at hfin
  have hcp1 := fun dc sc ty => copyI (off := k * 4 + 4) (dLen := l.length + 1 - (k + 1)) (dCap := dc) (a := ⟨g, k * 4, none⟩) (sLen := l.length + 1 - k) (sCap := sc) (cs := itL (l.drop k)) hrd (by rw [hdl]; simp only [Nat.min_def]; split <;> omega)
    (fun j u hu => by rw [add_lit]; rw [itL_drop, List.getElem?_drop] at hu; exact hrd.cell (get_app hu)) (by rw [hLL, hdl]; omega) (itL_one _) ty
  obtain ⟨W1, hW1⟩ : ∃ W1, w.drew.setRow g (splice (itL l ++ sp) (k * 4 + 4) (itL (l.drop k))).toArray = W1 := ⟨_, rfl⟩
  have hR1 := hrd.setRow (splice (itL l ++ sp) (k * 4 + 4) (itL (l.drop k)))
  have hg1 := grown_setRow (grown_drew (grown_refl w (some g))) (splice (itL l ++ sp) (k * 4 + 4) (itL (l.drop k))).toArray
  have hv1 : RowI (w.drew.setRow g (splice (itL l ++ sp) (k * 4 + 4) (itL (l.drop k))).toArray) vb (itC x) := by
    unfold RowI
    rw [setRow_other _ _ _ _ hne]
    exact hv
  rw [hW1] at hR1 hg1 hv1
  simp only [hW1] at hcp1
  simp only [show k * 4 + 4 = (k + 1) * 4 by omega, show l.length + 1 - (k + 1) = l.length - k by omega] at hcp1
  have hcp2 := fun dc ty => copyI (off := k * 4) (dLen := l.length + 1 - k) (dCap := dc) (a := ⟨vb, 0, none⟩) (sLen := 1) (sCap := 1) (cs := itC x) hR1 (by rw [h4]; simp only [Nat.min_def]; split <;> omega)
    (fun j u hu => by rw [add_lit, Nat.zero_add]; exact hv1.cell hu) (by rw [length_splice _ _ _ (by rw [hLL, hdl]; omega), hLL, h4]; omega) (by have := itL_one [x]; rwa [show itL [x] = itC x from List.append_nil (itC x)] at this) ty
  rw [hfin] at hcp2
  have hR2 := hR1.setRow (itL (l.take k) ++ (itC x ++ (itL (l.drop k) ++ sp.drop 4)))
  have hg2 := grown_setRow hg1 (itL (l.take k) ++ (itC x ++ (itL (l.drop k) ++ sp.drop 4))).toArray
  obtain ⟨W2, hW2⟩ : ∃ W2, W1.setRow g (itL (l.take k) ++ (itC x ++ (itL (l.drop k) ++ sp.drop 4))).toArray = W2 := ⟨_, rfl⟩
  rw [hW2] at hR2 hg2
  simp only [hW2] at hcp2
  have hfl : (l.take k ++ x :: l.drop k).length = l.length + 1 := by rw [List.length_append, List.length_cons, List.length_take, List.length_drop]; omega
  have HRES : Hid (OItems W2 base (.slice (some ⟨g, 0, none⟩) (l.length + 1) cap) (l.take k ++ x :: l.drop k)) := by
    show OItems W2 base (.slice (some ⟨g, 0, none⟩) (l.length + 1) cap) (l.take k ++ x :: l.drop k)
    rw [← hfl]
    refine OItems.mk (sp := sp.drop 4) hg ?_ (by omega) hc2 (by rw [hfl, List.length_drop]; omega)
    rw [itL_append, itL_cons, List.append_assoc, List.append_assoc]
    exact hR2
  have HG2 := Lib.hid hg2
  have HC1 := Lib.hid hcp1
  have HC2 := Lib.hid hcp2
  have HM1 : Hid (Nat.min (l.length + 1 - k) (l.length - k) = l.length - k) := by show _ = _; simp only [Nat.min_def]; split <;> omega
  unfold maxLen at hc2
  obtain ⟨n, hn⟩ : ∃ n, l.length = n := ⟨_, rfl⟩
  rw [hn] at hk hl hroom HC1 HC2 HRES HM1 ⊢
  have hnk : ((k : Int) == (n : Int)) = false := by simp; omega
  have p1 : IntKind.i64.wrap ((n : Int) + 1) = (n : Int) + 1 := IntWalk.i64_in _ (by omega)
  have p2 : IntKind.i64.wrap ((k : Int) + 1) = (k : Int) + 1 := IntWalk.i64_in _ (by omega)
  have p3 : decide ((cap : Int) < (n : Int) + 1) = false := by rw [decide_eq_false_iff_not]; omega
  have p4 : ¬ cap = k := by omega
  have p5 : ¬ cap = k + 1 := by omega
  have p6 : ((k : Int) + 1).toNat = k + 1 := by omega
  have p7 : ((n : Int) + 1).toNat = n + 1 := by omega
  have p8 : (0 : Int) ≤ (k : Int) + 1 := by omega
  have p9 : k ≤ n := by omega
  have p10 : (k : Int) ≤ (n : Int) + 1 := by omega
  clear hcp1 hcp2 hR1 hR2 hg1 hg2 hv1 hW1 hW2 hfl hfin hLs hlk htl hdl hrd hLL h4 hc3 hrow hv hn
  go_enter Try.func46, Try.ntmps46
  go_wp2_with fail
  go_region_law (refine step_copyI rfl (.tmp 73) (.tmp 76) rfl (.slice (some ⟨g, (k + 1) * 4, none⟩) (n - k) (cap - (k + 1))) (.slice (some ⟨g, k * 4, none⟩) (n + 1 - k) (cap - k)) (by simp [Act.eval, Act.put]) (by simp [Act.eval, Act.put]) (HC1.out _ _) ?_; rw [HM1.out])
  all_goals
    go_wp2_with (refine wpList_copyI rfl _ _ rfl (.slice (some ⟨g, k * 4, none⟩) (n + 1 - k) (cap - k)) (.slice (some ⟨vb, 0, none⟩) 1 1) rfl rfl (HC2.out _) ?_)
    go_ret
    exact ⟨_, rfl, HRES.out, HG2.out⟩

end Go.Proofs.Ytabhalajelbfoaa

/-
  slices.Insert of one item within a row that has no room. Conditions: as it says.
-/
namespace Go.Proofs.Ytabhalajelbfoaa
open Go.RowKit
open Go.Proofs
open WoolBag

/-- an append whose run is known -/
theorem wpList_appendI {P : Program} {w : World} {ops : Array Oper} {rest : List Oper} {o : Oper} {a : Act} {Q : Exit → Act → World → Prop} (hgd : o.guard = none) (s x : Operand) (ts : Array TypeId)
    (ho : o.op = .call { callee := .builtin .append, args := #[s, x], argTypes := ts }) (v1 v2 v' : Value) (w' : World) (hs : a.eval s = v1) (hx : a.eval x = v2)
    (hrun : ∀ ty, (Builtin.append_ ts ty #[v1, v2]).run P w = .ok v' w') (h : wpList P ops Q rest (a.put o.dst v') w') : wpList P ops Q (o :: rest) a w := by
  refine wpList_plain hgd fun K hK => ?_
  unfold Oper.wp execOp
  simp only [ho, resolve, invoke, builtin, Sem.run_bind, Sem.run_pure, Result.andThen_ok, List.map_toArray, List.map_cons, List.map_nil, hs, hx, hrun]
  exact hK _ _ h

theorem zeroI_size (n : Nat) : (Builtin.zeroCells (Value.agg #[.int .i64 0, .int .i64 0, .string ⟨#[]⟩, .int .i64 0]).cells n).toList.length = n * 4 := by
  rw [Array.length_toList]
  unfold Builtin.zeroCells
  rw [Array.size_map, Array.size_range]
  rfl

set_option maxRecDepth 100000 in
set_option maxHeartbeats 4000000 in
theorem insert_grow (l : List Itm) (x : Itm) (k base g cap vb : Nat) (sp : List Value) (w : World) (hk : k < l.length) (hl : l.length ≤ 64) (hrow : RowI w g (itL l ++ sp)) (hroom : cap < l.length + 1) (hcap : l.length ≤ cap)
    (hv : RowI w vb (itC x)) (hbase : base ≤ w.heap.size) :
    Calls Try.prog 46 #[.slice (some ⟨g, 0, none⟩) l.length cap, .int .i64 (k : Int), .slice (some ⟨vb, 0, none⟩) 1 1] w (InsPost w base (some g) (l.take k ++ x :: l.drop k)) := by
  obtain ⟨i0, hi, hz0, hz1, hz2⟩ := itInfo'
  have h4 : (itC x).length = 4 := rfl
  have hvl := hv.lt
  have hgl := hrow.lt
  have hone : ∀ u ∈ itC x, u.oneCell' = true := by have := itL_one [x]; rwa [show itL [x] = itC x from List.append_nil (itC x)] at this
  have hdl : (itL (l.drop k)).length = (l.length - k) * 4 := by rw [itL_length, List.length_drop]
  have htl : (itL (l.take k)).length = k * 4 := by rw [itL_length, List.length_take]; omega
  have hold : (Builtin.firstCells i0.size k (.slice (some ⟨g, 0, none⟩) k cap)).run Try.prog w.drew = .ok (itL (l.take k)).toArray w.drew := by
    rw [hz1]
    exact run_firstCells_some w.drew 4 k ⟨g, 0, none⟩ k cap (itL (l.take k)) htl (fun j u hj => by
      rw [add_lit, Nat.zero_add]
      rw [itL_take, List.getElem?_take] at hj
      split at hj
      · exact hrow.cell (get_app hj)
      · cases hj)
  have hkn : k + (l.length + 1 - k) = l.length + 1 := by omega
  have hrz := fun ty => Lib.run_append_grow_zeros (P := Try.prog) w 25 3 ty 43 i0 _ .i64 .i64 Try.underlying25 Try.underlying3 hi hz0 (some ⟨g, 0, none⟩) k cap (itL (l.take k)) hold (l.length + 1 - k) (by omega) (by rw [hz1]; omega) (by omega) (by omega) (by rw [hz2]; omega) (by rw [hz2]; exact growslice_fits (by omega) (by omega))
  simp only [hkn] at hrz
  have hG1 := grownCap_ge w (l.length + 1) cap 43
  have hG2 := grownCap_le_maxLen w (l.length + 1) cap 43 (by unfold maxLen; omega)
  obtain ⟨G, hG⟩ : ∃ G, grownCap w (l.length + 1) cap 43 = G := ⟨_, rfl⟩
  rw [hG] at hG1 hG2
  simp only [hG] at hrz
  obtain ⟨Z, hZ⟩ : ∃ Z, (Builtin.zeroCells (Value.agg #[.int .i64 0, .int .i64 0, .string ⟨#[]⟩, .int .i64 0]).cells (l.length + 1 - k)).toList ++ (Builtin.zeroCells (Value.agg #[.int .i64 0, .int .i64 0, .string ⟨#[]⟩, .int .i64 0]).cells (G - (l.length + 1))).toList = Z := ⟨_, rfl⟩
  have hZl : Z.length = (l.length + 1 - k) * 4 + (G - (l.length + 1)) * 4 := by rw [← hZ, List.length_append, zeroI_size, zeroI_size]
  have hROW : (itL (l.take k)).toArray ++ Builtin.zeroCells (Value.agg #[.int .i64 0, .int .i64 0, .string ⟨#[]⟩, .int .i64 0]).cells (l.length + 1 - k) ++ Builtin.zeroCells (Value.agg #[.int .i64 0, .int .i64 0, .string ⟨#[]⟩, .int .i64 0]).cells (G - (l.length + 1)) = (itL (l.take k) ++ Z).toArray := by
    rw [← hZ]
    apply Array.toList_inj.1
    simp
  simp only [hROW] at hrz
  obtain ⟨W1, hW1⟩ : ∃ W1, w.drew.alloc (.cells (itL (l.take k) ++ Z).toArray 43) = W1 := ⟨_, rfl⟩
  have hR1 : RowI W1 w.heap.size (itL (l.take k) ++ Z) := by rw [← hW1]; exact heap_alloc_new w.drew _
  have hu1 : Up w W1 := by rw [← hW1]; exact (Up.drew _).trans (Up.alloc _ _)
  simp only [hW1] at hrz
  have hLL : (itL (l.take k) ++ Z).length = G * 4 := by rw [List.length_append, htl, hZl]; omega
  have hv1 := hv.up hu1
  have hg1 := hrow.up hu1
  have hcp1 := fun dc ty => copyI (off := k * 4) (dLen := l.length + 1 - k) (dCap := dc) (a := ⟨vb, 0, none⟩) (sLen := 1) (sCap := 1) (cs := itC x) hR1 (by rw [h4]; simp only [Nat.min_def]; split <;> omega)
    (fun j u hu => by rw [add_lit, Nat.zero_add]; exact hv1.cell hu) (by rw [hLL, h4]; omega) hone ty
  have hR2 := hR1.setRow (splice (itL (l.take k) ++ Z) (k * 4) (itC x))
  have hu2 : Up w (W1.setRow w.heap.size (splice (itL (l.take k) ++ Z) (k * 4) (itC x)).toArray) := below_setRow hu1 (Nat.le_refl _) _
  have hg2 : RowI (W1.setRow w.heap.size (splice (itL (l.take k) ++ Z) (k * 4) (itC x)).toArray) g (itL l ++ sp) := hrow.up hu2
  obtain ⟨W2, hW2⟩ : ∃ W2, W1.setRow w.heap.size (splice (itL (l.take k) ++ Z) (k * 4) (itC x)).toArray = W2 := ⟨_, rfl⟩
  rw [hW2] at hR2 hu2 hg2
  simp only [hW2] at hcp1
  have hR2d : RowI W2.drew w.heap.size (splice (itL (l.take k) ++ Z) (k * 4) (itC x)) := hR2
  have hg2d : RowI W2.drew g (itL l ++ sp) := hg2
  have hcp2 := fun dc sc ty => copyI (off := (k + 1) * 4) (dLen := l.length - k) (dCap := dc) (a := ⟨g, k * 4, none⟩) (sLen := l.length - k) (sCap := sc) (cs := itL (l.drop k)) hR2d (by rw [hdl]; simp only [Nat.min_def]; split <;> omega)
    (fun j u hu => by rw [add_lit]; rw [itL_drop, List.getElem?_drop] at hu; exact hg2d.cell (get_app hu)) (by rw [length_splice _ _ _ (by rw [hLL, h4]; omega), hLL, hdl]; omega) (itL_one _) ty
  have hfin := ins_new (itL (l.take k)) (itL (l.drop k)) Z (itC x) h4
  rw [htl, hdl] at hfin
  rw [show k * 4 + 4 = (k + 1) * 4 by omega] at hfin
  simp only [hfin] at hcp2
  have hR3 := hR2d.setRow (itL (l.take k) ++ (itC x ++ (itL (l.drop k) ++ Z.drop (4 + (l.length - k) * 4))))
  have hu3 : Up w (W2.drew.setRow w.heap.size (itL (l.take k) ++ (itC x ++ (itL (l.drop k) ++ Z.drop (4 + (l.length - k) * 4)))).toArray) := below_setRow (hu2.trans (Up.drew _)) (Nat.le_refl _) _
  obtain ⟨W3, hW3⟩ : ∃ W3, W2.drew.setRow w.heap.size (itL (l.take k) ++ (itC x ++ (itL (l.drop k) ++ Z.drop (4 + (l.length - k) * 4)))).toArray = W3 := ⟨_, rfl⟩
  rw [hW3] at hR3 hu3
  simp only [hW3] at hcp2
  have hfl : (l.take k ++ x :: l.drop k).length = l.length + 1 := by rw [List.length_append, List.length_cons, List.length_take, List.length_drop]; omega
  have HRES : Hid (OItems W3 base (.slice (some ⟨w.heap.size, 0, none⟩) (l.length + 1) G) (l.take k ++ x :: l.drop k)) := by
    show OItems W3 base (.slice (some ⟨w.heap.size, 0, none⟩) (l.length + 1) G) (l.take k ++ x :: l.drop k)
    rw [← hfl]
    refine OItems.mk (sp := Z.drop (4 + (l.length - k) * 4)) hbase ?_ (by omega) hG2 (by rw [hfl, List.length_drop, hZl]; omega)
    rw [itL_append, itL_cons, List.append_assoc, List.append_assoc]
    exact hR3
  have HGR : Hid (w.grownBy W3 (some g)) := ⟨hu3.os, hu3.tape, hu3.output, hu3.size, fun j hj _ => hu3.block j hj⟩
  have HRZ := Lib.hid hrz
  have HC1 := Lib.hid hcp1
  have HC2 := Lib.hid hcp2
  have HM1 : Hid (Nat.min (l.length - k) (l.length - k) = l.length - k) := by show _ = _; simp only [Nat.min_def]; split <;> omega
  unfold maxLen at hG2
  obtain ⟨n, hn⟩ : ∃ n, l.length = n := ⟨_, rfl⟩
  rw [hn] at hk hl hroom hcap HC1 HC2 HRES HM1 HRZ hG1 ⊢
  have hnk : ((k : Int) == (n : Int)) = false := by simp; omega
  have p1 : IntKind.i64.wrap ((n : Int) + 1) = (n : Int) + 1 := IntWalk.i64_in _ (by omega)
  have p2 : IntKind.i64.wrap ((k : Int) + 1) = (k : Int) + 1 := IntWalk.i64_in _ (by omega)
  have p3 : decide ((cap : Int) < (n : Int) + 1) = true := by rw [decide_eq_true_iff]; omega
  have p4 : ¬ cap = k := by omega
  have p5 : ¬ G = k + 1 := by omega
  have p6 : ((k : Int) + 1).toNat = k + 1 := by omega
  have p7 : ¬ G = k := by omega
  have p8 : (0 : Int) ≤ (k : Int) + 1 := by omega
  have p9 : k ≤ n := by omega
  have p10 : (k : Int) ≤ (n : Int) + 1 := by omega
  have p11 : k ≤ cap := by omega
  have HNI : Hid (((n + 1 - k : Nat) : Int) = (n : Int) + 1 - (k : Int)) := by show _ = _; omega
  rw [HNI.out] at HRZ
  obtain ⟨NB, hNB⟩ : ∃ NB, w.heap.size = NB := ⟨_, rfl⟩
  rw [hNB] at HRZ HC1 HC2 HRES
  clear hcp1 hcp2 hR1 hR2 hg1 hg2 hv1 hW1 hW2 hW3 hfl hfin htl hdl hR2d hg2d hLL h4 hrow hv hn hR3 hu1 hu2 hu3 hrz hROW hZl hZ hG hkn hold hone hvl hgl hi hz0 hz1 hz2 hNB HNI
  go_enter Try.func46, Try.ntmps46
  go_wp2_with (first
    | (at_builtin; refine wpList_appendI rfl _ _ #[25, 3] rfl _ _ _ _ rfl rfl HRZ.out ?_)
    | refine wpList_copyI rfl _ _ rfl (.slice (some ⟨NB, k * 4, none⟩) (n + 1 - k) (G - k)) (.slice (some ⟨vb, 0, none⟩) 1 1) rfl rfl (HC1.out _) ?_)
  go_region_law (refine step_copyI rfl (.tmp 50) (.tmp 53) rfl (.slice (some ⟨NB, (k + 1) * 4, none⟩) (n - k) (G - (k + 1))) (.slice (some ⟨g, k * 4, none⟩) (n - k) (cap - k)) (by simp [Act.eval, Act.put]) (by simp [Act.eval, Act.put]) (HC2.out _ _) ?_; rw [HM1.out])
  all_goals
    go_wp2_with fail
    go_ret
    exact ⟨_, rfl, HRES.out, HGR.out⟩

end Go.Proofs.Ytabhalajelbfoaa

/-
  What create and Put of package bag return. Conditions: the row can be read; create: the bag is right and the block has at most 64 bytes.
-/
namespace Go.Proofs.Ytabhalajelbfoaa
open Go.RowKit
open Go.Proofs
open WoolBag

theorem insert_any (v : Value) (l : List Itm) (x : Itm) (k base vb : Nat) (w : World) (h : OItems w base v l) (hk : k ≤ l.length) (hl : l.length ≤ 64) (hv : RowI w vb (itC x)) (hne : v.ownBlock ≠ some vb) (hbase : base ≤ w.heap.size) :
    Calls Try.prog 46 #[v, .int .i64 (k : Int), .slice (some ⟨vb, 0, none⟩) 1 1] w (InsPost w base v.ownBlock (l.take k ++ x :: l.drop k)) := by
  by_cases hkl : k = l.length
  · subst hkl
    rw [List.take_length, List.drop_length]
    exact insert_end v l x base vb w h hl hv hbase
  · rcases h.row with ⟨_, hn⟩ | ⟨g, cap, sp, rfl, hg, hrow, hc1, hc2, hc3⟩
    · rw [hn] at hk hkl; simp at hk hkl; omega
    · by_cases hroom : l.length + 1 ≤ cap
      · exact insert_room l x k base g cap vb sp w (by omega) hl hg hrow hroom hc2 hc3 hv (fun e => hne (by rw [e]; rfl))
      · exact insert_grow l x k base g cap vb sp w (by omega) hl hrow (by omega) hc1 hv hbase

theorem OItems.keep {w w' : World} {base : Nat} {v : Value} {l : List Itm} (h : OItems w base v l) (hu : ∀ b, v.ownBlock = some b → w'.heap[b]? = w.heap[b]?) : OItems w' base v l := by
  refine ⟨h.1, ?_⟩
  rcases h.2 with h | ⟨g, cap, cur, rfl, h2, h3, h4⟩
  · exact .inl h
  · exact .inr ⟨g, cap, cur, rfl, h2, (hu g rfl).trans h3, h4⟩

/-- what Put answers for a block that is not there -/
def createV (l : List Itm) (t : List UInt8) : List Itm × (Bool × Int × Int) × Int :=
  if l.length = 64 then ([], noId, 8) else (ins (new FP l t) l, idOf (new FP l t), 0)

/-- a block that holds an item -/
def BoxX (W : World) (X : Nat) (x : Itm) : Prop := RowI W X (itC x)

def CreRel (l : List Itm) (t : List UInt8) (w : World) (X gg : Nat) (wr : World) : Prop :=
  ∃ k : Nat, from_ l (FP t) k ≤ gg ∧ nfree l (FP t) 0 = nfree l (FP t) k ∧ k + from_ l (FP t) k ≤ 64 ∧ BoxX wr X ⟨FP t, (k : Int), t, 1⟩ ∧ Up w wr ∧ BoxI wr w.heap.size 29 (.bool false) (.int .i64 0) (.int .i64 0)

set_option maxRecDepth 100000 in
set_option maxHeartbeats 4000000 in
theorem create_any (v : Value) (l : List Itm) (t : List UInt8) (w : World) (h : Items w v l) (hb : Bag FP l) (ht : t.length ≤ 64) :
    Calls Try.prog 20 #[v, .string (bs t)] w (PutPost w (createV l t)) := by
  have hl := hb.len
  have HX := Lib.hid h
  obtain ⟨R, hR⟩ : ∃ R, createV l t = R := ⟨_, rfl⟩
  rw [hR]
  unfold createV at hR
  obtain ⟨o, c, rfl, h3⟩ := h.slice
  unfold maxLen at h3
  by_cases hfull : l.length = 64
  · rw [if_pos hfull] at hR
    subst hR
    clear h hb HX hl
    rw [hfull]
    go_enter Try.func20, Try.ntmps20
    go_wp2_with fail
    exact bodyPost_ret (v := .tuple #[.slice none 0 0, .agg #[.bool false, .int .i64 0, .int .i64 0], .int .i64 8]) (by simp [results, Try.results20, go_sem]) rfl ⟨_, rfl, OItems.nil _ _, Up.alloc _ _⟩
  rw [if_neg hfull] at hR
  have HR := Lib.hid hR
  have HFP := Lib.hid (fun W => fingerprint_any t W ht)
  have HCL := Lib.hid (fun W => clone_str (bs t) W (by rw [bs_size]; omega))
  have HB := Lib.hid hb
  have HF := from_le l (FP t) 0
  have HFL : Hid (0 + from_ l (FP t) 0 ≤ 64) := by show _ ≤ _; omega
  have d0 : ((l.length : Int) == 64) = false := by simp; omega
  clear hR hb h HF
  go_enter Try.func20, Try.ntmps20
  go_wp2_with fail
  refine (HFP.out _).mono ?_
  rintro e w1 ⟨rfl, u1⟩
  have hbx1 := BoxI.up (BoxI.new w 29 (.bool false) (.int .i64 0) (.int .i64 0)) u1
  have HBX1 := Lib.hid hbx1
  have HU1 : Hid (Up w w1) := Up.after _ _ _ u1
  clear hbx1 u1
  go_wp2_with fail
  refine (HCL.out _).mono ?_
  rintro e w2 ⟨rfl, u2⟩
  have HBX2 := Lib.hid (HBX1.out.up u2)
  have HU2 := Lib.hid (HU1.out.trans u2)
  clear u2 HBX1 HU1
  have hX : w.heap.size < w2.heap.size := HBX2.out.lt
  obtain ⟨X, hXX⟩ : ∃ X, w2.heap.size = X := ⟨_, rfl⟩
  have HXX := Lib.hid hXX
  have hXw : w.heap.size < X := by rw [← hXX]; exact hX
  have HST : Hid (CreRel l t w X (from_ l (FP t) 0) (w2.alloc (.cells #[.int .i64 (FP t), .int .i64 0, .string (bs t), .int .i64 1] 43))) :=
    ⟨0, Nat.le_refl _, rfl, HFL.out, by rw [← HXX.out]; exact heap_alloc_new w2 _, HU2.out.trans (Up.alloc _ _), HBX2.out.up (Up.alloc _ _)⟩
  go_wp2_with fail
  clear hXX hX
  go_loopg [22] (from_ l (FP t) 0) (fun gg _ wr => CreRel l t w X gg wr)
  case atStart => exact HST.out
  case round =>
    obtain ⟨k, hk1, hk2, hk3, hbx, hu, hid⟩ := hrel
    have HBX := Lib.hid hbx
    have HU := Lib.hid hu
    have HIDB := Lib.hid hid
    have HK2 := Lib.hid hk2
    have e0 := hbx.cell (j := 0) rfl
    have e1 := hbx.cell (j := 1) rfl
    have e2 := hbx.cell (j := 2) rfl
    have e3 := hbx.cell (j := 3) rfl
    have HIN : Hid (∀ W, Calls Try.prog 40 #[.agg #[.int .i64 (FP t), .int .i64 (k : Int), .string (bs t), .int .i64 1]] W fun e w' => e = .returned (.agg #[.bool true, .int .i64 (FP t), .int .i64 (k : Int)]) ∧ Up W w') := fun W => identifier_any ⟨FP t, (k : Int), t, 1⟩ W
    have HMK : Hid (∀ W, Calls Try.prog 44 #[.agg #[.bool true, .int .i64 (FP t), .int .i64 (k : Int)]] W (MakePost W 57 (idB (true, FP t, (k : Int))))) := fun W => hasId_make (true, FP t, (k : Int)) W
    have hkk : k ≤ 64 := by omega
    obtain ⟨Q, hQ⟩ : ∃ Q, l.any (idB (true, FP t, (k : Int))) = Q := ⟨_, rfl⟩
    have HQ := Lib.hid hQ
    clear hbx hu hid hk2 hQ HST
    go_wp2_with fail
    refine (HIN.out _).mono ?_
    rintro e w3 ⟨rfl, u3⟩
    have HU3 := Lib.hid u3
    clear u3
    go_wp2_with fail
    refine (HMK.out _).mono ?_
    rintro e w4 ⟨lb, rfl, u4, hp⟩
    have HCON := Lib.hid (containsF _ l w4 _ lb _ eg_id (HX.out.up ((HU.out.trans HU3.out).trans u4)) hp)
    have HU4 := Lib.hid (HU3.out.trans u4)
    clear u4 hp
    go_wp2_with fail
    refine HCON.out.mono ?_
    rintro e w5 ⟨rfl, u5⟩
    rw [HQ.out]
    have hw5 := HU4.out.trans u5
    have hbx5 := HBX.out.up hw5
    have HBX5 := Lib.hid hbx5
    have HU5 := Lib.hid (HU.out.trans hw5)
    have HID5 := Lib.hid (HIDB.out.up hw5)
    have f0 := hbx5.cell (j := 0) rfl
    have f1 := hbx5.cell (j := 1) rfl
    have f2 := hbx5.cell (j := 2) rfl
    have f3 := hbx5.cell (j := 3) rfl
    have fz := RowI.frozen hbx5 1
    clear u5 hw5 e0 e1 e2 e3 hbx5 HBX HU HIDB HU3 HU4 HCON
    cases Q with
    | true =>
      have p1 : IntKind.i64.wrap ((k : Int) + 1) = (k : Int) + 1 := IntWalk.i64_in _ (by omega)
      have hlt := from_lt HQ.out
      have HLT := Lib.hid hlt
      have HREL : Hid (CreRel l t w X (from_ l (FP t) (k + 1)) (w5.setCell ⟨X, 1, none⟩ (.int .i64 ((k : Int) + 1)))) := by
        refine ⟨k + 1, Nat.le_refl _, by rw [HK2.out]; exact nfree_step HQ.out, by omega, ?_, Below.setCell HU5.out (p := ⟨X, 1, none⟩) (by show w.heap.size ≤ X; omega) _, ?_⟩
        · have := RowI.set HBX5.out 1 (.int .i64 ((k : Int) + 1))
          exact this
        · have hh := HID5.out
          unfold BoxI at hh ⊢
          simp [World.setCell, Array.getElem?_modify, hh, show X ≠ w.heap.size by omega]
      clear hlt
      go_wp2_with fail
      go_roundg (from_ l (FP t) (k + 1))
      case measure => have := HLT.out; omega
      case rel => exact HREL.out
    | false =>
      have HN : Hid (new FP l t = ⟨FP t, (k : Int), t, 1⟩) := by
        show _ = _
        unfold new
        rw [HK2.out, nfree_stop HQ.out]
      have HBM : Hid (∀ W, Calls Try.prog 45 #[.agg #[.int .i64 (FP t), .int .i64 (k : Int), .string (bs t), .int .i64 1]] W (MakePost W 58 (behB ⟨FP t, (k : Int), t, 1⟩))) := fun W => isBehind_make ⟨FP t, (k : Int), t, 1⟩ W
      go_wp2_with fail
      refine (HBM.out _).mono ?_
      rintro e w6 ⟨lb2, rfl, u6, hp6⟩
      have HIX := Lib.hid (indexF _ l w6 _ lb2 _ eg_beh (HX.out.up (HU5.out.trans u6)) hp6)
      have HU6 := Lib.hid u6
      clear u6 hp6
      go_wp2_with fail
      refine HIX.out.mono ?_
      rintro e w7 ⟨rfl, u7⟩
      have hw7 := HU6.out.trans u7
      have HBX7 := Lib.hid (HBX5.out.up hw7)
      have HU7 := Lib.hid (HU5.out.trans hw7)
      have HID7 := Lib.hid (HID5.out.up hw7)
      clear hw7 u7 f0 f1 f2 f3 fz HBX5 HU5 HID5 HU6 HIX
      have hpl : place ⟨FP t, (k : Int), t, 1⟩ l ≤ l.length ∧ (ixI (behB ⟨FP t, (k : Int), t, 1⟩) l = (place ⟨FP t, (k : Int), t, 1⟩ l : Int) ∨ (ixI (behB ⟨FP t, (k : Int), t, 1⟩) l = -1 ∧ place ⟨FP t, (k : Int), t, 1⟩ l = l.length)) := by
        unfold place ixI
        cases hi : idx (behB ⟨FP t, (k : Int), t, 1⟩) l with
        | none => exact ⟨Nat.le_refl _, .inr ⟨rfl, rfl⟩⟩
        | some i => exact ⟨Nat.le_of_lt (idx_some hi).1, .inl rfl⟩
      have HINS : Hid (ins ⟨FP t, (k : Int), t, 1⟩ l = l.take (place ⟨FP t, (k : Int), t, 1⟩ l) ++ ⟨FP t, (k : Int), t, 1⟩ :: l.drop (place ⟨FP t, (k : Int), t, 1⟩ l)) := rfl
      generalize place ⟨FP t, (k : Int), t, 1⟩ l = P at hpl HINS
      generalize ixI (behB ⟨FP t, (k : Int), t, 1⟩) l = I0 at hpl
      obtain ⟨hPl, hpl⟩ := hpl
      have HCLN : Hid (∀ U, Up w7 U → Calls Try.prog 25 #[.slice o l.length c] U (OwnPost U l)) := fun U hU => clone_any _ l U (HX.out.up (HU7.out.trans hU)) hl (fun y hy => (HB.out.ok y hy).1)
      have q0 : w7.cell? ⟨X, 0, none⟩ = some (.int .i64 (FP t)) := RowI.cell HBX7.out rfl
      have q1 : w7.cell? ⟨X, 1, none⟩ = some (.int .i64 (k : Int)) := RowI.cell HBX7.out rfl
      have q2 : w7.cell? ⟨X, 2, none⟩ = some (.string (bs t)) := RowI.cell HBX7.out rfl
      have q3 : w7.cell? ⟨X, 3, none⟩ = some (.int .i64 1) := RowI.cell HBX7.out rfl
      have q4 : X < w7.heap.size := RowI.lt HBX7.out
      have hlast : ∀ (v8 : Value) (U0 U U1 : World) (vb : Nat), Up w7 U0 → U0.heap.size ≤ U.heap.size → OItems U U0.heap.size v8 l → RowI U vb (itC ⟨FP t, (k : Int), t, 1⟩) → v8.ownBlock ≠ some vb → Up w7 U → U = U1 →
          Calls Try.prog 46 #[v8, .int .i64 (P : Int), .slice (some ⟨vb, 0, none⟩) 1 1] U1 fun e w9 => ∃ v9, e = .returned v9 ∧ OItems w9 w7.heap.size v9 (ins ⟨FP t, (k : Int), t, 1⟩ l) ∧ Up w7 w9 := by
        intro v8 U0 U U1 vb hU0 hUU ho hr hn hU hEq
        subst hEq
        refine (insert_any v8 l _ P U0.heap.size vb U ho hPl hl hr hn hUU).mono ?_
        rintro e w9 ⟨v9, rfl, ho9, hg9⟩
        refine ⟨v9, rfl, by rw [HINS.out]; exact ho9.base hU0.size, ?_⟩
        exact Below.grown hU hg9 hU.size (fun j hj => Nat.le_trans hU0.size (World.ownsRow.lt ho j hj).1)
      have HLAST := Lib.hid hlast
      clear hlast HQ HMK HBM HFP HCL HFL HBX2 HU2 HXX hk1 hk3 d0
      have HPL := Lib.hid hPl
      have hXne : ¬ X = w.heap.size := by omega
      have hXne2 : ¬ w.heap.size = X := by omega
      have hXne3 : X ≠ w.heap.size := by omega
      have FINAL : Hid (∀ (v9 : Value) (L : List Itm) (w9 w10 w11 : World), OItems w9 w7.heap.size v9 L → Up w7 w9 → Up w9 w10 → ((w10.setCell ⟨w.heap.size, 0, none⟩ (.bool true)).setCell ⟨w.heap.size, 1, none⟩ (.int .i64 (FP t))).setCell ⟨w.heap.size, 2, none⟩ (.int .i64 (k : Int)) = w11 → OItems w11 w.heap.size v9 L) := by
        intro v9 L w9 w10 w11 ho _ u10 hw
        have h10 := ho.up u10
        refine (OItems.keep h10 fun b hbb => ?_).base (Nat.le_trans (Nat.le_of_lt hXw) (Nat.le_of_lt q4))
        have hb1 := (World.ownsRow.lt h10 b hbb).1
        have hne : w.heap.size ≠ b := by omega
        rw [← hw]
        simp [World.setCell, Array.getElem?_modify, hne]
      have HNB : Hid (∀ (W : World) (o : Obj) (n : Nat), (W.alloc o).heap.size ≤ n → n = W.heap.size → False) := fun W o n h e => by simp at h; omega
      have hpl' : I0 = (P : Int) ∨ (I0 = -1 ∧ l.length = P) := by
        rcases hpl with h | ⟨h1, h2⟩
        · exact .inl h
        · exact .inr ⟨h1, h2.symm⟩
      clear hpl
      obtain ⟨N, hN⟩ : ∃ N, l.length = N := ⟨_, rfl⟩
      rcases hpl' with hpl | ⟨hpl, hpl2⟩
      · subst hpl
        clear hN
        go_wp2_with fail
        go_region_held3 (fun U => U.cell? ⟨X, 0, none⟩ = some (.int .i64 (FP t)) ∧ U.cell? ⟨X, 1, none⟩ = some (.int .i64 (k : Int)) ∧ U.cell? ⟨X, 2, none⟩ = some (.string (bs t)) ∧ U.cell? ⟨X, 3, none⟩ = some (.int .i64 1)) (go_keep) (first
          | (go_at_call 25; ((refine (HCLN.out _ (by first | exact Up.drew _ | exact (Up.drew _).trans (Up.alloc _ _))).mono ?_); rintro e w8 ⟨v8, rfl, ho8, u8⟩; have u8' : Up w7 w8 := (by first | exact (Up.drew _).trans u8 | exact ((Up.drew _).trans (Up.alloc _ _)).trans u8); have g0 := (Below.cell u8' (p := ⟨X, 0, none⟩) q4).trans q0; have g1 := (Below.cell u8' (p := ⟨X, 1, none⟩) q4).trans q1; have g2 := (Below.cell u8' (p := ⟨X, 2, none⟩) q4).trans q2; have g3 := (Below.cell u8' (p := ⟨X, 3, none⟩) q4).trans q3))
          | (go_at_call 46; (first
            | (have ua := u8; change Up w7.drew w8 at ua; (refine (HLAST.out v8 w7.drew (w8.alloc (.cells #[.int .i64 (FP t), .int .i64 (k : Int), .string (bs t), .int .i64 1] 43)) _ w8.heap.size (Up.drew _) (Nat.le_trans u8'.size (Up.alloc _ _).size) (ho8.up (Up.alloc _ _)) (heap_alloc_new w8 _) (fun e => Nat.lt_irrefl _ (World.ownsRow.lt ho8 _ e).2) (u8'.trans (Up.alloc _ _)) rfl).mono ?_); rintro e w9 ⟨v9, rfl, ho9, u9⟩; have h0 := (Below.cell u9 (p := ⟨X, 0, none⟩) q4).trans q0; have h1 := (Below.cell u9 (p := ⟨X, 1, none⟩) q4).trans q1; have h2 := (Below.cell u9 (p := ⟨X, 2, none⟩) q4).trans q2; have h3 := (Below.cell u9 (p := ⟨X, 3, none⟩) q4).trans q3)
            | (have ua := u8; change Up (w7.drew.alloc (.cells #[.int .i64 (FP t), .int .i64 (k : Int), .string (bs t), .int .i64 1] 43)) w8 at ua; (refine (HLAST.out v8 (w7.drew.alloc (.cells #[.int .i64 (FP t), .int .i64 (k : Int), .string (bs t), .int .i64 1] 43)) w8 _ w7.heap.size ((Up.drew _).trans (Up.alloc _ _)) u8.size ho8 (RowI.up (heap_alloc_new w7.drew _) ua) (fun e => HNB.out w7.drew _ _ (World.ownsRow.lt ho8 _ e).1 rfl) u8' rfl).mono ?_); rintro e w9 ⟨v9, rfl, ho9, u9⟩; have h0 := (Below.cell u9 (p := ⟨X, 0, none⟩) q4).trans q0; have h1 := (Below.cell u9 (p := ⟨X, 1, none⟩) q4).trans q1; have h2 := (Below.cell u9 (p := ⟨X, 2, none⟩) q4).trans q2; have h3 := (Below.cell u9 (p := ⟨X, 3, none⟩) q4).trans q3)))
          | (go_at_call 40; ((with_reducible refine (HIN.out _).mono ?_); rintro e w10 ⟨rfl, u10⟩; have u10' := u9.trans u10; have j0 := (Below.cell u10' (p := ⟨X, 0, none⟩) q4).trans q0; have j1 := (Below.cell u10' (p := ⟨X, 1, none⟩) q4).trans q1; have j2 := (Below.cell u10' (p := ⟨X, 2, none⟩) q4).trans q2; have j3 := (Below.cell u10' (p := ⟨X, 3, none⟩) q4).trans q3; have hbx10 := HID7.out.up u10'; obtain ⟨z0, z1, z2⟩ := hbx10.cells; have y0 := hbx10.frozen 0; have y1 := hbx10.frozen 1; have y2 := hbx10.frozen 2)))
        all_goals
          have hset := hbx10.set (.bool true) (.int .i64 (FP t)) (.int .i64 (k : Int))
          obtain ⟨w11, hw11⟩ : ∃ w11, ((w10.setCell ⟨w.heap.size, 0, none⟩ (.bool true)).setCell ⟨w.heap.size, 1, none⟩ (.int .i64 (FP t))).setCell ⟨w.heap.size, 2, none⟩ (.int .i64 (k : Int)) = w11 := ⟨_, rfl⟩
          rw [hw11] at hset
          obtain ⟨s0, s1, s2⟩ := hset.cells
          have HU11 : Hid (Up w w11) := by
            show Up w w11
            rw [← hw11]
            exact ((Below.setCell (HU7.out.trans u10') (p := ⟨w.heap.size, 0, none⟩) (Nat.le_refl _) _).setCell (p := ⟨w.heap.size, 1, none⟩) (Nat.le_refl _) _).setCell (p := ⟨w.heap.size, 2, none⟩) (Nat.le_refl _) _
          have HO11 : Hid (OItems w11 w.heap.size v9 (ins ⟨FP t, (k : Int), t, 1⟩ l)) := FINAL.out v9 _ w9 w10 w11 ho9 u9 u10 hw11
          rw [hw11]
          clear hw11 hset hbx10 z0 z1 z2 y0 y1 y2 j0 j1 j2 j3 h0 h1 h2 h3 g0 g1 g2 g3
          go_wp2_with fail
          exact bodyPost_ret (v := .tuple #[v9, .agg #[.bool true, .int .i64 (FP t), .int .i64 (k : Int)], .int .i64 0]) (by simp [results, Try.results20, go_sem, s0, s1, s2]) rfl
            ⟨v9, by rw [← HR.out, HN.out]; rfl, by rw [← HR.out, HN.out]; exact HO11.out, HU11.out⟩
      · subst hpl hpl2
        clear hN
        go_wp2_with fail
        go_region_held3 (fun U => U.cell? ⟨X, 0, none⟩ = some (.int .i64 (FP t)) ∧ U.cell? ⟨X, 1, none⟩ = some (.int .i64 (k : Int)) ∧ U.cell? ⟨X, 2, none⟩ = some (.string (bs t)) ∧ U.cell? ⟨X, 3, none⟩ = some (.int .i64 1)) (go_keep) (first
          | (go_at_call 25; ((refine (HCLN.out _ (by first | exact Up.drew _ | exact (Up.drew _).trans (Up.alloc _ _))).mono ?_); rintro e w8 ⟨v8, rfl, ho8, u8⟩; have u8' : Up w7 w8 := (by first | exact (Up.drew _).trans u8 | exact ((Up.drew _).trans (Up.alloc _ _)).trans u8); have g0 := (Below.cell u8' (p := ⟨X, 0, none⟩) q4).trans q0; have g1 := (Below.cell u8' (p := ⟨X, 1, none⟩) q4).trans q1; have g2 := (Below.cell u8' (p := ⟨X, 2, none⟩) q4).trans q2; have g3 := (Below.cell u8' (p := ⟨X, 3, none⟩) q4).trans q3))
          | (go_at_call 46; (first
            | (have ua := u8; change Up w7.drew w8 at ua; (refine (HLAST.out v8 w7.drew (w8.alloc (.cells #[.int .i64 (FP t), .int .i64 (k : Int), .string (bs t), .int .i64 1] 43)) _ w8.heap.size (Up.drew _) (Nat.le_trans u8'.size (Up.alloc _ _).size) (ho8.up (Up.alloc _ _)) (heap_alloc_new w8 _) (fun e => Nat.lt_irrefl _ (World.ownsRow.lt ho8 _ e).2) (u8'.trans (Up.alloc _ _)) rfl).mono ?_); rintro e w9 ⟨v9, rfl, ho9, u9⟩; have h0 := (Below.cell u9 (p := ⟨X, 0, none⟩) q4).trans q0; have h1 := (Below.cell u9 (p := ⟨X, 1, none⟩) q4).trans q1; have h2 := (Below.cell u9 (p := ⟨X, 2, none⟩) q4).trans q2; have h3 := (Below.cell u9 (p := ⟨X, 3, none⟩) q4).trans q3)
            | (have ua := u8; change Up (w7.drew.alloc (.cells #[.int .i64 (FP t), .int .i64 (k : Int), .string (bs t), .int .i64 1] 43)) w8 at ua; (refine (HLAST.out v8 (w7.drew.alloc (.cells #[.int .i64 (FP t), .int .i64 (k : Int), .string (bs t), .int .i64 1] 43)) w8 _ w7.heap.size ((Up.drew _).trans (Up.alloc _ _)) u8.size ho8 (RowI.up (heap_alloc_new w7.drew _) ua) (fun e => HNB.out w7.drew _ _ (World.ownsRow.lt ho8 _ e).1 rfl) u8' rfl).mono ?_); rintro e w9 ⟨v9, rfl, ho9, u9⟩; have h0 := (Below.cell u9 (p := ⟨X, 0, none⟩) q4).trans q0; have h1 := (Below.cell u9 (p := ⟨X, 1, none⟩) q4).trans q1; have h2 := (Below.cell u9 (p := ⟨X, 2, none⟩) q4).trans q2; have h3 := (Below.cell u9 (p := ⟨X, 3, none⟩) q4).trans q3)))
          | (go_at_call 40; ((with_reducible refine (HIN.out _).mono ?_); rintro e w10 ⟨rfl, u10⟩; have u10' := u9.trans u10; have j0 := (Below.cell u10' (p := ⟨X, 0, none⟩) q4).trans q0; have j1 := (Below.cell u10' (p := ⟨X, 1, none⟩) q4).trans q1; have j2 := (Below.cell u10' (p := ⟨X, 2, none⟩) q4).trans q2; have j3 := (Below.cell u10' (p := ⟨X, 3, none⟩) q4).trans q3; have hbx10 := HID7.out.up u10'; obtain ⟨z0, z1, z2⟩ := hbx10.cells; have y0 := hbx10.frozen 0; have y1 := hbx10.frozen 1; have y2 := hbx10.frozen 2)))
        all_goals
          have hset := hbx10.set (.bool true) (.int .i64 (FP t)) (.int .i64 (k : Int))
          obtain ⟨w11, hw11⟩ : ∃ w11, ((w10.setCell ⟨w.heap.size, 0, none⟩ (.bool true)).setCell ⟨w.heap.size, 1, none⟩ (.int .i64 (FP t))).setCell ⟨w.heap.size, 2, none⟩ (.int .i64 (k : Int)) = w11 := ⟨_, rfl⟩
          rw [hw11] at hset
          obtain ⟨s0, s1, s2⟩ := hset.cells
          have HU11 : Hid (Up w w11) := by
            show Up w w11
            rw [← hw11]
            exact ((Below.setCell (HU7.out.trans u10') (p := ⟨w.heap.size, 0, none⟩) (Nat.le_refl _) _).setCell (p := ⟨w.heap.size, 1, none⟩) (Nat.le_refl _) _).setCell (p := ⟨w.heap.size, 2, none⟩) (Nat.le_refl _) _
          have HO11 : Hid (OItems w11 w.heap.size v9 (ins ⟨FP t, (k : Int), t, 1⟩ l)) := FINAL.out v9 _ w9 w10 w11 ho9 u9 u10 hw11
          rw [hw11]
          clear hw11 hset hbx10 z0 z1 z2 y0 y1 y2 j0 j1 j2 j3 h0 h1 h2 h3 g0 g1 g2 g3
          go_wp2_with fail
          exact bodyPost_ret (v := .tuple #[v9, .agg #[.bool true, .int .i64 (FP t), .int .i64 (k : Int)], .int .i64 0]) (by simp [results, Try.results20, go_sem, s0, s1, s2]) rfl
            ⟨v9, by rw [← HR.out, HN.out]; rfl, by rw [← HR.out, HN.out]; exact HO11.out, HU11.out⟩

/-! ytabhalajelbfoaa# Put -/

theorem put_eq (l : List Itm) (t : List UInt8) : WoolBag.put FP l t = if chk FP l ≠ 0 then ([], noId, chk FP l) else if 64 < t.length then ([], noId, 2) else match idx (txtB t) l with | some i => reuseV l i | none => createV l t := by
  unfold WoolBag.put reuseV createV
  rfl

set_option maxRecDepth 100000 in
set_option maxHeartbeats 1000000 in
theorem put_any (v : Value) (l : List Itm) (t : List UInt8) (w : World) (h : Items w v l) :
    Calls Try.prog 5 #[v, .string (bs t)] w (PutPost w (WoolBag.put FP l t)) := by
  obtain ⟨R, hR⟩ : ∃ R, WoolBag.put FP l t = R := ⟨_, rfl⟩
  rw [hR]
  rw [put_eq] at hR
  have HX := Lib.hid h
  have hsz := bs_size t
  have HC := Lib.hid (fun W (hW : Up w W) => check_any v l W (h.up hW))
  obtain ⟨C, hC⟩ : ∃ C, chk FP l = C := ⟨_, rfl⟩
  rw [hC] at hR
  have HCC := Lib.hid hC
  obtain ⟨o, c, rfl, h3⟩ := h.slice
  unfold maxLen at h3
  clear hC h
  have HR := Lib.hid hR
  have HSZ := Lib.hid hsz
  clear hR hsz
  go_enter Try.func5, Try.ntmps5
  go_wp2_with fail
  refine (HC.out _ (Up.alloc _ _)).mono ?_
  rintro e w1 ⟨rfl, u1⟩
  rw [HCC.out]
  have hbx1 := BoxI.up (BoxI.new w 29 (.bool false) (.int .i64 0) (.int .i64 0)) u1
  have HBX1 := Lib.hid hbx1
  have HU1 : Hid (Up w w1) := Up.after _ _ _ u1
  obtain ⟨z0, z1, z2⟩ := hbx1.cells
  have y0 := hbx1.frozen 0
  have y1 := hbx1.frozen 1
  have y2 := hbx1.frozen 2
  have hzero := hbx1.set (.bool false) (.int .i64 0) (.int .i64 0)
  obtain ⟨w1z, hw1z⟩ : ∃ w1z, ((w1.setCell ⟨w.heap.size, 0, none⟩ (.bool false)).setCell ⟨w.heap.size, 1, none⟩ (.int .i64 0)).setCell ⟨w.heap.size, 2, none⟩ (.int .i64 0) = w1z := ⟨_, rfl⟩
  rw [hw1z] at hzero
  obtain ⟨s0, s1, s2⟩ := hzero.cells
  have HUZ : Hid (Up w w1z) := by
    show Up w w1z
    rw [← hw1z]
    exact ((Below.setCell HU1.out (p := ⟨w.heap.size, 0, none⟩) (Nat.le_refl _) _).setCell (p := ⟨w.heap.size, 1, none⟩) (Nat.le_refl _) _).setCell (p := ⟨w.heap.size, 2, none⟩) (Nat.le_refl _) _
  have HW1Z := Lib.hid hw1z
  clear hbx1 u1 hzero hw1z
  by_cases h0 : C ≠ 0
  · have hr := HR.out
    rw [if_pos h0] at hr
    have HRV := Lib.hid hr
    have hne : (C != 0) = true := by rw [bne_iff_ne]; exact h0
    clear hr h0
    go_wp2_with fail
    rw [HW1Z.out]
    exact bodyPost_ret (v := .tuple #[.slice none 0 0, .agg #[.bool false, .int .i64 0, .int .i64 0], .int .i64 C]) (by simp [results, Try.results5, go_sem, s0, s1, s2]) rfl
      ⟨_, by rw [← HRV.out]; rfl, by rw [← HRV.out]; exact OItems.nil _ _, HUZ.out⟩
  have h0' := Decidable.not_not.1 h0
  clear h0
  subst h0'
  have hbag := (chk_zero FP).1 HCC.out
  have HBAG := Lib.hid hbag
  clear hbag
  by_cases h1 : 64 < t.length
  · have hr := HR.out
    rw [if_neg (by simp), if_pos h1] at hr
    have HRV := Lib.hid hr
    have hsz := HSZ.out
    rw [← hsz] at h1
    clear hr hsz
    go_wp2_with fail
    rw [HW1Z.out]
    exact bodyPost_ret (v := .tuple #[.slice none 0 0, .agg #[.bool false, .int .i64 0, .int .i64 0], .int .i64 2]) (by simp [results, Try.results5, go_sem, s0, s1, s2]) rfl
      ⟨_, by rw [← HRV.out]; rfl, by rw [← HRV.out]; exact OItems.nil _ _, HUZ.out⟩
  have hr := HR.out
  rw [if_neg (by simp), if_neg h1] at hr
  have HRV := Lib.hid hr
  have hs1 : (bs t).size ≤ 64 := by rw [HSZ.out]; omega
  have HTL : Hid (t.length ≤ 64) := by show _ ≤ _; omega
  clear hr h1 s0 s1 s2 HW1Z HUZ
  go_wp2_with fail
  refine (hasText_make t _).mono ?_
  rintro e w2 ⟨lb, rfl, u2, hp2⟩
  have HIX := Lib.hid (indexF _ l w2 _ lb _ eg_text (HX.out.up (HU1.out.trans u2)) hp2)
  have HU2 := Lib.hid u2
  clear u2 hp2
  go_wp2_with fail
  refine HIX.out.mono ?_
  rintro e w3 ⟨rfl, u3⟩
  have hw3 := HU2.out.trans u3
  have HU3 := Lib.hid (HU1.out.trans hw3)
  have HBX3 := Lib.hid (HBX1.out.up hw3)
  clear u3 hw3 HU2 HIX z0 z1 z2 y0 y1 y2
  -- the end of both ways
  have hend : ∀ (w4 w5 : World) (L : List Itm) (i : Bool × Int × Int) (E : Int) (v4 : Value), (L, i, E) = R → OItems w4 w3.heap.size v4 L → Up w3 w4 → ((w4.setCell ⟨w.heap.size, 0, none⟩ (.bool i.1)).setCell ⟨w.heap.size, 1, none⟩ (.int .i64 i.2.1)).setCell ⟨w.heap.size, 2, none⟩ (.int .i64 i.2.2) = w5 →
      BoxI w5 w.heap.size 29 (.bool i.1) (.int .i64 i.2.1) (.int .i64 i.2.2) ∧ OItems w5 w.heap.size v4 L ∧ Up w w5 := by
    intro w4 w5 L i E v4 _ ho u4 hw
    have hb4 := HBX3.out.up u4
    have hs := hb4.set (.bool i.1) (.int .i64 i.2.1) (.int .i64 i.2.2)
    rw [hw] at hs
    refine ⟨hs, (OItems.keep ho fun b hbb => ?_).base HU3.out.size, ?_⟩
    · have hb1 := (World.ownsRow.lt ho b hbb).1
      have hne : w.heap.size ≠ b := by have := HBX3.out.lt; omega
      rw [← hw]
      simp [World.setCell, Array.getElem?_modify, hne]
    · rw [← hw]
      exact ((Below.setCell (HU3.out.trans u4) (p := ⟨w.heap.size, 0, none⟩) (Nat.le_refl _) _).setCell (p := ⟨w.heap.size, 1, none⟩) (Nat.le_refl _) _).setCell (p := ⟨w.heap.size, 2, none⟩) (Nat.le_refl _) _
  have HEND := Lib.hid hend
  clear hend
  unfold ixI
  cases hi : idx (txtB t) l with
  | some k =>
    have hkl := (idx_some hi).1
    have HCALL := Lib.hid (reuse_any (.slice o l.length c) l k w3 (HX.out.up HU3.out) HBAG.out hkl)
    have hr := HRV.out
    rw [hi] at hr
    simp only at hr
    rw [hr] at HCALL
    clear hi hr
    simp only
    go_wp2_with fail
    refine HCALL.out.mono ?_
    rintro e w4 ⟨v4, rfl, ho4, u4⟩
    have hb4 := HBX3.out.up u4
    obtain ⟨z0, z1, z2⟩ := hb4.cells
    have y0 := hb4.frozen 0
    have y1 := hb4.frozen 1
    have y2 := hb4.frozen 2
    obtain ⟨L, ⟨ib, is, iN⟩, E⟩ := R
    unfold idV
    simp only at ho4 ⊢
    obtain ⟨w5, hw5⟩ : ∃ w5, ((w4.setCell ⟨w.heap.size, 0, none⟩ (.bool ib)).setCell ⟨w.heap.size, 1, none⟩ (.int .i64 is)).setCell ⟨w.heap.size, 2, none⟩ (.int .i64 iN) = w5 := ⟨_, rfl⟩
    obtain ⟨hb5, ho5, hu5⟩ := HEND.out w4 w5 L (ib, is, iN) E v4 rfl ho4 u4 hw5
    obtain ⟨s0, s1, s2⟩ := hb5.cells
    simp only at s0 s1 s2
    have HW5 := Lib.hid hw5
    have HO5 := Lib.hid ho5
    have HU5 := Lib.hid hu5
    clear hw5 ho5 hu5 hb5 hb4 ho4 u4
    go_wp2_with fail
    rw [HW5.out]
    exact bodyPost_ret (v := .tuple #[v4, .agg #[.bool ib, .int .i64 is, .int .i64 iN], .int .i64 E]) (by simp [results, Try.results5, go_sem, s0, s1, s2]) rfl
      ⟨v4, rfl, HO5.out, HU5.out⟩
  | none =>
    have HCALL := Lib.hid (create_any (.slice o l.length c) l t w3 (HX.out.up HU3.out) HBAG.out HTL.out)
    have hr := HRV.out
    rw [hi] at hr
    simp only at hr
    rw [hr] at HCALL
    clear hi hr
    simp only
    go_wp2_with fail
    refine HCALL.out.mono ?_
    rintro e w4 ⟨v4, rfl, ho4, u4⟩
    have hb4 := HBX3.out.up u4
    obtain ⟨z0, z1, z2⟩ := hb4.cells
    have y0 := hb4.frozen 0
    have y1 := hb4.frozen 1
    have y2 := hb4.frozen 2
    obtain ⟨L, ⟨ib, is, iN⟩, E⟩ := R
    unfold idV
    simp only at ho4 ⊢
    obtain ⟨w5, hw5⟩ : ∃ w5, ((w4.setCell ⟨w.heap.size, 0, none⟩ (.bool ib)).setCell ⟨w.heap.size, 1, none⟩ (.int .i64 is)).setCell ⟨w.heap.size, 2, none⟩ (.int .i64 iN) = w5 := ⟨_, rfl⟩
    obtain ⟨hb5, ho5, hu5⟩ := HEND.out w4 w5 L (ib, is, iN) E v4 rfl ho4 u4 hw5
    obtain ⟨s0, s1, s2⟩ := hb5.cells
    simp only at s0 s1 s2
    have HW5 := Lib.hid hw5
    have HO5 := Lib.hid ho5
    have HU5 := Lib.hid hu5
    clear hw5 ho5 hu5 hb5 hb4 ho4 u4
    go_wp2_with fail
    rw [HW5.out]
    exact bodyPost_ret (v := .tuple #[v4, .agg #[.bool ib, .int .i64 is, .int .i64 iN], .int .i64 E]) (by simp [results, Try.results5, go_sem, s0, s1, s2]) rfl
      ⟨v4, rfl, HO5.out, HU5.out⟩

end Go.Proofs.Ytabhalajelbfoaa

/-
  What the helpers of the laws on bags return: two, refs, used, and slices.Equal of two rows of items that read alike. Conditions: as each says.
-/
namespace Go.Proofs.Ytabhalajelbfoaa
open Go.RowKit
open Go.Proofs
open WoolBag

/-- the two blocks -/
def one1 : List Itm := (WoolBag.put FP [] [97]).1
def twoL : List Itm := (WoolBag.put FP one1 [98]).1

theorem one_put : ∃ i, WoolBag.put FP [] [97] = (one1, i, 0) ∧ ∀ x ∈ one1, x.t = [97] := by
  have h := put_new (F := FP) (l := []) (t := [97]) Bag.nil (by simp) (by simp) (by simp)
  refine ⟨idOf (new FP [] [97]), ?_, ?_⟩
  · unfold one1; rw [h]
  · unfold one1; rw [h]
    intro x hx
    rcases mem_ins.1 hx with rfl | hx
    · rfl
    · simp at hx

theorem one_len : one1.length = 1 := by
  obtain ⟨i, h, _⟩ := one_put
  rw [length_put h, if_neg (by simp)]; rfl

theorem two_put : ∃ i, WoolBag.put FP one1 [98] = (twoL, i, 0) := by
  obtain ⟨i, h, ht⟩ := one_put
  have h2 := put_new (F := FP) (l := one1) (t := [98]) (put_spec h).1 (by simp) (fun x hx e => by rw [ht x hx] at e; cases e) (by rw [one_len]; omega)
  exact ⟨idOf (new FP one1 [98]), by unfold twoL; rw [h2]⟩

theorem two_bag : Bag FP twoL := by
  obtain ⟨i, h⟩ := two_put
  exact (put_spec h).1

theorem two_len : twoL.length = 2 := by
  obtain ⟨i, h⟩ := two_put
  obtain ⟨j, h1, ht⟩ := one_put
  rw [length_put h, one_len, if_neg (by rintro ⟨x, hx, e⟩; rw [ht x hx] at e; cases e)]

def EqIRel (N : Nat) (w : World) (i : Value) (wr : World) : Prop := ∃ k : Nat, k ≤ N ∧ i = .int .i64 k ∧ Up w wr

def RefsRel (l : List Itm) (w : World) (n i : Value) (wr : World) : Prop :=
  ∃ k : Nat, k ≤ l.length ∧ i = .int .i64 k ∧ n = .int .i64 (refs (l.take k)) ∧ Up w wr

def UsedRel (l : List Itm) (u : List UInt8) (w : World) (i : Value) (wr : World) : Prop :=
  ∃ k : Nat, k ≤ l.length ∧ i = .int .i64 k ∧ Up w wr ∧ ∀ j (h : j < l.length), j < k → txtB u l[j] = false

end Go.Proofs.Ytabhalajelbfoaa

/-
  What Put, Get, Drop, Check and two return, in the form that the laws' walks take. Conditions: as each says.
-/
namespace Go.Proofs.Ytabhalajelbfoaa
open Go.RowKit
open Go.Proofs
open WoolBag

/-- what Put answers, opened -/
theorem put_open (v : Value) (l : List Itm) (t : List UInt8) (w : World) (h : Items w v l) (A : List Itm) (ib : Bool) (is iN E : Int) (hP : WoolBag.put FP l t = (A, (ib, is, iN), E)) :
    Calls Try.prog 5 #[v, .string (bs t)] w fun e w' => ∃ o c, e = .returned (.tuple #[.slice o A.length c, .agg #[.bool ib, .int .i64 is, .int .i64 iN], .int .i64 E]) ∧ OItems w' w.heap.size (.slice o A.length c) A ∧ Up w w' := by
  refine (put_any v l t w h).mono ?_
  rintro e w' ⟨v', rfl, ho, hu⟩
  rw [hP] at ho ⊢
  obtain ⟨o, c, rfl, _⟩ := ho.items.slice
  exact ⟨o, c, rfl, ho, hu⟩

theorem checkB_ok (v : Value) (l : List Itm) (w : World) (h : Items w v l) (hb : Bag FP l) :
    Calls Try.prog 16 #[v] w fun e w' => e = .returned (.int .i64 0) ∧ Up w w' := by
  have := check_any v l w h
  rw [(chk_zero FP).2 hb] at this
  exact this

theorem self_eq (s : List UInt8) : ((bs s).toList == (bs s).toList) = true := by rw [txt_eq]; simp

theorem drop_open (v : Value) (l : List Itm) (ib : Bool) (is iN : Int) (w : World) (h : Items w v l) (B : List Itm) (E : Int) (hd : WoolBag.drop FP l (ib, is, iN) = (B, E)) :
    Calls Try.prog 8 #[v, .agg #[.bool ib, .int .i64 is, .int .i64 iN]] w fun e w' => ∃ o c, e = .returned (.tuple #[.slice o B.length c, .int .i64 E]) ∧ OItems w' w.heap.size (.slice o B.length c) B ∧ Up w w' := by
  refine (drop_any v l (ib, is, iN) w h).mono ?_
  rintro e w' ⟨v', rfl, ho, hu⟩
  rw [hd] at ho ⊢
  obtain ⟨o, c, rfl, _⟩ := ho.items.slice
  exact ⟨o, c, rfl, ho, hu⟩

end Go.Proofs.Ytabhalajelbfoaa
