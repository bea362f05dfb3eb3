/-
  The texts Shelf, Clone, Bag5, one behind the other; each says below what it holds and on what conditions.
-/
import Derived.Shelf.LaysM
import Derived.Shelf.Strconv.Clone
import Derived.Test.YtcbppfndlagodaaGreatDoorProg
import Derived.Test.YtcbppfndlagodaaGreatDoorJVolWrites01
import Derived.Test.YtcbppfndlagodaaGreatDoorJVolWrites15

/-
  Contracts of library functions at this program, each one application of a theorem of the library: what is proved is what each says. Conditions: as each says.
-/
namespace Go.Proofs
open Go.Shelf
def Tryz.laysM316_ren : Go.Shelf.Ren := ⟨fun | 316 => 82 | n => n, fun | 9 => 9 | 3 => 3 | 4 => 4 | 37 => 154 | 0 => 0 | 127 => 155 | 5 => 5 | n => n, fun | n => n⟩
theorem Tryz.laysM316 : Go.Proofs.LaysM.n316 Tryz.prog Tryz.laysM316_ren := {
  mixed := by kernel_rfl
  f316 := Tryz.func82.trans (congrArg some (by kernel_rfl))
  t0 := Tryz.underlying0
  a0 := Tryz.isAgg0
  z0 := Tryz.sizeOf0
  v0 := Tryz.zeroValue0
  t3 := Tryz.underlying3
  a3 := Tryz.isAgg3
  z3 := Tryz.sizeOf3
  v3 := Tryz.zeroValue3
  t4 := Tryz.underlying4
  a4 := Tryz.isAgg4
  z4 := Tryz.sizeOf4
  v4 := Tryz.zeroValue4
  t9 := Tryz.underlying9
  a9 := Tryz.isAgg9
  z9 := Tryz.sizeOf9
  v9 := Tryz.zeroValue9
  t37 := Tryz.underlying154
  a37 := Tryz.isAgg154
  z37 := Tryz.sizeOf154
  v37 := Tryz.zeroValue154
  t127 := Tryz.underlying155
  a127 := Tryz.isAgg155
  z127 := Tryz.sizeOf155
  v127 := Tryz.zeroValue155
  t5 := Tryz.underlying5
  a5 := Tryz.isAgg5
  z5 := Tryz.sizeOf5
  v5 := Tryz.zeroValue5
  i0 := by kernel_rfl
  i3 := by kernel_rfl
  i4 := by kernel_rfl
  i5 := by kernel_rfl
  i9 := by kernel_rfl
  i37 := by kernel_rfl
  i127 := by kernel_rfl }
open Go.RowKit in
theorem Tryz.stringslite_Clone (s : ByteArray) (w : World) (hlim : s.size ≤ 281474976710656) :
    Calls Tryz.prog 82 #[.string s] w fun e w' => e = .returned (.string s) ∧ Below w.heap.size w w' := Any.stringslite_Clone Tryz.laysM316 s w hlim
end Go.Proofs

/-
  What strings.Clone returns: the text. Condition: at most 1000 bytes.
-/
namespace Go.Proofs.YtcbppfndlagodaaGreatDoor
open Go.RowKit
open Go.Proofs

theorem clone_str (s : ByteArray) (w : World) (hlim : s.size ≤ 1000) :
    Calls Tryz.prog 53 #[.string s] w fun e w' => e = .returned (.string s) ∧ Up w w' := by
  go_enter Tryz.func53, Tryz.ntmps53
  go_wp2_with fail
  refine (Tryz.stringslite_Clone s _ (by omega)).mono ?_
  rintro e w1 ⟨rfl, u1⟩
  have HU : Up w w1 := u1
  clear u1
  go_wp2_with fail
  go_ret
  exact ⟨rfl, HU⟩

end Go.Proofs.YtcbppfndlagodaaGreatDoor

/-
  What find and Get of package bag return. Condition: the row can be read.
-/
namespace Go.Proofs.YtcbppfndlagodaaGreatDoor
open Go.RowKit
open Go.Proofs
open WoolBag

/-- what find answers, as the two results -/
def findR (l : List Itm) (i : Bool × Int × Int) : Value := .tuple #[.int .i64 ((find FP l i).1 : Int), .int .i64 (find FP l i).2]

set_option maxRecDepth 100000 in
set_option maxHeartbeats 1000000 in
theorem find_any (v : Value) (l : List Itm) (i : Bool × Int × Int) (w : World) (h : Items w v l) :
    Calls Tryz.prog 85 #[v, idV i] w fun e w' => e = .returned (findR l i) ∧ Up w w' := by
  obtain ⟨R, hR⟩ : ∃ R, findR l i = R := ⟨_, rfl⟩
  rw [hR]
  have HR := Lib.hid hR
  have HX := Lib.hid h
  have HC := Lib.hid (fun W (hW : Up w W) => check_any v l W (h.up hW))
  obtain ⟨o, c, rfl, h3⟩ := h.slice
  unfold maxLen at h3
  obtain ⟨C, hC⟩ : ∃ C, chk FP l = C := ⟨_, rfl⟩
  have HCC := Lib.hid hC
  have HM := Lib.hid (hasId_make i)
  have hix := fun W (hW : Up w W) => indexF (.slice o l.length c) l W 134
  unfold idV at HM ⊢
  obtain ⟨ib, is, iN⟩ := i
  simp only at HM ⊢
  clear hR hC h hix
  go_enter Tryz.func85, Tryz.ntmps85
  go_wp2_with fail
  refine (HC.out _ (Up.alloc _ _)).mono ?_
  rintro e w1 ⟨rfl, u1⟩
  rw [HCC.out]
  have HU1 : Hid (Up w w1) := Up.after _ _ _ u1
  have hbx := BoxI.up (BoxI.new w 49 (.bool ib) (.int .i64 is) (.int .i64 iN)) u1
  obtain ⟨c0, c1, c2⟩ := hbx.cells
  clear hbx u1
  by_cases h0 : C = 0
  · subst h0
    go_wp2_with fail
    refine (HM.out _).mono ?_
    rintro e w2 ⟨lb, rfl, u2, hp⟩
    have hcall := indexF (.slice o l.length c) l w2 134 lb _ eg_id (HX.out.up (HU1.out.trans u2)) hp
    have HCALL := Lib.hid hcall
    clear hcall hp
    go_wp2_with fail
    refine HCALL.out.mono ?_
    rintro e w3 ⟨rfl, u3⟩
    unfold ixI
    cases hi : idx (idB (ib, is, iN)) l with
    | some k =>
      have HRR : Hid (R = .tuple #[.int .i64 (k : Int), .int .i64 0]) := by
        show _ = _
        rw [← HR.out]; unfold findR find
        rw [if_neg (by simp [HCC.out]), hi]
      clear hi
      simp only
      go_wp2_with fail
      go_ret2
      exact ⟨by rw [HRR.out]; rfl, (HU1.out.trans u2).trans u3⟩
    | none =>
      have HRR : Hid (R = .tuple #[.int .i64 0, .int .i64 4]) := by
        show _ = _
        rw [← HR.out]; unfold findR find
        rw [if_neg (by simp [HCC.out]), hi]
        rfl
      clear hi
      simp only
      go_wp2_with fail
      go_ret2
      exact ⟨by rw [HRR.out]; rfl, (HU1.out.trans u2).trans u3⟩
  · have hne : (C != 0) = true := by rw [bne_iff_ne]; exact h0
    have HRR : Hid (R = .tuple #[.int .i64 0, .int .i64 C]) := by
      show _ = _
      rw [← HR.out]; unfold findR find
      rw [if_pos (by rw [HCC.out]; exact h0), HCC.out]
      rfl
    clear h0
    go_wp2_with fail
    go_ret2
    exact ⟨by rw [HRR.out]; rfl, HU1.out⟩

theorem find_lt {l : List Itm} {i : Bool × Int × Int} (h : (find FP l i).2 = 0) : (find FP l i).1 < l.length ∧ Bag FP l ∧ idB i l[(find FP l i).1]! = true := by
  unfold find at h ⊢
  by_cases hc : chk FP l ≠ 0
  · rw [if_pos hc] at h; exact absurd h hc
  · rw [if_neg hc] at h ⊢
    cases hi : idx (idB i) l with
    | none => rw [hi] at h; cases h
    | some k =>
      obtain ⟨h1, h2, _⟩ := idx_some hi
      simp only
      refine ⟨h1, (chk_zero _).1 (by simpa using hc), ?_⟩
      rw [getElem!_pos l k h1]; exact h2

/-- what Get answers, as the two results -/
def getBR (l : List Itm) (i : Bool × Int × Int) : Value := .tuple #[.string (bs (WoolBag.get FP l i).1), .int .i64 (WoolBag.get FP l i).2]

set_option maxRecDepth 100000 in
set_option maxHeartbeats 1000000 in
theorem get_any (v : Value) (l : List Itm) (i : Bool × Int × Int) (w : World) (h : Items w v l) :
    Calls Tryz.prog 102 #[v, idV i] w fun e w' => e = .returned (getBR l i) ∧ Up w w' := by
  obtain ⟨R, hR⟩ : ∃ R, getBR l i = R := ⟨_, rfl⟩
  rw [hR]
  have HR := Lib.hid hR
  have hfi := Lib.hid (fun W (hW : Up w W) => find_any v l i W (h.up hW))
  unfold findR at hfi
  have HL := Lib.hid (find_lt (l := l) (i := i))
  unfold getBR WoolBag.get at hR
  obtain ⟨K, hK⟩ : ∃ K, (find FP l i).1 = K := ⟨_, rfl⟩
  obtain ⟨E, hE⟩ : ∃ E, (find FP l i).2 = E := ⟨_, rfl⟩
  rw [hK, hE] at hfi HL hR
  have HRR := Lib.hid hR
  obtain ⟨o, c, rfl, h2, h3, h4⟩ := h
  unfold maxLen at h3
  have H4 := Lib.hid h4
  unfold idV at hfi ⊢
  obtain ⟨ib, is, iN⟩ := i
  simp only at hfi ⊢
  clear hR hK hE h4
  go_enter Tryz.func102, Tryz.ntmps102
  go_wp2_with fail
  refine (hfi.out _ (Up.alloc _ _)).mono ?_
  rintro e w1 ⟨rfl, u1⟩
  have HU1 : Hid (Up w w1) := Up.after _ _ _ u1
  clear u1
  by_cases h0 : E = 0
  · subst h0
    obtain ⟨hk, hbag, _⟩ := HL.out rfl
    have ht := (hbag.ok _ (List.getElem_mem hk)).1
    rcases H4.out with h5 | ⟨b, off, rfl, h5⟩
    · rw [h5] at hk; simp at hk
    obtain ⟨_, _, a3, _⟩ := h5 K hk
    rw [← HU1.out.cell (World.block_lt_of_cell? w _ a3)] at a3
    have hr := HRR.out
    rw [if_pos rfl] at hr
    simp only at hr
    rw [getElem!_pos l K hk] at hr
    have HT : Hid ((bs l[K].t).size ≤ 1000) := by show (bs l[K].t).size ≤ 1000; rw [bs_size]; omega
    generalize bs l[K].t = T at a3 hr HT
    have HRV := Lib.hid hr
    clear h5 hbag ht hr
    go_wp2_with fail
    refine (clone_str T _ HT.out).mono ?_
    rintro e w2 ⟨rfl, u2⟩
    go_wp2_with fail
    go_ret2
    exact ⟨by rw [← HRV.out]; rfl, HU1.out.trans u2⟩
  · have hr := HRR.out
    rw [if_neg h0] at hr
    have HRV := Lib.hid hr
    have hne : (E != 0) = true := by rw [bne_iff_ne]; exact h0
    clear hr h0
    go_wp2_with fail
    go_ret2
    exact ⟨by rw [← HRV.out]; rfl, HU1.out⟩

end Go.Proofs.YtcbppfndlagodaaGreatDoor
