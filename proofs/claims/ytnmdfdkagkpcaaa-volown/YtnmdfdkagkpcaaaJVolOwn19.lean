/-
  The texts VolD, Shelf, Clone, Bag5, one behind the other; each says below what it holds and on what conditions.
-/
import Derived.Test.YtnmdfdkagkpcaaaJVolOwn18
import Derived.Shelf.LaysM
import Derived.Shelf.Strconv.Clone
import Derived.Test.YtnmdfdkagkpcaaaProg
import Derived.Test.YtnmdfdkagkpcaaaJVolOwn01
import Derived.Test.YtnmdfdkagkpcaaaJVolOwn17

/-
  What vol's Check returns. Conditions: identifiers of numbers that fit, names that fit in memory.
-/
namespace Go.Proofs.Ytnmdfdkagkpcaaa
open Go.RowKit
open Go.Proofs
open Go.Maps
open WoolBag
open WoolVol

def VKRel (st : Sta) (B : Nat) (W0 : World) (bf i : Value) (wr : World) : Prop :=
  ∃ (k : Nat) (p : List UInt8), k ≤ st.v.length ∧ i = .int .i64 k ∧ bf = .string (bs p) ∧ Uses wr B (64 + 32 * k) st.b (ids (st.v.take k)) ∧ Up W0 wr ∧ (ids (st.v.take k)).length ≤ 32 * k ∧ chkVs st.b [] st.v = chkVs st.b p (st.v.drop k)

theorem ids_snoc (vs : List Vo) (k : Nat) (hk : k < vs.length) : ids (vs.take (k + 1)) = ids (vs.take k) ++ vs[k].bl := by
  unfold ids
  rw [List.take_succ_eq_append_getElem hk, List.map_append, List.flatten_append]
  simp

theorem chkV_len {l : List Itm} {p : List UInt8} {x : Vo} (h : chkV l p x = 0) : x.bl.length ≤ 32 := by
  unfold chkV at h
  by_cases h1 : (!(nameB x.nm) || sle x.nm p) = true
  · rw [if_pos h1] at h; omega
  · rw [if_neg h1] at h
    by_cases h2 : 32 < x.bl.length
    · rw [if_pos h2] at h; omega
    · omega

set_option maxRecDepth 100000 in
set_option maxHeartbeats 2000000 in
theorem vcheck_any (v : Value) (st : Sta) (w : World) (h : Stat w v st) (hwf : WfS st) :
    Calls Try.prog 13 #[v] w fun e w' => e = .returned (.int .i64 (chkS FP st)) ∧ Up w w' := by
  obtain ⟨vb, vv, rfl, hb, hv⟩ := h
  obtain ⟨oB, cB, rfl, hcB⟩ := hb.slice
  obtain ⟨oV, cV, rfl, hV1, hV2⟩ := hv.slice
  unfold maxLen at hcB hV2
  have HBI := Lib.hid hb
  have HVI := Lib.hid hv
  have HWF := Lib.hid hwf
  obtain ⟨E, hE⟩ : ∃ E, chkS FP st = E := ⟨_, rfl⟩
  rw [hE]
  have HE := Lib.hid hE
  have HBC := Lib.hid (fun W (hW : Up w W) => check_any _ st.b W (hb.up hW))
  clear hE hb hv hwf
  obtain ⟨R0, hR0⟩ : ∃ R0, chk FP st.b = R0 := ⟨_, rfl⟩
  have HR0 := Lib.hid hR0
  rw [hR0] at HBC
  clear hR0
  obtain ⟨N, hN⟩ : ∃ N, st.v.length = N := ⟨_, rfl⟩
  have HN := Lib.hid hN
  rw [hN] at hV1 ⊢
  rw [hN] at HVI
  obtain ⟨M, hM⟩ : ∃ M, st.b.length = M := ⟨_, rfl⟩
  rw [hM] at HBI HBC ⊢
  clear hN hM
  go_enter Try.func13, Try.ntmps13
  go_wp2_with fail
  refine (HBC.out _ (Up.alloc _ _)).mono ?_
  rintro e w1 ⟨rfl, u1⟩
  have hsz : w.heap.size < (w.alloc (.cells #[.slice oB M cB, .slice oV N cV] 31)).heap.size := by simp
  have b0 := (Below.cell u1 (p := ⟨w.heap.size, 0, none⟩) hsz).trans (World.cell?_alloc_new w #[.slice oB M cB, .slice oV N cV] 31 0)
  have b1 := (Below.cell u1 (p := ⟨w.heap.size, 1, none⟩) hsz).trans (World.cell?_alloc_new w #[.slice oB M cB, .slice oV N cV] 31 1)
  have HU0 : Hid (Up (w.alloc (.cells #[.slice oB M cB, .slice oV N cV] 31)) w1) := u1
  have HU1 : Hid (Up w w1) := (Up.alloc _ _).trans u1
  have hsz1 : w.heap.size < w1.heap.size := Nat.lt_of_lt_of_le hsz u1.size
  clear u1 hsz
  by_cases h0 : R0 = 0
  · subst h0
    have hbag : Bag FP st.b := (chk_zero FP).1 HR0.out
    have hlb := hbag.len
    have HUN := Lib.hid (fun W (hW : Up w W) => unused_any _ st.b W (HBI.out.up hW) hbag)
    have HBAG := Lib.hid hbag
    by_cases hbig : 6 < N
    · have HE2 : Hid (E = 2) := by
        have := HE.out
        unfold chkS at this
        rw [HR0.out, HN.out, if_neg (by simp), if_pos hbig] at this
        exact this.symm
      clear HE
      go_wp2_with fail
      go_ret
      exact ⟨by rw [HE2.out]; rfl, HU1.out⟩
    · have hE3 : (if chkVs st.b [] st.v ≠ 0 then chkVs st.b [] st.v else refE st.b (ids st.v)) = E := by
        have := HE.out
        unfold chkS at this
        rw [HR0.out, HN.out, if_neg (by simp), if_neg hbig] at this
        exact this
      have HE3 := Lib.hid hE3
      clear HE hE3 hbag
      go_wp2_with fail
      refine (HUN.out _ HU1.out).mono ?_
      rintro e w2 ⟨B, rfl, hB, hus2, u2⟩
      have HU2 : Hid (Up (w.alloc (.cells #[.slice oB M cB, .slice oV N cV] 31)) w2) := HU0.out.trans u2
      have HB1 : Hid ((w.alloc (.cells #[.slice oB M cB, .slice oV N cV] 31)).heap.size ≤ B) := Nat.le_trans HU0.out.size hB
      have HW0 : Hid (Up w (w.alloc (.cells #[.slice oB M cB, .slice oV N cV] 31))) := Up.alloc _ _
      have HSZ : Hid (w.heap.size < (w.alloc (.cells #[.slice oB M cB, .slice oV N cV] 31)).heap.size) := by show _ < _; simp
      have HUS2 : Hid (Uses w2 B 64 st.b []) := hus2.mono (by omega)
      have HC : Hid (w2.cell? ⟨w.heap.size, 0, none⟩ = some (.slice oB M cB) ∧ w2.cell? ⟨w.heap.size, 1, none⟩ = some (.slice oV N cV)) := ⟨(u2.cell (p := ⟨w.heap.size, 0, none⟩) hsz1).trans b0, (u2.cell (p := ⟨w.heap.size, 1, none⟩) hsz1).trans b1⟩
      have c0 := HC.out.1
      have c1 := HC.out.2
      clear u2 hus2 hB b0 b1
      generalize (w.alloc (.cells #[.slice oB M cB, .slice oV N cV] 31)) = W0 at HU0 HU2 HB1 HW0 HSZ
      go_wp2_with fail
      go_loopw [5, 25] (fun bf i wr => VKRel st B W0 bf i wr) (fun _ i _ => N - (intOf i).toNat)
      case atStart => exact ⟨0, [], Nat.zero_le _, rfl, rfl, by simpa [ids] using HUS2.out, HU2.out, by simp [ids], by simp⟩
      case round =>
        obtain ⟨k, p, hk, rfl, rfl, hus, hu, hlen, hck⟩ := hrel
        rw [HN.out] at hk
        have c0r : wr.cell? ⟨w.heap.size, 0, none⟩ = some (.slice oB M cB) := (hu.cell (p := ⟨w.heap.size, 0, none⟩) HSZ.out).trans ((HU2.out.cell (p := ⟨w.heap.size, 0, none⟩) HSZ.out).symm.trans HC.out.1)
        clear c0 c1
        by_cases hlt : k < N
        · have hkl : k < st.v.length := by rw [HN.out]; exact hlt
          obtain ⟨b, off, rfl, h5⟩ := HVI.out.at (by intro e; rw [e] at hkl; simp at hkl)
          obtain ⟨a1, u, a2, hids⟩ := h5 k hkl
          have HUw : Hid (Up w wr) := HW0.out.trans hu
          have e1 := (HUw.out.cell (World.block_lt_of_cell? w _ a1)).trans a1
          have e2 := (HUw.out.cell (World.block_lt_of_cell? w _ a2)).trans a2
          obtain ⟨hwi, hnm⟩ := HWF.out _ (List.getElem_mem hkl)
          have HT := Lib.hid (ids_snoc st.v k hkl)
          rw [List.drop_eq_getElem_cons hkl] at hck
          have HCK : Hid (chkVs st.b [] st.v = if chkV st.b p st.v[k] = 0 then chkVs st.b st.v[k].nm (st.v.drop (k + 1)) else chkV st.b p st.v[k]) := hck
          have hone : u.oneCell' = true := hids.one
          obtain ⟨o', c', hu', _, _⟩ := hids.slice
          have HCV := Lib.hid (fun W (hW : Up w W) (hW2 : Uses W B (64 + 32 * k) st.b (ids (st.v.take k))) => checkVol_any p st.v[k] u B (64 + 32 * k) st.b (ids (st.v.take k)) W (hids.up hW) hW2 hwi (by omega) (by omega) hnm)
          unfold CVPost at HCV
          have HLL : Hid (chkV st.b p st.v[k] = 0 → (ids (st.v.take (k + 1))).length ≤ 32 * (k + 1)) := fun h0 => by
            have := chkV_len h0
            rw [HT.out, List.length_append]; omega
          obtain ⟨R, hR⟩ : ∃ R, chkV st.b p st.v[k] = R := ⟨_, rfl⟩
          rw [hR] at HCV HCK HLL
          have HUS := Lib.hid hus
          have HU := Lib.hid hu
          have HNM : Hid (∃ q, q = st.v[k].nm) := ⟨_, rfl⟩
          obtain ⟨q, hq⟩ := HNM.out
          rw [← hq] at e1 HCV HCK
          subst hu'
          have d1 : decide (k < N) = true := decide_eq_true hlt
          clear h5 a1 a2 hus hu hlen hck hids hwi hnm hR hq HNM hone
          go_wp2_with fail
          refine (HCV.out _ (HUw.out.trans (Up.alloc _ _)) (HUS.out.up (Up.alloc _ _))).mono ?_
          rintro e w3 ⟨rfl, hg3, hus3⟩
          have HU3 : Hid (Up W0 w3) := Below.grown (HU.out.trans (Up.alloc _ _)) hg3 (HU.out.trans (Up.alloc _ _)).size (fun j hj => by cases hj; exact HB1.out)
          have hBw := HUS.out.lt
          have f0 := grown_cell hg3 (World.cell?_alloc_new wr #[.string (bs q), .slice o' st.v[k].bl.length c'] 62 0) (by show wr.heap.size ≠ B; omega)
          have HUS3 := Lib.hid hus3
          clear hg3 hus3 hBw
          by_cases h0 : R = 0
          · subst h0
            have hck := HCK.out
            rw [if_pos rfl] at hck
            have HCK2 := Lib.hid hck
            clear hck
            go_wp2_with fail
            go_roundw
            case rel => exact ⟨k + 1, q, by rw [HN.out]; omega, by go_num, rfl, by rw [HT.out]; exact (HUS3.out (by trivial)).mono (by omega), HU3.out, HLL.out (by trivial), HCK2.out⟩
            case measure => simp only [intOf]; omega
          · have hne : (R != 0) = true := by rw [bne_iff_ne]; exact h0
            have hck := HCK.out
            rw [if_neg h0] at hck
            have HE5 : Hid (E = R) := by
              have := HE3.out
              rw [hck, if_pos h0] at this
              exact this.symm
            clear hck h0
            go_wp2_with fail
            go_ret
            exact ⟨by rw [HE5.out]; rfl, HW0.out.trans HU3.out⟩
        · have d1 : decide (k < N) = false := decide_eq_false hlt
          have hke : k = st.v.length := by rw [HN.out]; omega
          subst hke
          rw [List.take_length] at hus
          rw [List.drop_length] at hck
          have HRF := Lib.hid (fun W (hW : Up w W) (n : Nat) (hW2 : Uses W B n st.b (ids st.v)) => checkRefs_any _ st.b B n (ids st.v) W (HBI.out.up hW) HBAG.out hW2)
          have HE4 : Hid (refE st.b (ids st.v) = E) := by
            have := HE3.out
            rw [hck] at this
            show _ = _
            simpa [chkVs] using this
          rw [HE4.out] at HRF
          have HUS := Lib.hid hus
          have HU := Lib.hid hu
          clear hus hu hck hlen
          go_wp2_with fail
          refine (HRF.out _ (HW0.out.trans HU.out) _ HUS.out).mono ?_
          rintro e w3 ⟨rfl, u3⟩
          have HU3 : Hid (Up w w3) := (HW0.out.trans HU.out).trans u3
          clear u3
          go_wp2_with fail
          go_ret
          exact ⟨rfl, HU3.out⟩
  · have hne : (R0 != 0) = true := by rw [bne_iff_ne]; exact h0
    have HE2 : Hid (E = R0) := by
      have := HE.out
      unfold chkS at this
      rw [HR0.out, if_pos h0] at this
      exact this.symm
    clear HE h0
    go_wp2_with fail
    go_ret
    exact ⟨by rw [HE2.out]; rfl, HU1.out⟩

end Go.Proofs.Ytnmdfdkagkpcaaa

/-
  Contracts of library functions at this program, each one application of a theorem of the library: what is proved is what each says. Conditions: as each says.
-/
namespace Go.Proofs
open Go.Shelf
def Try.laysM316_ren : Go.Shelf.Ren := ⟨fun | 316 => 77 | n => n, fun | 9 => 9 | 3 => 3 | 4 => 4 | 37 => 132 | 0 => 0 | 127 => 133 | 5 => 5 | n => n, fun | n => n⟩
theorem Try.laysM316 : Go.Proofs.LaysM.n316 Try.prog Try.laysM316_ren := {
  mixed := by kernel_rfl
  f316 := Try.func77.trans (congrArg some (by kernel_rfl))
  t0 := Try.underlying0
  a0 := Try.isAgg0
  z0 := Try.sizeOf0
  v0 := Try.zeroValue0
  t3 := Try.underlying3
  a3 := Try.isAgg3
  z3 := Try.sizeOf3
  v3 := Try.zeroValue3
  t4 := Try.underlying4
  a4 := Try.isAgg4
  z4 := Try.sizeOf4
  v4 := Try.zeroValue4
  t9 := Try.underlying9
  a9 := Try.isAgg9
  z9 := Try.sizeOf9
  v9 := Try.zeroValue9
  t37 := Try.underlying132
  a37 := Try.isAgg132
  z37 := Try.sizeOf132
  v37 := Try.zeroValue132
  t127 := Try.underlying133
  a127 := Try.isAgg133
  z127 := Try.sizeOf133
  v127 := Try.zeroValue133
  t5 := Try.underlying5
  a5 := Try.isAgg5
  z5 := Try.sizeOf5
  v5 := Try.zeroValue5
  i0 := by kernel_rfl
  i3 := by kernel_rfl
  i4 := by kernel_rfl
  i5 := by kernel_rfl
  i9 := by kernel_rfl
  i37 := by kernel_rfl
  i127 := by kernel_rfl }
open Go.RowKit in
theorem Try.stringslite_Clone (s : ByteArray) (w : World) (hlim : s.size ≤ 281474976710656) :
    Calls Try.prog 77 #[.string s] w fun e w' => e = .returned (.string s) ∧ Below w.heap.size w w' := Any.stringslite_Clone Try.laysM316 s w hlim
end Go.Proofs

/-
  What strings.Clone returns: the text. Condition: at most 1000 bytes.
-/
namespace Go.Proofs.Ytnmdfdkagkpcaaa
open Go.RowKit
open Go.Proofs

theorem clone_str (s : ByteArray) (w : World) (hlim : s.size ≤ 1000) :
    Calls Try.prog 59 #[.string s] w fun e w' => e = .returned (.string s) ∧ Up w w' := by
  go_enter Try.func59, Try.ntmps59
  go_wp2_with fail
  refine (Try.stringslite_Clone s _ (by omega)).mono ?_
  rintro e w1 ⟨rfl, u1⟩
  have HU : Up w w1 := u1
  clear u1
  go_wp2_with fail
  go_ret
  exact ⟨rfl, HU⟩

end Go.Proofs.Ytnmdfdkagkpcaaa

/-
  What find and Get of package bag return. Condition: the row can be read.
-/
namespace Go.Proofs.Ytnmdfdkagkpcaaa
open Go.RowKit
open Go.Proofs
open WoolBag

/-- what find answers, as the two results -/
def findR (l : List Itm) (i : Bool × Int × Int) : Value := .tuple #[.int .i64 ((find FP l i).1 : Int), .int .i64 (find FP l i).2]

set_option maxRecDepth 100000 in
set_option maxHeartbeats 1000000 in
theorem find_any (v : Value) (l : List Itm) (i : Bool × Int × Int) (w : World) (h : Items w v l) :
    Calls Try.prog 76 #[v, idV i] w fun e w' => e = .returned (findR l i) ∧ Up w w' := by
  obtain ⟨R, hR⟩ : ∃ R, findR l i = R := ⟨_, rfl⟩
  rw [hR]
  have HR := Lib.hid hR
  have HX := Lib.hid h
  have HC := Lib.hid (fun W (hW : Up w W) => check_any v l W (h.up hW))
  obtain ⟨o, c, rfl, h3⟩ := h.slice
  unfold maxLen at h3
  obtain ⟨C, hC⟩ : ∃ C, chk FP l = C := ⟨_, rfl⟩
  have HCC := Lib.hid hC
  have HM := Lib.hid (hasId_make i)
  have hix := fun W (hW : Up w W) => indexF (.slice o l.length c) l W 92
  unfold idV at HM ⊢
  obtain ⟨ib, is, iN⟩ := i
  simp only at HM ⊢
  clear hR hC h hix
  go_enter Try.func76, Try.ntmps76
  go_wp2_with fail
  refine (HC.out _ (Up.alloc _ _)).mono ?_
  rintro e w1 ⟨rfl, u1⟩
  rw [HCC.out]
  have HU1 : Hid (Up w w1) := Up.after _ _ _ u1
  have hbx := BoxI.up (BoxI.new w 51 (.bool ib) (.int .i64 is) (.int .i64 iN)) u1
  obtain ⟨c0, c1, c2⟩ := hbx.cells
  clear hbx u1
  by_cases h0 : C = 0
  · subst h0
    go_wp2_with fail
    refine (HM.out _).mono ?_
    rintro e w2 ⟨lb, rfl, u2, hp⟩
    have hcall := indexF (.slice o l.length c) l w2 92 lb _ eg_id (HX.out.up (HU1.out.trans u2)) hp
    have HCALL := Lib.hid hcall
    clear hcall hp
    go_wp2_with fail
    refine HCALL.out.mono ?_
    rintro e w3 ⟨rfl, u3⟩
    unfold ixI
    cases hi : idx (idB (ib, is, iN)) l with
    | some k =>
      have HRR : Hid (R = .tuple #[.int .i64 (k : Int), .int .i64 0]) := by
        show _ = _
        rw [← HR.out]; unfold findR find
        rw [if_neg (by simp [HCC.out]), hi]
      clear hi
      simp only
      go_wp2_with fail
      go_ret2
      exact ⟨by rw [HRR.out]; rfl, (HU1.out.trans u2).trans u3⟩
    | none =>
      have HRR : Hid (R = .tuple #[.int .i64 0, .int .i64 4]) := by
        show _ = _
        rw [← HR.out]; unfold findR find
        rw [if_neg (by simp [HCC.out]), hi]
        rfl
      clear hi
      simp only
      go_wp2_with fail
      go_ret2
      exact ⟨by rw [HRR.out]; rfl, (HU1.out.trans u2).trans u3⟩
  · have hne : (C != 0) = true := by rw [bne_iff_ne]; exact h0
    have HRR : Hid (R = .tuple #[.int .i64 0, .int .i64 C]) := by
      show _ = _
      rw [← HR.out]; unfold findR find
      rw [if_pos (by rw [HCC.out]; exact h0), HCC.out]
      rfl
    clear h0
    go_wp2_with fail
    go_ret2
    exact ⟨by rw [HRR.out]; rfl, HU1.out⟩

theorem find_lt {l : List Itm} {i : Bool × Int × Int} (h : (find FP l i).2 = 0) : (find FP l i).1 < l.length ∧ Bag FP l ∧ idB i l[(find FP l i).1]! = true := by
  unfold find at h ⊢
  by_cases hc : chk FP l ≠ 0
  · rw [if_pos hc] at h; exact absurd h hc
  · rw [if_neg hc] at h ⊢
    cases hi : idx (idB i) l with
    | none => rw [hi] at h; cases h
    | some k =>
      obtain ⟨h1, h2, _⟩ := idx_some hi
      simp only
      refine ⟨h1, (chk_zero _).1 (by simpa using hc), ?_⟩
      rw [getElem!_pos l k h1]; exact h2

/-- what Get answers, as the two results -/
def getBR (l : List Itm) (i : Bool × Int × Int) : Value := .tuple #[.string (bs (WoolBag.get FP l i).1), .int .i64 (WoolBag.get FP l i).2]

set_option maxRecDepth 100000 in
set_option maxHeartbeats 1000000 in
theorem get_any (v : Value) (l : List Itm) (i : Bool × Int × Int) (w : World) (h : Items w v l) :
    Calls Try.prog 57 #[v, idV i] w fun e w' => e = .returned (getBR l i) ∧ Up w w' := by
  obtain ⟨R, hR⟩ : ∃ R, getBR l i = R := ⟨_, rfl⟩
  rw [hR]
  have HR := Lib.hid hR
  have hfi := Lib.hid (fun W (hW : Up w W) => find_any v l i W (h.up hW))
  unfold findR at hfi
  have HL := Lib.hid (find_lt (l := l) (i := i))
  unfold getBR WoolBag.get at hR
  obtain ⟨K, hK⟩ : ∃ K, (find FP l i).1 = K := ⟨_, rfl⟩
  obtain ⟨E, hE⟩ : ∃ E, (find FP l i).2 = E := ⟨_, rfl⟩
  rw [hK, hE] at hfi HL hR
  have HRR := Lib.hid hR
  obtain ⟨o, c, rfl, h2, h3, h4⟩ := h
  unfold maxLen at h3
  have H4 := Lib.hid h4
  unfold idV at hfi ⊢
  obtain ⟨ib, is, iN⟩ := i
  simp only at hfi ⊢
  clear hR hK hE h4
  go_enter Try.func57, Try.ntmps57
  go_wp2_with fail
  refine (hfi.out _ (Up.alloc _ _)).mono ?_
  rintro e w1 ⟨rfl, u1⟩
  have HU1 : Hid (Up w w1) := Up.after _ _ _ u1
  clear u1
  by_cases h0 : E = 0
  · subst h0
    obtain ⟨hk, hbag, _⟩ := HL.out rfl
    have ht := (hbag.ok _ (List.getElem_mem hk)).1
    rcases H4.out with h5 | ⟨b, off, rfl, h5⟩
    · rw [h5] at hk; simp at hk
    obtain ⟨_, _, a3, _⟩ := h5 K hk
    rw [← HU1.out.cell (World.block_lt_of_cell? w _ a3)] at a3
    have hr := HRR.out
    rw [if_pos rfl] at hr
    simp only at hr
    rw [getElem!_pos l K hk] at hr
    have HT : Hid ((bs l[K].t).size ≤ 1000) := by show (bs l[K].t).size ≤ 1000; rw [bs_size]; omega
    generalize bs l[K].t = T at a3 hr HT
    have HRV := Lib.hid hr
    clear h5 hbag ht hr
    go_wp2_with fail
    refine (clone_str T _ HT.out).mono ?_
    rintro e w2 ⟨rfl, u2⟩
    go_wp2_with fail
    go_ret2
    exact ⟨by rw [← HRV.out]; rfl, HU1.out.trans u2⟩
  · have hr := HRR.out
    rw [if_neg h0] at hr
    have HRV := Lib.hid hr
    have hne : (E != 0) = true := by rw [bne_iff_ne]; exact h0
    clear hr h0
    go_wp2_with fail
    go_ret2
    exact ⟨by rw [← HRV.out]; rfl, HU1.out⟩

end Go.Proofs.Ytnmdfdkagkpcaaa
