/-
  The texts VolD, Bag5, VolE, VolF, one behind the other; each says below what it holds and on what conditions.
-/
import Derived.Test.YtbeigaanlhaolaaGreatDoorJB11
import Derived.Test.YtbeigaanlhaolaaGreatDoorJB07
import Derived.Shelf.Abstract
import Derived.OwnWalk
import Derived.Test.YtbeigaanlhaolaaGreatDoorJB04

/-
  What vol's Check returns. Conditions: identifiers of numbers that fit, names that fit in memory.
-/
namespace Go.Proofs.YtbeigaanlhaolaaGreatDoor
open Go.RowKit
open Go.Proofs
open Go.Maps
open WoolBag
open WoolVol

def VKRel (st : Sta) (B : Nat) (W0 : World) (bf i : Value) (wr : World) : Prop :=
  ∃ (k : Nat) (p : List UInt8), k ≤ st.v.length ∧ i = .int .i64 k ∧ bf = .string (bs p) ∧ Uses wr B (64 + 32 * k) st.b (ids (st.v.take k)) ∧ Up W0 wr ∧ (ids (st.v.take k)).length ≤ 32 * k ∧ chkVs st.b [] st.v = chkVs st.b p (st.v.drop k)

theorem ids_snoc (vs : List Vo) (k : Nat) (hk : k < vs.length) : ids (vs.take (k + 1)) = ids (vs.take k) ++ vs[k].bl := by
  unfold ids
  rw [List.take_succ_eq_append_getElem hk, List.map_append, List.flatten_append]
  simp

theorem chkV_len {l : List Itm} {p : List UInt8} {x : Vo} (h : chkV l p x = 0) : x.bl.length ≤ 32 := by
  unfold chkV at h
  by_cases h1 : (!(nameB x.nm) || sle x.nm p) = true
  · rw [if_pos h1] at h; omega
  · rw [if_neg h1] at h
    by_cases h2 : 32 < x.bl.length
    · rw [if_pos h2] at h; omega
    · omega

set_option maxRecDepth 100000 in
set_option maxHeartbeats 2000000 in
theorem vcheck_any (v : Value) (st : Sta) (w : World) (h : Stat w v st) (hwf : WfS st) :
    Calls Tryz.prog 91 #[v] w fun e w' => e = .returned (.int .i64 (chkS FP st)) ∧ Up w w' := by
  obtain ⟨vb, vv, rfl, hb, hv⟩ := h
  obtain ⟨oB, cB, rfl, hcB⟩ := hb.slice
  obtain ⟨oV, cV, rfl, hV1, hV2⟩ := hv.slice
  unfold maxLen at hcB hV2
  have HBI := Lib.hid hb
  have HVI := Lib.hid hv
  have HWF := Lib.hid hwf
  obtain ⟨E, hE⟩ : ∃ E, chkS FP st = E := ⟨_, rfl⟩
  rw [hE]
  have HE := Lib.hid hE
  have HBC := Lib.hid (fun W (hW : Up w W) => check_any _ st.b W (hb.up hW))
  clear hE hb hv hwf
  obtain ⟨R0, hR0⟩ : ∃ R0, chk FP st.b = R0 := ⟨_, rfl⟩
  have HR0 := Lib.hid hR0
  rw [hR0] at HBC
  clear hR0
  obtain ⟨N, hN⟩ : ∃ N, st.v.length = N := ⟨_, rfl⟩
  have HN := Lib.hid hN
  rw [hN] at hV1 ⊢
  rw [hN] at HVI
  obtain ⟨M, hM⟩ : ∃ M, st.b.length = M := ⟨_, rfl⟩
  rw [hM] at HBI HBC ⊢
  clear hN hM
  go_enter Tryz.func91, Tryz.ntmps91
  go_wp2_with fail
  refine (HBC.out _ (Up.alloc _ _)).mono ?_
  rintro e w1 ⟨rfl, u1⟩
  have hsz : w.heap.size < (w.alloc (.cells #[.slice oB M cB, .slice oV N cV] 36)).heap.size := by simp
  have b0 := (Below.cell u1 (p := ⟨w.heap.size, 0, none⟩) hsz).trans (World.cell?_alloc_new w #[.slice oB M cB, .slice oV N cV] 36 0)
  have b1 := (Below.cell u1 (p := ⟨w.heap.size, 1, none⟩) hsz).trans (World.cell?_alloc_new w #[.slice oB M cB, .slice oV N cV] 36 1)
  have HU0 : Hid (Up (w.alloc (.cells #[.slice oB M cB, .slice oV N cV] 36)) w1) := u1
  have HU1 : Hid (Up w w1) := (Up.alloc _ _).trans u1
  have hsz1 : w.heap.size < w1.heap.size := Nat.lt_of_lt_of_le hsz u1.size
  clear u1 hsz
  by_cases h0 : R0 = 0
  · subst h0
    have hbag : Bag FP st.b := (chk_zero FP).1 HR0.out
    have hlb := hbag.len
    have HUN := Lib.hid (fun W (hW : Up w W) => unused_any _ st.b W (HBI.out.up hW) hbag)
    have HBAG := Lib.hid hbag
    by_cases hbig : 6 < N
    · have HE2 : Hid (E = 2) := by
        have := HE.out
        unfold chkS at this
        rw [HR0.out, HN.out, if_neg (by simp), if_pos hbig] at this
        exact this.symm
      clear HE
      go_wp2_with fail
      go_ret
      exact ⟨by rw [HE2.out]; rfl, HU1.out⟩
    · have hE3 : (if chkVs st.b [] st.v ≠ 0 then chkVs st.b [] st.v else refE st.b (ids st.v)) = E := by
        have := HE.out
        unfold chkS at this
        rw [HR0.out, HN.out, if_neg (by simp), if_neg hbig] at this
        exact this
      have HE3 := Lib.hid hE3
      clear HE hE3 hbag
      go_wp2_with fail
      refine (HUN.out _ HU1.out).mono ?_
      rintro e w2 ⟨B, rfl, hB, hus2, u2⟩
      have HU2 : Hid (Up (w.alloc (.cells #[.slice oB M cB, .slice oV N cV] 36)) w2) := HU0.out.trans u2
      have HB1 : Hid ((w.alloc (.cells #[.slice oB M cB, .slice oV N cV] 36)).heap.size ≤ B) := Nat.le_trans HU0.out.size hB
      have HW0 : Hid (Up w (w.alloc (.cells #[.slice oB M cB, .slice oV N cV] 36))) := Up.alloc _ _
      have HSZ : Hid (w.heap.size < (w.alloc (.cells #[.slice oB M cB, .slice oV N cV] 36)).heap.size) := by show _ < _; simp
      have HUS2 : Hid (Uses w2 B 64 st.b []) := hus2.mono (by omega)
      have HC : Hid (w2.cell? ⟨w.heap.size, 0, none⟩ = some (.slice oB M cB) ∧ w2.cell? ⟨w.heap.size, 1, none⟩ = some (.slice oV N cV)) := ⟨(u2.cell (p := ⟨w.heap.size, 0, none⟩) hsz1).trans b0, (u2.cell (p := ⟨w.heap.size, 1, none⟩) hsz1).trans b1⟩
      have c0 := HC.out.1
      have c1 := HC.out.2
      clear u2 hus2 hB b0 b1
      generalize (w.alloc (.cells #[.slice oB M cB, .slice oV N cV] 36)) = W0 at HU0 HU2 HB1 HW0 HSZ
      go_wp2_with fail
      go_loopw [5, 25] (fun bf i wr => VKRel st B W0 bf i wr) (fun _ i _ => N - (intOf i).toNat)
      case atStart => exact ⟨0, [], Nat.zero_le _, rfl, rfl, by simpa [ids] using HUS2.out, HU2.out, by simp [ids], by simp⟩
      case round =>
        obtain ⟨k, p, hk, rfl, rfl, hus, hu, hlen, hck⟩ := hrel
        rw [HN.out] at hk
        have c0r : wr.cell? ⟨w.heap.size, 0, none⟩ = some (.slice oB M cB) := (hu.cell (p := ⟨w.heap.size, 0, none⟩) HSZ.out).trans ((HU2.out.cell (p := ⟨w.heap.size, 0, none⟩) HSZ.out).symm.trans HC.out.1)
        clear c0 c1
        by_cases hlt : k < N
        · have hkl : k < st.v.length := by rw [HN.out]; exact hlt
          obtain ⟨b, off, rfl, h5⟩ := HVI.out.at (by intro e; rw [e] at hkl; simp at hkl)
          obtain ⟨a1, u, a2, hids⟩ := h5 k hkl
          have HUw : Hid (Up w wr) := HW0.out.trans hu
          have e1 := (HUw.out.cell (World.block_lt_of_cell? w _ a1)).trans a1
          have e2 := (HUw.out.cell (World.block_lt_of_cell? w _ a2)).trans a2
          obtain ⟨hwi, hnm⟩ := HWF.out _ (List.getElem_mem hkl)
          have HT := Lib.hid (ids_snoc st.v k hkl)
          rw [List.drop_eq_getElem_cons hkl] at hck
          have HCK : Hid (chkVs st.b [] st.v = if chkV st.b p st.v[k] = 0 then chkVs st.b st.v[k].nm (st.v.drop (k + 1)) else chkV st.b p st.v[k]) := hck
          have hone : u.oneCell' = true := hids.one
          obtain ⟨o', c', hu', _, _⟩ := hids.slice
          have HCV := Lib.hid (fun W (hW : Up w W) (hW2 : Uses W B (64 + 32 * k) st.b (ids (st.v.take k))) => checkVol_any p st.v[k] u B (64 + 32 * k) st.b (ids (st.v.take k)) W (hids.up hW) hW2 hwi (by omega) (by omega) hnm)
          unfold CVPost at HCV
          have HLL : Hid (chkV st.b p st.v[k] = 0 → (ids (st.v.take (k + 1))).length ≤ 32 * (k + 1)) := fun h0 => by
            have := chkV_len h0
            rw [HT.out, List.length_append]; omega
          obtain ⟨R, hR⟩ : ∃ R, chkV st.b p st.v[k] = R := ⟨_, rfl⟩
          rw [hR] at HCV HCK HLL
          have HUS := Lib.hid hus
          have HU := Lib.hid hu
          have HNM : Hid (∃ q, q = st.v[k].nm) := ⟨_, rfl⟩
          obtain ⟨q, hq⟩ := HNM.out
          rw [← hq] at e1 HCV HCK
          subst hu'
          have d1 : decide (k < N) = true := decide_eq_true hlt
          clear h5 a1 a2 hus hu hlen hck hids hwi hnm hR hq HNM hone
          go_wp2_with fail
          refine (HCV.out _ (HUw.out.trans (Up.alloc _ _)) (HUS.out.up (Up.alloc _ _))).mono ?_
          rintro e w3 ⟨rfl, hg3, hus3⟩
          have HU3 : Hid (Up W0 w3) := Below.grown (HU.out.trans (Up.alloc _ _)) hg3 (HU.out.trans (Up.alloc _ _)).size (fun j hj => by cases hj; exact HB1.out)
          have hBw := HUS.out.lt
          have f0 := grown_cell hg3 (World.cell?_alloc_new wr #[.string (bs q), .slice o' st.v[k].bl.length c'] 81 0) (by show wr.heap.size ≠ B; omega)
          have HUS3 := Lib.hid hus3
          clear hg3 hus3 hBw
          by_cases h0 : R = 0
          · subst h0
            have hck := HCK.out
            rw [if_pos rfl] at hck
            have HCK2 := Lib.hid hck
            clear hck
            go_wp2_with fail
            go_roundw
            case rel => exact ⟨k + 1, q, by rw [HN.out]; omega, by go_num, rfl, by rw [HT.out]; exact (HUS3.out (by trivial)).mono (by omega), HU3.out, HLL.out (by trivial), HCK2.out⟩
            case measure => simp only [intOf]; omega
          · have hne : (R != 0) = true := by rw [bne_iff_ne]; exact h0
            have hck := HCK.out
            rw [if_neg h0] at hck
            have HE5 : Hid (E = R) := by
              have := HE3.out
              rw [hck, if_pos h0] at this
              exact this.symm
            clear hck h0
            go_wp2_with fail
            go_ret
            exact ⟨by rw [HE5.out]; rfl, HW0.out.trans HU3.out⟩
        · have d1 : decide (k < N) = false := decide_eq_false hlt
          have hke : k = st.v.length := by rw [HN.out]; omega
          subst hke
          rw [List.take_length] at hus
          rw [List.drop_length] at hck
          have HRF := Lib.hid (fun W (hW : Up w W) (n : Nat) (hW2 : Uses W B n st.b (ids st.v)) => checkRefs_any _ st.b B n (ids st.v) W (HBI.out.up hW) HBAG.out hW2)
          have HE4 : Hid (refE st.b (ids st.v) = E) := by
            have := HE3.out
            rw [hck] at this
            show _ = _
            simpa [chkVs] using this
          rw [HE4.out] at HRF
          have HUS := Lib.hid hus
          have HU := Lib.hid hu
          clear hus hu hck hlen
          go_wp2_with fail
          refine (HRF.out _ (HW0.out.trans HU.out) _ HUS.out).mono ?_
          rintro e w3 ⟨rfl, u3⟩
          have HU3 : Hid (Up w w3) := (HW0.out.trans HU.out).trans u3
          clear u3
          go_wp2_with fail
          go_ret
          exact ⟨rfl, HU3.out⟩
  · have hne : (R0 != 0) = true := by rw [bne_iff_ne]; exact h0
    have HE2 : Hid (E = R0) := by
      have := HE.out
      unfold chkS at this
      rw [HR0.out, if_pos h0] at this
      exact this.symm
    clear HE h0
    go_wp2_with fail
    go_ret
    exact ⟨by rw [HE2.out]; rfl, HU1.out⟩

end Go.Proofs.YtbeigaanlhaolaaGreatDoor

/-
  What find and Get of package bag return. Condition: the row can be read.
-/
namespace Go.Proofs.YtbeigaanlhaolaaGreatDoor
open Go.RowKit
open Go.Proofs
open WoolBag

/-- what find answers, as the two results -/
def findR (l : List Itm) (i : Bool × Int × Int) : Value := .tuple #[.int .i64 ((find FP l i).1 : Int), .int .i64 (find FP l i).2]

set_option maxRecDepth 100000 in
set_option maxHeartbeats 1000000 in
theorem find_any (v : Value) (l : List Itm) (i : Bool × Int × Int) (w : World) (h : Items w v l) :
    Calls Tryz.prog 169 #[v, idV i] w fun e w' => e = .returned (findR l i) ∧ Up w w' := by
  obtain ⟨R, hR⟩ : ∃ R, findR l i = R := ⟨_, rfl⟩
  rw [hR]
  have HR := Lib.hid hR
  have HX := Lib.hid h
  have HC := Lib.hid (fun W (hW : Up w W) => check_any v l W (h.up hW))
  obtain ⟨o, c, rfl, h3⟩ := h.slice
  unfold maxLen at h3
  obtain ⟨C, hC⟩ : ∃ C, chk FP l = C := ⟨_, rfl⟩
  have HCC := Lib.hid hC
  have HM := Lib.hid (hasId_make i)
  have hix := fun W (hW : Up w W) => indexF (.slice o l.length c) l W 184
  unfold idV at HM ⊢
  obtain ⟨ib, is, iN⟩ := i
  simp only at HM ⊢
  clear hR hC h hix
  go_enter Tryz.func169, Tryz.ntmps169
  go_wp2_with fail
  refine (HC.out _ (Up.alloc _ _)).mono ?_
  rintro e w1 ⟨rfl, u1⟩
  rw [HCC.out]
  have HU1 : Hid (Up w w1) := Up.after _ _ _ u1
  have hbx := BoxI.up (BoxI.new w 86 (.bool ib) (.int .i64 is) (.int .i64 iN)) u1
  obtain ⟨c0, c1, c2⟩ := hbx.cells
  clear hbx u1
  by_cases h0 : C = 0
  · subst h0
    go_wp2_with fail
    refine (HM.out _).mono ?_
    rintro e w2 ⟨lb, rfl, u2, hp⟩
    have hcall := indexF (.slice o l.length c) l w2 184 lb _ eg_id (HX.out.up (HU1.out.trans u2)) hp
    have HCALL := Lib.hid hcall
    clear hcall hp
    go_wp2_with fail
    refine HCALL.out.mono ?_
    rintro e w3 ⟨rfl, u3⟩
    unfold ixI
    cases hi : idx (idB (ib, is, iN)) l with
    | some k =>
      have HRR : Hid (R = .tuple #[.int .i64 (k : Int), .int .i64 0]) := by
        show _ = _
        rw [← HR.out]; unfold findR find
        rw [if_neg (by simp [HCC.out]), hi]
      clear hi
      simp only
      go_wp2_with fail
      go_ret2
      exact ⟨by rw [HRR.out]; rfl, (HU1.out.trans u2).trans u3⟩
    | none =>
      have HRR : Hid (R = .tuple #[.int .i64 0, .int .i64 4]) := by
        show _ = _
        rw [← HR.out]; unfold findR find
        rw [if_neg (by simp [HCC.out]), hi]
        rfl
      clear hi
      simp only
      go_wp2_with fail
      go_ret2
      exact ⟨by rw [HRR.out]; rfl, (HU1.out.trans u2).trans u3⟩
  · have hne : (C != 0) = true := by rw [bne_iff_ne]; exact h0
    have HRR : Hid (R = .tuple #[.int .i64 0, .int .i64 C]) := by
      show _ = _
      rw [← HR.out]; unfold findR find
      rw [if_pos (by rw [HCC.out]; exact h0), HCC.out]
      rfl
    clear h0
    go_wp2_with fail
    go_ret2
    exact ⟨by rw [HRR.out]; rfl, HU1.out⟩

theorem find_lt {l : List Itm} {i : Bool × Int × Int} (h : (find FP l i).2 = 0) : (find FP l i).1 < l.length ∧ Bag FP l ∧ idB i l[(find FP l i).1]! = true := by
  unfold find at h ⊢
  by_cases hc : chk FP l ≠ 0
  · rw [if_pos hc] at h; exact absurd h hc
  · rw [if_neg hc] at h ⊢
    cases hi : idx (idB i) l with
    | none => rw [hi] at h; cases h
    | some k =>
      obtain ⟨h1, h2, _⟩ := idx_some hi
      simp only
      refine ⟨h1, (chk_zero _).1 (by simpa using hc), ?_⟩
      rw [getElem!_pos l k h1]; exact h2

end Go.Proofs.YtbeigaanlhaolaaGreatDoor

/-
  What slices.IndexFunc at volumes, vol's index, find, locate and slices.Clone at identifiers return. Conditions: as each says.
-/
namespace Go.Proofs.YtbeigaanlhaolaaGreatDoor
open Go.RowKit
open Go.Proofs
open WoolBag
open WoolVol

/-- a function value that tells p of a volume's name, in every world in which nothing that is in w has turned -/
def VPred (w : World) (g : Nat) (lb : Array Value) (p : List UInt8 → Bool) : Prop :=
  ∀ W, Up w W → ∀ (s : List UInt8) (o : Option Addr) (n c : Nat), Calls Tryz.prog g (#[.agg #[.string (bs s), .slice o n c]] ++ lb) W fun e w' => e = .returned (.bool (p s)) ∧ Up W w'

def ixV (p : List UInt8 → Bool) (l : List Vo) : Int := match vix (fun x => p x.nm) l with | some i => (i : Int) | none => -1

def IxVRel (p : List UInt8 → Bool) (l : List Vo) (w : World) (i : Value) (wr : World) : Prop :=
  ∃ k : Nat, k ≤ l.length ∧ i = .int .i64 k ∧ Up w wr ∧ ∀ j (h : j < l.length), j < k → p l[j].nm = false

set_option maxRecDepth 100000 in
set_option maxHeartbeats 400000 in
theorem indexV (v : Value) (l : List Vo) (w : World) (g : Nat) (lb : Array Value) (p : List UInt8 → Bool) (eg : ∀ args w, (callFunc g args).run Tryz.prog w = .ok (.enter g args) w) (h : Vols w v l) (hp : VPred w g lb p) :
    Calls Tryz.prog 123 #[v, .func (.func g) #[] lb] w fun e w' => e = .returned (.int .i64 (ixV p l)) ∧ Up w w' := by
  obtain ⟨o, c, rfl, h2, h3⟩ := h.slice
  unfold maxLen at h3
  have H4 := Lib.hid h
  have HP := Lib.hid hp
  clear h hp
  obtain ⟨R, hR⟩ : ∃ R, ixV p l = R := ⟨_, rfl⟩
  rw [hR]
  have HR := Lib.hid hR
  clear hR
  go_enter Tryz.func123, Tryz.ntmps123
  go_wp2_with fail
  go_loopw [5, 8] (fun _ i wr => IxVRel p l w i wr) (fun _ i _ => l.length - (intOf i).toNat)
  case atStart => exact ⟨0, Nat.zero_le _, rfl, Up.refl w, fun j _ hj => by omega⟩
  case round =>
    obtain ⟨k, hk, rfl, hu, hno⟩ := hrel
    by_cases hlt : k < l.length
    · obtain ⟨b, off, rfl, h5⟩ := H4.out.at (by intro e; rw [e] at hlt; simp at hlt)
      obtain ⟨a1, u, a2, hids⟩ := h5 k hlt
      rw [← hu.cell (World.block_lt_of_cell? w _ a1)] at a1
      rw [← hu.cell (World.block_lt_of_cell? w _ a2)] at a2
      obtain ⟨o', c', rfl, _, _⟩ := hids.slice
      have hcall := HP.out wr hu l[k].nm o' l[k].bl.length c'
      have HU := Lib.hid hu
      have HN := Lib.hid hno
      have d1 : decide (k < l.length) = true := decide_eq_true hlt
      obtain ⟨P, hP⟩ : ∃ P, p l[k].nm = P := ⟨_, rfl⟩
      rw [hP] at hcall
      have HPP := Lib.hid hP
      generalize l[k].nm = xs at a1 hcall
      generalize l[k].bl.length = xn at a2 hcall
      clear h5 hu hno hP hids
      cases P with
      | true =>
        go_wp2_with (go_at_fn g; refine hcall.mono ?_; rintro e w1 ⟨rfl, u1⟩)
        go_ret
        refine ⟨?_, HU.out.trans u1⟩
        rw [← HR.out]
        unfold ixV
        rw [vix_of hlt HPP.out (fun j hj => HN.out j (by omega) hj)]
        rfl
      | false =>
        go_wp2_with (go_at_fn g; refine hcall.mono ?_; rintro e w1 ⟨rfl, u1⟩)
        go_roundw
        case rel =>
          refine ⟨k + 1, by omega, by go_num, HU.out.trans u1, fun j hj hjk => ?_⟩
          by_cases e : j = k
          · subst e; exact HPP.out
          · exact HN.out j hj (by omega)
        case measure => simp only [intOf]; omega
    · have d1 : decide (k < l.length) = false := decide_eq_false hlt
      have HN := Lib.hid hno
      clear hno
      go_wp2_with fail
      go_ret
      refine ⟨?_, hu⟩
      rw [← HR.out]
      unfold ixV
      rw [vix_none.2 (fun x hx => by obtain ⟨i, hi, rfl⟩ := List.getElem_of_mem hx; exact HN.out i hi (by omega))]
      rfl

theorem indexC_in (t : List UInt8) (B : Nat) (s : List UInt8) (o : Option Addr) (n c : Nat) (W : World) (hB : B < W.heap.size) (hc : W.cell? ⟨B, 0, none⟩ = some (.string (bs t))) :
    Calls Tryz.prog 132 #[.agg #[.string (bs s), .slice o n c], .pointer (some ⟨B, 0, none⟩)] W fun e w' => e = .returned (.bool (s == t)) ∧ Up W w' := by
  have hq := txt_eq s t
  generalize (s == t) = q at hq ⊢
  have hne : B ≠ W.heap.size := by omega
  go_enter Tryz.func132, Tryz.ntmps132
  go_wp2_with fail
  all_goals
    go_ret
    exact ⟨by simp_all, Up.alloc _ _⟩

theorem eg_ixc : ∀ args w, (callFunc 132 args).run Tryz.prog w = .ok (.enter 132 args) w := enters_of Tryz.func132 (by kernel_rfl) rfl

set_option maxRecDepth 100000 in
theorem index_any (v : Value) (l : List Vo) (t : List UInt8) (w : World) (h : Vols w v l) :
    Calls Tryz.prog 99 #[v, .string (bs t)] w fun e w' => e = .returned (.int .i64 (ixV (fun s => s == t) l)) ∧ Up w w' := by
  have hm := hmf
  have HC : Hid (∀ W, Up (w.alloc (.cells #[.string (bs t)] 9)) W → Calls Tryz.prog 123 #[v, .func (.func 132) #[] #[.pointer (some ⟨w.heap.size, 0, none⟩)]] W fun e w' => e = .returned (.int .i64 (ixV (fun s => s == t) l)) ∧ Up W w') := by
    intro W hW
    have q0 := World.cell?_alloc_new w #[.string (bs t)] 9 0
    have hB : w.heap.size < (w.alloc (.cells #[.string (bs t)] 9)).heap.size := by simp
    refine indexV v l W 132 #[.pointer (some ⟨w.heap.size, 0, none⟩)] _ eg_ixc (h.up ((Up.alloc _ _).trans hW)) (fun W' hu s o n c => ?_)
    have hu2 := hW.trans hu
    exact indexC_in t w.heap.size s o n c W' (Nat.lt_of_lt_of_le hB hu2.size) ((hu2.cell (p := ⟨w.heap.size, 0, none⟩) hB).trans q0)
  obtain ⟨o, c, rfl, _, _⟩ := h.slice
  clear h
  generalize ixV (fun s => s == t) l = R at HC ⊢
  go_enter Tryz.func99, Tryz.ntmps99
  go_wp2_with fail
  refine (HC.out _ (Up.refl _)).mono ?_
  rintro e w1 ⟨rfl, u1⟩
  go_wp2_with fail
  go_ret
  exact ⟨rfl, (Up.alloc _ _).trans u1⟩

theorem ixV_name (t : List UInt8) (l : List Vo) : ixV (fun s => s == t) l = match vix (nmB t) l with | some i => (i : Int) | none => -1 := rfl

def findVR (st : Sta) (s : List UInt8) : Value := .tuple #[.int .i64 ((vfind FP st s).1 : Int), .int .i64 (vfind FP st s).2]

set_option maxRecDepth 100000 in
set_option maxHeartbeats 1000000 in
theorem vfind_any (v : Value) (st : Sta) (s : List UInt8) (w : World) (h : Stat w v st) (hwf : WfS st) :
    Calls Tryz.prog 95 #[v, .string (bs s)] w fun e w' => e = .returned (findVR st s) ∧ Up w w' := by
  obtain ⟨vb, vv, rfl, hb, hv⟩ := h
  have HCK := Lib.hid (fun W (hW : Up w W) => vcheck_any _ st W ⟨vb, vv, rfl, hb.up hW, hv.up hW⟩ hwf)
  have HIX := Lib.hid (fun W (hW : Up w W) => index_any vv st.v s W (hv.up hW))
  obtain ⟨oB, cB, rfl, _⟩ := hb.slice
  obtain ⟨oV, cV, rfl, _, _⟩ := hv.slice
  obtain ⟨E, hE⟩ : ∃ E, findVR st s = E := ⟨_, rfl⟩
  rw [hE]
  have HE := Lib.hid hE
  clear hE hb hv hwf
  obtain ⟨R0, hR0⟩ : ∃ R0, chkS FP st = R0 := ⟨_, rfl⟩
  have HR0 := Lib.hid hR0
  rw [hR0] at HCK
  clear hR0
  generalize st.b.length = M at *
  generalize st.v.length = N at *
  go_enter Tryz.func95, Tryz.ntmps95
  go_wp2_with fail
  refine (HCK.out _ (Up.alloc _ _)).mono ?_
  rintro e w1 ⟨rfl, u1⟩
  have hsz : w.heap.size < (w.alloc (.cells #[.slice oB M cB, .slice oV N cV] 36)).heap.size := by simp
  have b1 := (Below.cell u1 (p := ⟨w.heap.size, 1, none⟩) hsz).trans (World.cell?_alloc_new w #[.slice oB M cB, .slice oV N cV] 36 1)
  have HU1 : Hid (Up w w1) := (Up.alloc _ _).trans u1
  clear u1 hsz
  by_cases h0 : R0 = 0
  · subst h0
    cases hx : vix (nmB s) st.v with
    | none =>
      have HE2 : Hid (E = .tuple #[.int .i64 0, .int .i64 4]) := by
        rw [← HE.out]
        show findVR st s = _
        unfold findVR vfind
        rw [HR0.out, hx]; rfl
      have hr : ixV (fun t => t == s) st.v = -1 := by rw [ixV_name, hx]
      rw [hr] at HIX
      clear hr hx HE
      go_wp2_with fail
      refine (HIX.out _ HU1.out).mono ?_
      rintro e w2 ⟨rfl, u2⟩
      have HU2 : Hid (Up w w2) := HU1.out.trans u2
      clear u2
      go_wp2_with fail
      go_ret2
      exact ⟨by rw [HE2.out]; rfl, HU2.out⟩
    | some k =>
      have HE2 : Hid (E = .tuple #[.int .i64 (k : Int), .int .i64 0]) := by
        rw [← HE.out]
        show findVR st s = _
        unfold findVR vfind
        rw [HR0.out, hx]; rfl
      have hr : ixV (fun t => t == s) st.v = (k : Int) := by rw [ixV_name, hx]
      rw [hr] at HIX
      clear hr hx HE
      go_wp2_with fail
      refine (HIX.out _ HU1.out).mono ?_
      rintro e w2 ⟨rfl, u2⟩
      have HU2 : Hid (Up w w2) := HU1.out.trans u2
      clear u2
      go_wp2_with fail
      go_ret2
      exact ⟨by rw [HE2.out]; rfl, HU2.out⟩
  · have hne : (R0 != 0) = true := by rw [bne_iff_ne]; exact h0
    have HE2 : Hid (E = .tuple #[.int .i64 0, .int .i64 R0]) := by
      rw [← HE.out]
      show findVR st s = _
      unfold findVR vfind
      rw [HR0.out, if_pos h0]; rfl
    clear HE h0
    go_wp2_with fail
    go_ret2
    exact ⟨by rw [HE2.out]; rfl, HU1.out⟩

theorem vfind_ok {st : Sta} {s : List UInt8} (h : (vfind FP st s).2 = 0) : chkS FP st = 0 ∧ ∃ k, ∃ hk : k < st.v.length, vfind FP st s = (k, 0) ∧ st.v[k].nm = s ∧ vix (nmB s) st.v = some k := by
  unfold vfind at h ⊢
  by_cases h0 : chkS FP st ≠ 0
  · rw [if_pos h0] at h; exact absurd h h0
  · rw [if_neg h0] at h ⊢
    refine ⟨by omega, ?_⟩
    cases hx : vix (nmB s) st.v with
    | none => rw [hx] at h; simp at h
    | some k =>
      obtain ⟨k1, k2, _⟩ := vix_some hx
      unfold nmB at k2
      exact ⟨k, k1, rfl, by simpa using k2, rfl⟩

def locVR (st : Sta) (s : List UInt8) (a : Int) : Value := .tuple #[.int .i64 ((vloc FP st s a).1 : Int), .int .i64 (vloc FP st s a).2]

set_option maxRecDepth 100000 in
set_option maxHeartbeats 1000000 in
theorem vloc_any (v : Value) (st : Sta) (s : List UInt8) (a : Int) (w : World) (h : Stat w v st) (hwf : WfS st) :
    Calls Tryz.prog 100 #[v, .string (bs s), .int .i64 a] w fun e w' => e = .returned (locVR st s a) ∧ Up w w' := by
  have HF := Lib.hid (fun W (hW : Up w W) => vfind_any v st s W (h.up hW) hwf)
  obtain ⟨vb, vv, rfl, hb, hv⟩ := h
  have HV := Lib.hid hv
  obtain ⟨oB, cB, rfl, _⟩ := hb.slice
  obtain ⟨oV, cV, rfl, hV1, hV2⟩ := hv.slice
  unfold maxLen at hV2
  obtain ⟨E, hE⟩ : ∃ E, locVR st s a = E := ⟨_, rfl⟩
  rw [hE]
  unfold locVR vloc at hE
  have HE := Lib.hid hE
  clear hE hb hv hwf
  by_cases h0 : (vfind FP st s).2 = 0
  · obtain ⟨_, k, hk, hf, _, _⟩ := vfind_ok h0
    have hE := HE.out
    rw [hf, if_neg (by simp)] at hE
    unfold findVR at HF
    rw [hf] at HF
    have HE := Lib.hid hE
    obtain ⟨b, off, rfl, h5⟩ := HV.out.at (by intro e; rw [e] at hk; simp at hk)
    obtain ⟨_, u, a2, hids⟩ := h5 k hk
    obtain ⟨o', c', rfl, _, _⟩ := hids.slice
    rw [getElem!_pos st.v k hk] at hE
    have HE2 := Lib.hid hE
    have hblk := World.block_lt_of_cell? w _ a2
    have A2 := Lib.hid a2
    clear h5 hids HE hE HV a2
    simp only at HF HE2
    generalize st.v[k].bl.length = L at *
    generalize st.b.length = M at *
    obtain ⟨N, hN⟩ : ∃ N, st.v.length = N := ⟨_, rfl⟩
    rw [hN] at hk hV1 HF ⊢
    clear hN h0 hf
    by_cases hneg : a < 0
    · have HE3 : Hid (E = .tuple #[.int .i64 0, .int .i64 1]) := by
        have := HE2.out
        rw [if_pos (.inl hneg)] at this
        exact this.symm
      clear HE2
      go_enter Tryz.func100, Tryz.ntmps100
      go_wp2_with fail
      refine (HF.out _ (Up.alloc _ _)).mono ?_
      rintro e w1 ⟨rfl, u1⟩
      have HU1 : Hid (Up w w1) := (Up.alloc _ _).trans u1
      clear u1
      go_wp2_with fail
      go_ret2
      exact ⟨by rw [HE3.out]; rfl, HU1.out⟩
    · go_enter Tryz.func100, Tryz.ntmps100
      go_wp2_with fail
      refine (HF.out _ (Up.alloc _ _)).mono ?_
      rintro e w1 ⟨rfl, u1⟩
      have hsz : w.heap.size < (w.alloc (.cells #[.slice oB M cB, .slice (some ⟨b, off, none⟩) N cV] 36)).heap.size := by simp
      have b1 := (Below.cell u1 (p := ⟨w.heap.size, 1, none⟩) hsz).trans (World.cell?_alloc_new w #[.slice oB M cB, .slice (some ⟨b, off, none⟩) N cV] 36 1)
      have HU1 : Hid (Up w w1) := (Up.alloc _ _).trans u1
      have a2 := (HU1.out.cell hblk).trans A2.out
      clear u1 hsz
      by_cases hge : (L : Int) ≤ a
      · have HE3 : Hid (E = .tuple #[.int .i64 0, .int .i64 1]) := by
          have := HE2.out
          rw [if_pos (.inr hge)] at this
          exact this.symm
        clear HE2
        go_wp2_with fail
        go_ret2
        exact ⟨by rw [HE3.out]; rfl, HU1.out⟩
      · have HE3 : Hid (E = .tuple #[.int .i64 (k : Int), .int .i64 0]) := by
          have := HE2.out
          rw [if_neg (by omega)] at this
          exact this.symm
        clear HE2
        go_wp2_with fail
        go_ret2
        exact ⟨by rw [HE3.out]; rfl, HU1.out⟩
  · obtain ⟨R, hR⟩ : ∃ R, (vfind FP st s).2 = R := ⟨_, rfl⟩
    have hz : (vfind FP st s).1 = 0 := by
      unfold vfind at h0 ⊢
      by_cases h1 : chkS FP st ≠ 0
      · rw [if_pos h1]
      · rw [if_neg h1] at h0 ⊢
        cases hx : vix (nmB s) st.v with
        | none => rfl
        | some k => rw [hx] at h0; simp at h0
    have HE3 : Hid (E = .tuple #[.int .i64 0, .int .i64 R]) := by
      have := HE.out
      rw [if_pos h0, hR] at this
      exact this.symm
    unfold findVR at HF
    rw [hR, hz] at HF
    rw [hR] at h0
    have hne : (R != 0) = true := by rw [bne_iff_ne]; exact h0
    clear HE hR hz h0 HV
    generalize st.b.length = M at *
    generalize st.v.length = N at *
    go_enter Tryz.func100, Tryz.ntmps100
    go_wp2_with fail
    refine (HF.out _ (Up.alloc _ _)).mono ?_
    rintro e w1 ⟨rfl, u1⟩
    have HU1 : Hid (Up w w1) := (Up.alloc _ _).trans u1
    clear u1
    go_wp2_with fail
    go_ret2
    exact ⟨by rw [HE3.out]; rfl, HU1.out⟩

theorem idInfo : (Tryz.prog.info? 86).map (fun i => (i.zero, i.size, i.bytes)) = some (some (.agg #[.bool false, .int .i64 0, .int .i64 0]), 3, 24) := by kernel_rfl

theorem idInfo' : ∃ i, Tryz.prog.info? 86 = some i ∧ i.zero = some (.agg #[.bool false, .int .i64 0, .int .i64 0]) ∧ i.size = 3 ∧ i.bytes = 24 := by
  have h := idInfo
  cases hq : Tryz.prog.info? 86 with
  | none => rw [hq] at h; cases h
  | some i =>
    rw [hq] at h
    simp only [Option.map_some, Option.some.injEq, Prod.mk.injEq] at h
    exact ⟨i, rfl, h.1, h.2.1, h.2.2⟩

/-- identifiers in a row of the call's own -/
def OIds (w : World) (base : Nat) (v : Value) (l : List Idn) : Prop := w.ownsRow base 86 3 v l.length (fl idC l)

theorem OIds.ids {w : World} {base : Nat} {v : Value} {l : List Idn} (h : OIds w base v l) : Ids w v l := Sl.of_own h

def IdsPost (w : World) (l : List Idn) (e : Ending) (w' : World) : Prop := ∃ v', e = .returned v' ∧ OIds w' w.heap.size v' l ∧ Up w w'

theorem add_off (b off j : Nat) : (⟨b, off, none⟩ : Addr).add j = ⟨b, off + j, none⟩ := by
  unfold Addr.add
  split
  · rename_i e; subst e; rfl
  · rfl

set_option maxRecDepth 100000 in
set_option maxHeartbeats 1000000 in
theorem cloneD_any (v : Value) (l : List Idn) (w : World) (h : Ids w v l) (hl : l.length ≤ 32) :
    Calls Tryz.prog 44 #[v] w (IdsPost w l) := by
  obtain ⟨i0, hi, hz0, hz1, hz2⟩ := idInfo'
  have HX := Lib.hid h
  obtain ⟨o, c, rfl, _, h3⟩ := h.slice
  unfold maxLen at h3
  have q22 : ∀ (w : World) (a : Option Addr) (n c n' c' : Nat), (binOp .eql 79 (.slice a n c) (.slice none n' c')).run Tryz.prog w = .ok (.bool a.isNone) w := fun w a n c n' c' => Lib.run_eql_slice_nil w _ _ a n c n' c' Tryz.underlying79
  cases o with
  | none =>
    have hn : l = [] := by
      by_cases e : l = []
      · exact e
      · obtain ⟨b, off, h1, _⟩ := h.at e; cases h1
    subst hn
    clear h
    go_enter Tryz.func44, Tryz.ntmps44
    go_wp2
    go_ret
    exact ⟨_, rfl, World.ownsRow_nil _ _ _ _, Up.refl _⟩
  | some ad =>
    have hcl : Hid (∀ j u, (fl idC l)[j]? = some u → w.cell? (ad.add j) = some u) := by
      intro j u hj
      have hne : l ≠ [] := by rintro rfl; simp [fl] at hj
      obtain ⟨b, off, sp⟩ := ad
      obtain ⟨b', off', h5, h6⟩ := Sl.cells h (by intro e; exact hne (List.eq_nil_of_length_eq_zero e))
      cases h5
      rw [add_off]
      exact h6 j u hj
    clear h HX
    go_enter Tryz.func44, Tryz.ntmps44
    go_wp2_with (at_builtin; refine wpList_append_own _ rfl _ _ 79 rfl w.heap.size 86 i0 _ 3 24 Tryz.underlying79 hi hz0 hz1 hz2 rfl (by omega) _ _ _ rfl (World.ownsRow_made w #[] 0 (Nat.le_refl _) (Nat.zero_le _) (by simp)) ad l.length c (fl idC l) rfl ?qc1 ?qc2 ?qc3 ?qc4 ?qc5 ?qc6 ?_)
    case qc1 => exact fl_length idC_len l
    case qc2 =>
      intro j u hj
      exact Lib.cell?_alloc_some _ (hcl.out j u hj)
    case qc3 => exact fl_one idC_one l
    case qc4 => unfold maxLen; omega
    case qc5 => omega
    case qc6 => simp
    intro v' w1 hown hgrow hnil
    have HO : Hid (OIds w1 w.heap.size v' l) := by
      show OIds w1 w.heap.size v' l
      unfold OIds
      simpa using hown
    have HU : Hid (Up w w1) := ((Below.refl _ w).alloc (Nat.le_refl _) _).grown hgrow (by simp) (by intro k hk; simp [Value.ownBlock] at hk; omega)
    clear hown hgrow hnil hcl
    go_wp2
    go_ret
    exact ⟨v', rfl, HO.out, HU.out⟩

end Go.Proofs.YtbeigaanlhaolaaGreatDoor

/-
  What vol's Blocks and Read return. Conditions: as each says.
-/
namespace Go.Proofs.YtbeigaanlhaolaaGreatDoor
open Go.RowKit
open Go.Proofs
open WoolBag
open WoolVol

theorem vfind_no {st : Sta} {s : List UInt8} (h0 : (vfind FP st s).2 ≠ 0) : (vfind FP st s).1 = 0 := by
  unfold vfind at h0 ⊢
  by_cases h1 : chkS FP st ≠ 0
  · rw [if_pos h1]
  · rw [if_neg h1] at h0 ⊢
    cases hx : vix (nmB s) st.v with
    | none => rfl
    | some k => rw [hx] at h0; simp at h0

theorem vloc_ok {st : Sta} {s : List UInt8} {a : Int} (h : (vloc FP st s a).2 = 0) : WoolVol.Good FP st ∧ ∃ k, ∃ hk : k < st.v.length, ∃ j : Nat, a = (j : Int) ∧ j < st.v[k].bl.length ∧ vloc FP st s a = (k, 0) ∧ st.v[k].nm = s ∧ vix (nmB s) st.v = some k := by
  unfold vloc at h ⊢
  by_cases h0 : (vfind FP st s).2 ≠ 0
  · rw [if_pos h0] at h; exact absurd h h0
  rw [if_neg h0] at h ⊢
  obtain ⟨h1, k, hk, hf, hn, hx⟩ := vfind_ok (by omega : (vfind FP st s).2 = 0)
  rw [hf] at h ⊢
  simp only at h ⊢
  rw [getElem!_pos st.v k hk] at h ⊢
  by_cases h2 : a < 0 ∨ (st.v[k].bl.length : Int) ≤ a
  · rw [if_pos h2] at h; simp at h
  · rw [if_neg h2]
    exact ⟨chkS_zero.1 h1, k, hk, a.toNat, by omega, by omega, rfl, hn, hx⟩

theorem vloc_no {st : Sta} {s : List UInt8} {a : Int} (h0 : (vloc FP st s a).2 ≠ 0) : (vloc FP st s a).1 = 0 := by
  unfold vloc at h0 ⊢
  split
  · rfl
  · rename_i h1
    rw [if_neg h1] at h0
    split
    · rfl
    · rename_i h2
      rw [if_neg h2] at h0
      exact absurd rfl h0

end Go.Proofs.YtbeigaanlhaolaaGreatDoor
