/-
  The texts RefVol2, BagL, one behind the other; each says below what it holds and on what conditions.
-/
import Derived.Test.YtbeigaanlhaolaaGreatDoorJB12
import Derived.Test.YtbeigaanlhaolaaGreatDoorJB26
import Derived.Test.YtbeigaanlhaolaaGreatDoorJB30
import Derived.Test.YtbeigaanlhaolaaGreatDoorJB21
import Derived.Test.YtbeigaanlhaolaaGreatDoorJB04

/-
  What the reference's State returns. Conditions: as VolD's.
-/
namespace Go.Proofs.YtbeigaanlhaolaaGreatDoor
open Go.RowKit
open Go.Proofs
open WoolBag
open WoolVol

/-- cells that were just laid -/
theorem row_new (w : World) (L : List Value) (t : TypeId) : ∀ j u, L[j]? = some u → (w.alloc (.cells L.toArray t)).cell? ((⟨w.heap.size, 0, none⟩ : Addr).add j) = some u := by
  intro j u hj
  rw [add_off, Nat.zero_add, cell_of_row _ _ j _ _ _ (heap_alloc_new w _), ← hj]
  simp

theorem row_new1 (w : World) (X : Obj) (L : List Value) (t : TypeId) : ∀ j u, L[j]? = some u → ((w.alloc X).alloc (.cells L.toArray t)).cell? ((⟨w.heap.size + 1, 0, none⟩ : Addr).add j) = some u := by
  have h : (w.alloc X).heap.size = w.heap.size + 1 := by simp
  rw [← h]
  exact row_new _ L t

theorem OIds.more {w wr w3 : World} {base : Nat} {v v' : Value} {l : List Idn} {i : Idn} {o : Obj} (hu : Up w wr) (hb : w.heap.size ≤ base) (h : OIds wr base v l)
    (hown : w3.ownsRow base 86 3 v' (l.length + 1) (fl idC l ++ [.bool i.1, .int .i64 i.2.1, .int .i64 i.2.2])) (hg : (wr.alloc o).grownBy w3 v.ownBlock) : OIds w3 base v' (l ++ [i]) ∧ Up w w3 := by
  refine ⟨?_, Below.grown (hu.trans (Up.alloc _ _)) hg (hu.trans (Up.alloc _ _)).size (fun k hk => Nat.le_trans hb (World.ownsRow.lt h k hk).1)⟩
  unfold OIds
  rw [fl_append, List.length_append]
  exact hown

def RORel (st : Sta) (W0 : World) (bf all i : Value) (wr : World) : Prop :=
  ∃ (k : Nat) (p : List UInt8), k ≤ st.v.length ∧ i = .int .i64 k ∧ bf = .string (bs p) ∧ OIds wr W0.heap.size all (ids (st.v.take k)) ∧ Up W0 wr ∧ (ids (st.v.take k)).length ≤ 32 * k ∧ chkVs st.b [] st.v = chkVs st.b p (st.v.drop k)

def RIRel (x : Vo) (l : List Itm) (A : List Idn) (W0 : World) (all i : Value) (wr : World) : Prop :=
  ∃ k : Nat, k ≤ x.bl.length ∧ i = .int .i64 k ∧ OIds wr W0.heap.size all (A ++ x.bl.take k) ∧ Up W0 wr ∧ ∀ i ∈ x.bl.take k, errB l i = 0

theorem Items.at {w : World} {o : Option Addr} {n c : Nat} {l : List Itm} (h : Items w (.slice o n c) l) (hne : l ≠ []) : ∃ b off, o = some ⟨b, off, none⟩ ∧ ∀ k (h : k < l.length),
    w.cell? ⟨b, off + k * 4, none⟩ = some (.int .i64 l[k].s) ∧ w.cell? ⟨b, off + k * 4 + 1, none⟩ = some (.int .i64 l[k].n) ∧ w.cell? ⟨b, off + k * 4 + 2, none⟩ = some (.string (bs l[k].t)) ∧ w.cell? ⟨b, off + k * 4 + 3, none⟩ = some (.int .i64 l[k].r) := by
  obtain ⟨o', c', h1, _, _, h4⟩ := h
  cases h1
  exact h4.resolve_left hne

def R3Rel (l : List Itm) (A : List Idn) (w3 : World) (i : Value) (wr : World) : Prop :=
  ∃ m : Nat, m ≤ l.length ∧ i = .int .i64 m ∧ Up w3 wr ∧ ∀ x ∈ l.take m, (x.r == cnt A (idOf x)) = true

def R4Rel (A : List Idn) (z : Idn) (w5 : World) (n i : Value) (wr : World) : Prop :=
  ∃ m : Nat, m ≤ A.length ∧ i = .int .i64 m ∧ n = .int .i64 (cnt (A.take m) z) ∧ Up w5 wr

theorem OIds.up {w w' : World} {base : Nat} {v : Value} {l : List Idn} (h : OIds w base v l) (hu : Up w w') : OIds w' base v l := by
  refine World.ownsRow.kept h (grown_up hu none) ?_
  cases v.ownBlock with
  | none => exact .inl rfl
  | some b => exact .inr (by simp)

theorem cnt_take (A : List Idn) (m : Nat) (hm : m < A.length) (z : Idn) : cnt (A.take (m + 1)) z = cnt (A.take m) z + if A[m] = z then 1 else 0 := by
  rw [List.take_succ_eq_append_getElem hm, cnt_snoc]

set_option maxRecDepth 100000 in
set_option maxHeartbeats 4000000 in
theorem refState_any (v : Value) (st : Sta) (w : World) (h : Stat w v st) (hwf : WfS st) :
    Calls Tryz.prog 38 #[v] w fun e w' => e = .returned (.int .i64 (chkS FP st)) ∧ Up w w' := by
  obtain ⟨i0, hi, hz0, hz1, hz2⟩ := idInfo'
  obtain ⟨vb, vv, rfl, hb, hv⟩ := h
  have HRB := Lib.hid (fun W (hW : Up w W) => refBag_any vb st.b W (hb.up hW))
  have HIT := Lib.hid (fun ib is iN W (hW : Up w W) => refItem_any vb st.b ib is iN W (hb.up hW))
  obtain ⟨oB, cB, rfl, hcB⟩ := hb.slice
  obtain ⟨oV, cV, rfl, hV1, hV2⟩ := hv.slice
  unfold maxLen at hcB hV2
  have HBI := Lib.hid hb
  have HVI := Lib.hid hv
  have HWF := Lib.hid hwf
  have HI := Lib.hid hi
  have HZ0 := Lib.hid hz0
  have HZ1 := Lib.hid hz1
  have HZ2 := Lib.hid hz2
  obtain ⟨E, hE⟩ : ∃ E, chkS FP st = E := ⟨_, rfl⟩
  rw [hE]
  have HE := Lib.hid hE
  clear hE hb hv hwf hi hz0 hz1 hz2
  obtain ⟨R0, hR0⟩ : ∃ R0, chk FP st.b = R0 := ⟨_, rfl⟩
  have HR0 := Lib.hid hR0
  rw [hR0] at HRB
  clear hR0
  obtain ⟨N, hN⟩ : ∃ N, st.v.length = N := ⟨_, rfl⟩
  have HN := Lib.hid hN
  rw [hN] at hV1 HVI ⊢
  obtain ⟨M, hM⟩ : ∃ M, st.b.length = M := ⟨_, rfl⟩
  have HM := Lib.hid hM
  rw [hM] at HBI HRB HIT ⊢
  clear hN hM
  go_enter Tryz.func38, Tryz.ntmps38
  go_wp2_with fail
  refine (HRB.out _ (Up.alloc _ _)).mono ?_
  rintro e w1 ⟨rfl, u1⟩
  have HC : Hid ((w.alloc (.cells #[.slice oB M cB, .slice oV N cV] 36)).cell? ⟨w.heap.size, 0, none⟩ = some (.slice oB M cB) ∧ (w.alloc (.cells #[.slice oB M cB, .slice oV N cV] 36)).cell? ⟨w.heap.size, 1, none⟩ = some (.slice oV N cV)) := ⟨World.cell?_alloc_new w _ _ 0, World.cell?_alloc_new w _ _ 1⟩
  have HW0 : Hid (Up w (w.alloc (.cells #[.slice oB M cB, .slice oV N cV] 36))) := Up.alloc _ _
  have HSZ : Hid (w.heap.size < (w.alloc (.cells #[.slice oB M cB, .slice oV N cV] 36)).heap.size) := by show _ < _; simp
  have HU1 := Lib.hid u1
  clear u1
  generalize w.alloc (.cells #[.slice oB M cB, .slice oV N cV] 36) = W0 at HC HW0 HSZ HU1
  have b0 : w1.cell? ⟨w.heap.size, 0, none⟩ = some (.slice oB M cB) := (HU1.out.cell (p := ⟨w.heap.size, 0, none⟩) HSZ.out).trans HC.out.1
  have b1 : w1.cell? ⟨w.heap.size, 1, none⟩ = some (.slice oV N cV) := (HU1.out.cell (p := ⟨w.heap.size, 1, none⟩) HSZ.out).trans HC.out.2
  by_cases h0 : R0 = 0
  · subst h0
    have hbag : Bag FP st.b := (chk_zero FP).1 HR0.out
    have hlb : M ≤ 64 := by have := hbag.len; rw [HM.out] at this; exact this
    have HBAG := Lib.hid hbag
    by_cases hbig : 6 < N
    · have HE2 : Hid (E = 2) := by
        have := HE.out
        unfold chkS at this
        rw [HR0.out, HN.out, if_neg (by simp), if_pos hbig] at this
        exact this.symm
      clear HE
      go_wp2_with fail
      go_ret
      exact ⟨by rw [HE2.out]; rfl, HW0.out.trans HU1.out⟩
    · have hE3 : (if chkVs st.b [] st.v ≠ 0 then chkVs st.b [] st.v else refE st.b (ids st.v)) = E := by
        have := HE.out
        unfold chkS at this
        rw [HR0.out, HN.out, if_neg (by simp), if_neg hbig] at this
        exact this
      have HE3 := Lib.hid hE3
      clear HE hE3 hbag
      go_wp2_with fail
      go_loopw [4, 5, 28] (fun bf all i wr => RORel st W0 bf all i wr) (fun _ _ i _ => N - (intOf i).toNat)
      case atStart => exact ⟨0, [], Nat.zero_le _, rfl, rfl, World.ownsRow_nil _ _ _ _, HU1.out, by simp [ids], by simp⟩
      case round =>
        obtain ⟨k, p, hk, rfl, rfl, hown, hu, hlen, hck⟩ := hrel
        rw [HN.out] at hk
        clear b0 b1
        have c0 : wr.cell? ⟨w.heap.size, 0, none⟩ = some (.slice oB M cB) := (hu.cell (p := ⟨w.heap.size, 0, none⟩) HSZ.out).trans HC.out.1
        have HO := Lib.hid hown
        have HU := Lib.hid hu
        have HLEN := Lib.hid hlen
        clear hown hu hlen
        by_cases hlt : k < N
        · have hkl : k < st.v.length := by rw [HN.out]; exact hlt
          obtain ⟨b, off, rfl, h5⟩ := HVI.out.at (by intro e; rw [e] at hkl; simp at hkl)
          obtain ⟨a1, u, a2, hids⟩ := h5 k hkl
          have HUw : Hid (Up w wr) := HW0.out.trans HU.out
          have e1 := (HUw.out.cell (World.block_lt_of_cell? w _ a1)).trans a1
          have e2 := (HUw.out.cell (World.block_lt_of_cell? w _ a2)).trans a2
          obtain ⟨hwi, hnm⟩ := HWF.out _ (List.getElem_mem hkl)
          have HT := Lib.hid (ids_snoc st.v k hkl)
          rw [List.drop_eq_getElem_cons hkl] at hck
          have hck2 : chkVs st.b [] st.v = if chkV st.b p st.v[k] = 0 then chkVs st.b st.v[k].nm (st.v.drop (k + 1)) else chkV st.b p st.v[k] := hck
          have HCK := Lib.hid hck2
          obtain ⟨o', c', hu', hc1, hc2⟩ := hids.slice
          unfold maxLen at hc2
          subst hu'
          have HID := Lib.hid hids
          have HNM := Lib.hid (fun W => refName_any st.v[k].nm W hnm)
          have hle := sle_bs st.v[k].nm p
          obtain ⟨x, hx⟩ : ∃ x, st.v[k] = x := ⟨_, rfl⟩
          rw [hx] at e1 e2 HT HCK HID HNM hle hc1 hwi
          have HX := Lib.hid hx
          have HWI := Lib.hid hwi
          have d1 : decide (k < N) = true := decide_eq_true hlt
          clear h5 a1 a2 hck hck2 hids hwi hnm hx
          obtain ⟨q, hq⟩ : ∃ q, nameB x.nm = q := ⟨_, rfl⟩
          obtain ⟨r, hr⟩ : ∃ r, sle x.nm p = r := ⟨_, rfl⟩
          have HQR : Hid (nameB x.nm = q ∧ sle x.nm p = r) := ⟨hq, hr⟩
          rw [hq] at HNM
          rw [hr] at hle
          clear hq hr
          obtain ⟨nm, hnm⟩ : ∃ nm, bs x.nm = nm := ⟨_, rfl⟩
          have HNN := Lib.hid hnm
          rw [hnm] at HNM hle e1
          obtain ⟨L, hL⟩ : ∃ L, x.bl.length = L := ⟨_, rfl⟩
          have HL := Lib.hid hL
          rw [hL] at e2 hc1 HID
          clear hnm hL
          go_wp2_with fail
          refine (HNM.out _).mono ?_
          rintro e w2 ⟨rfl, u2⟩
          have hsz2 : wr.heap.size < (wr.alloc (.cells #[.string nm, .slice o' L c'] 81)).heap.size := by simp
          have f0 : w2.cell? ⟨wr.heap.size, 0, none⟩ = some (.string nm) := (u2.cell (p := ⟨wr.heap.size, 0, none⟩) hsz2).trans (World.cell?_alloc_new wr _ _ 0)
          have f1 : w2.cell? ⟨wr.heap.size, 1, none⟩ = some (.slice o' L c') := (u2.cell (p := ⟨wr.heap.size, 1, none⟩) hsz2).trans (World.cell?_alloc_new wr _ _ 1)
          have HU2 : Hid (Up wr w2) := (Up.alloc _ _).trans u2
          have HUW : Hid (Up W0 w2) := HU.out.trans HU2.out
          clear u2 hsz2
          have HBAD : Hid (chkV st.b p x ≠ 0 → E = chkV st.b p x) := by
            intro hne
            have := HE3.out
            rw [HCK.out, if_neg hne, if_pos hne] at this
            exact this.symm
          cases q with
          | false =>
            have HE5 : Hid (E = 3) := by
              have e : chkV st.b p x = 3 := by unfold chkV; rw [HQR.out.1]; rfl
              rw [← e]; exact HBAD.out (by rw [e]; omega)
            go_wp2_with fail
            go_ret
            exact ⟨by rw [HE5.out]; rfl, HW0.out.trans HUW.out⟩
          | true =>
            cases r with
            | true =>
              have HE5 : Hid (E = 3) := by
                have e : chkV st.b p x = 3 := by unfold chkV; rw [HQR.out.1, HQR.out.2]; rfl
                rw [← e]; exact HBAD.out (by rw [e]; omega)
              go_wp2_with fail
              go_ret
              exact ⟨by rw [HE5.out]; rfl, HW0.out.trans HUW.out⟩
            | false =>
              by_cases hb32 : 32 < L
              · have HE5 : Hid (E = 2) := by
                  have e : chkV st.b p x = 2 := by unfold chkV; rw [HQR.out.1, HQR.out.2, HL.out, if_neg (by simp), if_pos hb32]
                  rw [← e]; exact HBAD.out (by rw [e]; omega)
                go_wp2_with fail
                go_ret
                exact ⟨by rw [HE5.out]; rfl, HW0.out.trans HUW.out⟩
              · have HCV : Hid (chkV st.b p x = chkB st.b x.bl) := by
                  show _ = _
                  unfold chkV; rw [HQR.out.1, HQR.out.2, HL.out, if_neg (by simp), if_neg hb32]
                have HO2 : Hid (OIds w2 W0.heap.size u5 (ids (st.v.take k))) := HO.out.up HU2.out
                go_wp2_with fail
                go_loopw [5, 51] (fun all i wr => RIRel x st.b (ids (st.v.take k)) W0 all i wr) (fun _ i _ => L - (intOf i).toNat)
                case atStart => exact ⟨0, Nat.zero_le _, rfl, by simpa using HO2.out, HUW.out, by simp⟩
                case round =>
                  obtain ⟨j, hj, rfl, hownr, hur, her⟩ := hrel
                  rw [HL.out] at hj
                  have HOr := Lib.hid hownr
                  have HUr := Lib.hid hur
                  have HER := Lib.hid her
                  have c0 : wr.cell? ⟨w.heap.size, 0, none⟩ = some (.slice oB M cB) := (HUr.out.cell (p := ⟨w.heap.size, 0, none⟩) HSZ.out).trans HC.out.1
                  clear hownr hur her f0 f1
                  by_cases hlj : j < L
                  · have hjl : j < x.bl.length := by rw [HL.out]; exact hlj
                    obtain ⟨b', off', rfl, h6⟩ := HID.out.at (by intro e; rw [e] at hjl; simp at hjl)
                    obtain ⟨a1, a2, a3⟩ := h6 j hjl
                    have HUwr : Hid (Up w wr) := HW0.out.trans HUr.out
                    have g1 := (HUwr.out.cell (World.block_lt_of_cell? w _ a1)).trans a1
                    have g2 := (HUwr.out.cell (World.block_lt_of_cell? w _ a2)).trans a2
                    have g3 := (HUwr.out.cell (World.block_lt_of_cell? w _ a3)).trans a3
                    have HTJ : Hid (x.bl.take (j + 1) = x.bl.take j ++ [x.bl[j]]) := List.take_succ_eq_append_getElem hjl
                    have hstep := chkB_step HER.out
                    rw [List.drop_eq_getElem_cons hjl] at hstep
                    have HBAD2 : Hid (errB st.b x.bl[j] ≠ 0 → E = errB st.b x.bl[j]) := by
                      intro hne
                      have e : chkV st.b p x = errB st.b x.bl[j] := by
                        rw [HCV.out, hstep]
                        show (if errB st.b x.bl[j] = 0 then _ else _) = _
                        rw [if_neg hne]
                      rw [← e]; exact HBAD.out (by rw [e]; exact hne)
                    obtain ⟨xi, hxi⟩ : ∃ xi, x.bl[j] = xi := ⟨_, rfl⟩
                    rw [hxi] at g1 g2 g3 HTJ HBAD2
                    obtain ⟨xb, xs, xn⟩ := xi
                    simp only at g1 g2 g3
                    have d2 : decide (j < L) = true := decide_eq_true hlj
                    clear h6 a1 a2 a3 hstep hxi
                    cases xb with
                    | false =>
                      by_cases hz : xs = 0 ∧ xn = 0
                      · obtain ⟨rfl, rfl⟩ := hz
                        have HEJ : Hid (errB st.b (false, 0, 0) = 0) := rfl
                        have U3 : Hid (Up wr (wr.alloc (.cells #[.bool false, .int .i64 0, .int .i64 0] 86))) := Up.alloc _ _
                        have HUW3 : Hid (Up W0 (wr.alloc (.cells #[.bool false, .int .i64 0, .int .i64 0] 86))) := HUr.out.trans U3.out
                        have HO3 : Hid (OIds (wr.alloc (.cells #[.bool false, .int .i64 0, .int .i64 0] 86)) W0.heap.size u5 (ids (st.v.take k) ++ x.bl.take j)) := HOr.out.up U3.out
                        have hlen3 : (ids (st.v.take k) ++ x.bl.take j).length ≤ 1000 := by rw [List.length_append, List.length_take]; have := HLEN.out; omega
                        go_wp2_with (at_builtin; refine wpList_append_own _ rfl _ _ 79 rfl W0.heap.size 86 i0 (.agg #[.bool false, .int .i64 0, .int .i64 0]) 3 24 Tryz.underlying79 HI.out HZ0.out HZ1.out HZ2.out rfl (by decide) _ _ _ rfl (World.ownsRow.alloc HO3.out _) ⟨wr.heap.size + 1, 0, none⟩ 1 1 [.bool false, .int .i64 0, .int .i64 0] rfl rfl (row_new1 _ _ _ _) (by simp [Value.oneCell']) (by unfold maxLen; omega) (by omega) (by have := HUW3.out.size; simp at this ⊢; omega) ?_; intro v' w4 hown4 hgrow4 _)
                        obtain ⟨hot, hu4⟩ := OIds.more (i := (false, 0, 0)) HUW3.out (Nat.le_refl _) HO3.out hown4 hgrow4
                        have HOT : Hid (OIds w4 W0.heap.size v' (ids (st.v.take k) ++ x.bl.take (j + 1))) := by
                          rw [HTJ.out, ← List.append_assoc]; exact hot
                        have HU4 := Lib.hid hu4
                        clear hot hu4 hown4 hgrow4
                        go_wp2_with fail
                        go_roundw
                        case rel => exact ⟨j + 1, by rw [HL.out]; omega, by go_num, HOT.out, HU4.out, by rw [HTJ.out]; intro i hi; rw [List.mem_append] at hi; rcases hi with hi | hi; exact HER.out i hi; simp at hi; subst hi; exact HEJ.out⟩
                        case measure => simp only [intOf]; omega
                      · have he3 : errB st.b (false, xs, xn) = 3 := by
                          unfold errB noId
                          rw [if_pos]
                          simp
                          intro h1 h2
                          exact hz ⟨h1, h2⟩
                        have HE5 : Hid (E = 3) := by rw [← he3]; exact HBAD2.out (by rw [he3]; omega)
                        clear he3
                        go_wp2_with fail
                        all_goals
                          first
                          | (exfalso; omega)
                          | (go_ret; exact ⟨by rw [HE5.out]; rfl, HUwr.out.trans (Up.alloc _ _)⟩)
                    | true =>
                      have HIT2 := Lib.hid (fun W hW => HIT.out true xs xn W hW)
                      cases hany : st.b.any (idB (true, xs, xn)) with
                      | true =>
                        have HEJ : Hid (errB st.b (true, xs, xn) = 0) := by
                          show _ = _
                          unfold errB; rw [hany]; rfl
                        have hge : 0 ≤ ixI (idB (true, xs, xn)) st.b := by have := ixI_any (idB (true, xs, xn)) st.b; rw [hany] at this; simpa using this
                        obtain ⟨I0, hI0⟩ : ∃ I0, ixI (idB (true, xs, xn)) st.b = I0 := ⟨_, rfl⟩
                        rw [hI0] at HIT2 hge
                        have c0' := Lib.cell?_alloc_some (.cells #[.bool true, .int .i64 xs, .int .i64 xn] 86) c0
                        clear hany hI0
                        go_wp2_with fail
                        refine (HIT2.out _ (HUwr.out.trans (Up.alloc _ _))).mono ?_
                        rintro e W3 ⟨rfl, u3⟩
                        have U3 : Hid (Up wr W3) := (Up.alloc _ _).trans u3
                        have hsz3 : wr.heap.size < (wr.alloc (.cells #[.bool true, .int .i64 xs, .int .i64 xn] 86)).heap.size := by simp
                        have p0 : W3.cell? ⟨wr.heap.size, 0, none⟩ = some (.bool true) := (u3.cell (p := ⟨wr.heap.size, 0, none⟩) hsz3).trans (World.cell?_alloc_new wr _ _ 0)
                        have p1 : W3.cell? ⟨wr.heap.size, 1, none⟩ = some (.int .i64 xs) := (u3.cell (p := ⟨wr.heap.size, 1, none⟩) hsz3).trans (World.cell?_alloc_new wr _ _ 1)
                        have p2 : W3.cell? ⟨wr.heap.size, 2, none⟩ = some (.int .i64 xn) := (u3.cell (p := ⟨wr.heap.size, 2, none⟩) hsz3).trans (World.cell?_alloc_new wr _ _ 2)
                        clear u3 hsz3
                        have HUW3 : Hid (Up W0 W3) := HUr.out.trans U3.out
                        have HO3 : Hid (OIds W3 W0.heap.size u5 (ids (st.v.take k) ++ x.bl.take j)) := HOr.out.up U3.out
                        have hlen3 : (ids (st.v.take k) ++ x.bl.take j).length ≤ 1000 := by rw [List.length_append, List.length_take]; have := HLEN.out; omega
                        go_wp2_with (at_builtin; refine wpList_append_own _ rfl _ _ 79 rfl W0.heap.size 86 i0 (.agg #[.bool false, .int .i64 0, .int .i64 0]) 3 24 Tryz.underlying79 HI.out HZ0.out HZ1.out HZ2.out rfl (by decide) _ _ _ rfl (World.ownsRow.alloc HO3.out _) ⟨(W3).heap.size, 0, none⟩ 1 1 [.bool true, .int .i64 xs, .int .i64 xn] rfl rfl (row_new _ _ _) (by simp [Value.oneCell']) (by unfold maxLen; omega) (by omega) (by have := HUW3.out.size; simp at this ⊢; omega) ?_; intro v' w4 hown4 hgrow4 _)
                        obtain ⟨hot, hu4⟩ := OIds.more (i := (true, xs, xn)) HUW3.out (Nat.le_refl _) HO3.out hown4 hgrow4
                        have HOT : Hid (OIds w4 W0.heap.size v' (ids (st.v.take k) ++ x.bl.take (j + 1))) := by
                          rw [HTJ.out, ← List.append_assoc]; exact hot
                        have HU4 := Lib.hid hu4
                        clear hot hu4 hown4 hgrow4
                        go_wp2_with fail
                        go_roundw
                        case rel => exact ⟨j + 1, by rw [HL.out]; omega, by go_num, HOT.out, HU4.out, by rw [HTJ.out]; intro i hi; rw [List.mem_append] at hi; rcases hi with hi | hi; exact HER.out i hi; simp at hi; subst hi; exact HEJ.out⟩
                        case measure => simp only [intOf]; omega
                      | false =>
                        have he4 : errB st.b (true, xs, xn) = 4 := by
                          unfold errB; rw [hany]; rfl
                        have HE5 : Hid (E = 4) := by rw [← he4]; exact HBAD2.out (by rw [he4]; omega)
                        have hlt0 : ixI (idB (true, xs, xn)) st.b < 0 := by have := ixI_any (idB (true, xs, xn)) st.b; rw [hany] at this; simpa using this
                        obtain ⟨I0, hI0⟩ : ∃ I0, ixI (idB (true, xs, xn)) st.b = I0 := ⟨_, rfl⟩
                        rw [hI0] at HIT2 hlt0
                        have c0' := Lib.cell?_alloc_some (.cells #[.bool true, .int .i64 xs, .int .i64 xn] 86) c0
                        clear hany hI0 he4
                        go_wp2_with fail
                        refine (HIT2.out _ (HUwr.out.trans (Up.alloc _ _))).mono ?_
                        rintro e W3 ⟨rfl, u3⟩
                        have U3 : Hid (Up w W3) := (HUwr.out.trans (Up.alloc _ _)).trans u3
                        clear u3
                        go_wp2_with fail
                        go_ret
                        exact ⟨by rw [HE5.out]; rfl, U3.out⟩
                  · have d2 : decide (j < L) = false := decide_eq_false hlj
                    have hte : x.bl.take j = x.bl := List.take_of_length_le (by rw [HL.out]; omega)
                    have hz : chkV st.b p x = 0 := by rw [HCV.out, chkB_zero]; have := HER.out; rw [hte] at this; exact this
                    have HOE : Hid (OIds wr W0.heap.size u5 (ids (st.v.take (k + 1)))) := by
                      show OIds _ _ _ _
                      rw [HT.out]
                      have := HOr.out
                      rw [hte] at this
                      exact this
                    have hck := HCK.out
                    rw [if_pos hz] at hck
                    have HCK2 := Lib.hid hck
                    have HLL : Hid ((ids (st.v.take (k + 1))).length ≤ 32 * (k + 1)) := by
                      show _ ≤ _
                      rw [HT.out, List.length_append, HL.out]; have := HLEN.out; omega
                    clear hck hz hte
                    go_wp2_with fail
                    go_roundw
                    case rel => exact ⟨k + 1, x.nm, by rw [HN.out]; omega, by go_num, by rw [HNN.out], HOE.out, HUr.out, HLL.out, HCK2.out⟩
                    case measure => simp only [intOf]; omega
        · have d1 : decide (k < N) = false := decide_eq_false hlt
          have hke : k = st.v.length := by rw [HN.out]; omega
          rw [hke, List.drop_length] at hck
          have HE4 : Hid (refE st.b (ids st.v) = E) := by
            have := HE3.out
            rw [hck] at this
            show _ = _
            simpa [chkVs] using this
          have HO2 : Hid (OIds wr W0.heap.size u5 (ids st.v)) := by
            have := HO.out
            rw [hke, List.take_length] at this
            exact this
          obtain ⟨A, hA⟩ : ∃ A, ids st.v = A := ⟨_, rfl⟩
          have hAl : A.length ≤ 200 := by
            have := HLEN.out
            rw [hke, List.take_length, hA, HN.out] at this
            omega
          rw [hA] at HE4 HO2
          obtain ⟨oA, cA, hu5, hA1, hA2⟩ := HO2.out.ids.slice
          subst hu5
          unfold maxLen at hA2
          have HIA := Lib.hid HO2.out.ids
          clear hck hke hA HO HE3
          have HUw : Hid (Up w wr) := HW0.out.trans HU.out
          go_wp2_with fail
          go_loopw [86] (fun i wr' => R3Rel st.b A wr i wr') (fun i _ => M - (intOf i).toNat)
          case atStart => exact ⟨0, Nat.zero_le _, rfl, Up.refl _, by simp⟩
          case round =>
            obtain ⟨m, hm, rfl, hur, hall⟩ := hrel
            rw [HM.out] at hm
            have HUr : Hid (Up w wr) := HUw.out.trans hur
            have HIAr := Lib.hid (HIA.out.up hur)
            have HALL := Lib.hid hall
            have HUr3 := Lib.hid hur
            clear hur hall
            by_cases hlm : m < M
            · have hml : m < st.b.length := by rw [HM.out]; exact hlm
              obtain ⟨b, off, rfl, h5⟩ := HBI.out.at (by intro e; rw [e] at hml; simp at hml)
              obtain ⟨a1, a2, a3, a4⟩ := h5 m hml
              rw [← HUr.out.cell (World.block_lt_of_cell? w _ a1)] at a1
              rw [← HUr.out.cell (World.block_lt_of_cell? w _ a2)] at a2
              rw [← HUr.out.cell (World.block_lt_of_cell? w _ a3)] at a3
              rw [← HUr.out.cell (World.block_lt_of_cell? w _ a4)] at a4
              have HTM : Hid (st.b.take (m + 1) = st.b.take m ++ [st.b[m]]) := List.take_succ_eq_append_getElem hml
              have HF : Hid ((st.b[m].r == cnt A (idOf st.b[m])) = false → E = 11) := by
                intro hz
                rw [← HE4.out]
                unfold refE
                rw [if_neg]
                unfold refsB
                rw [List.all_eq_true]
                intro hz2
                rw [hz2 _ (List.getElem_mem hml)] at hz
                cases hz
              generalize st.b[m] = x at *
              obtain ⟨xs, xn, xt, xr⟩ := x
              simp only at a1 a2 a3 a4 HF
              have d2 : decide (m < M) = true := decide_eq_true hlm
              have hoff : off + m * 4 + 0 = off + m * 4 := rfl
              clear h5 hoff
              generalize bs xt = xT at *
              go_wp2_with fail
              have HQ : Hid ((wr.alloc (.cells #[.int .i64 xs, .int .i64 xn, .string xT, .int .i64 xr] 89)).cell? ⟨wr.heap.size, 0, none⟩ = some (.int .i64 xs) ∧ (wr.alloc (.cells #[.int .i64 xs, .int .i64 xn, .string xT, .int .i64 xr] 89)).cell? ⟨wr.heap.size, 1, none⟩ = some (.int .i64 xn) ∧ (wr.alloc (.cells #[.int .i64 xs, .int .i64 xn, .string xT, .int .i64 xr] 89)).cell? ⟨wr.heap.size, 3, none⟩ = some (.int .i64 xr)) := ⟨World.cell?_alloc_new wr _ _ 0, World.cell?_alloc_new wr _ _ 1, World.cell?_alloc_new wr _ _ 3⟩
              have HSZ5 : Hid (wr.heap.size < (wr.alloc (.cells #[.int .i64 xs, .int .i64 xn, .string xT, .int .i64 xr] 89)).heap.size) := by show _ < _; simp
              have HU5 : Hid (Up wr (wr.alloc (.cells #[.int .i64 xs, .int .i64 xn, .string xT, .int .i64 xr] 89))) := Up.alloc _ _
              generalize wr.alloc (.cells #[.int .i64 xs, .int .i64 xn, .string xT, .int .i64 xr] 89) = W5 at HQ HSZ5 HU5 ⊢
              have HIA5 := Lib.hid (HIAr.out.up HU5.out)
              have HUw5 : Hid (Up w W5) := HUr.out.trans HU5.out
              have HU35 := Lib.hid (HUr3.out.trans HU5.out)
              clear a1 a2 a3 a4 HUr HIAr HU5 HUr3
              generalize wr.heap.size = O at HQ HSZ5 ⊢
              go_loopw [12, 92] (fun n i wr' => R4Rel A (true, xs, xn) W5 n i wr') (fun _ i _ => A.length - (intOf i).toNat)
              case atStart => exact ⟨0, Nat.zero_le _, rfl, by simp [cnt], Up.refl _⟩
              case round =>
                obtain ⟨j, hj, rfl, rfl, hu5⟩ := hrel
                have q0 : wr.cell? ⟨O, 0, none⟩ = some (.int .i64 xs) := (hu5.cell (p := ⟨O, 0, none⟩) HSZ5.out).trans HQ.out.1
                have q1 : wr.cell? ⟨O, 1, none⟩ = some (.int .i64 xn) := (hu5.cell (p := ⟨O, 1, none⟩) HSZ5.out).trans HQ.out.2.1
                have q3 : wr.cell? ⟨O, 3, none⟩ = some (.int .i64 xr) := (hu5.cell (p := ⟨O, 3, none⟩) HSZ5.out).trans HQ.out.2.2
                have hc1 := cnt_nonneg (A.take j) (true, xs, xn)
                have hc2 := cnt_le (A.take j) (true, xs, xn)
                rw [List.length_take] at hc2
                by_cases hlj : j < A.length
                · obtain ⟨b', off', rfl, h6⟩ := HIA5.out.at (by intro e; rw [e] at hlj; simp at hlj)
                  obtain ⟨a1, a2, a3⟩ := h6 j hlj
                  have g1 := (hu5.cell (World.block_lt_of_cell? W5 _ a1)).trans a1
                  have g2 := (hu5.cell (World.block_lt_of_cell? W5 _ a2)).trans a2
                  have g3 := (hu5.cell (World.block_lt_of_cell? W5 _ a3)).trans a3
                  have hst := cnt_take A j hlj (true, xs, xn)
                  obtain ⟨yi, hyi⟩ : ∃ yi, A[j] = yi := ⟨_, rfl⟩
                  rw [hyi] at g1 g2 g3 hst
                  obtain ⟨yb, ys, yn⟩ := yi
                  simp only at g1 g2 g3
                  obtain ⟨Z, hZ⟩ : ∃ Z, cnt (A.take j) (true, xs, xn) = Z := ⟨_, rfl⟩
                  rw [hZ] at hc1 hc2 hst ⊢
                  have d3 : decide (j < A.length) = true := decide_eq_true hlj
                  have HU6 := Lib.hid hu5
                  have hw : IntKind.i64.wrap (Z + 1) = Z + 1 := IntWalk.i64_in _ (by omega)
                  clear h6 a1 a2 a3 hyi hZ hu5
                  have q0' := Lib.cell?_alloc_some (.cells #[.bool yb, .int .i64 ys, .int .i64 yn] 86) q0
                  have q1' := Lib.cell?_alloc_some (.cells #[.bool yb, .int .i64 ys, .int .i64 yn] 86) q1
                  clear q3
                  by_cases hit : (yb, ys, yn) = ((true, xs, xn) : Idn)
                  · rw [if_pos hit] at hst
                    simp only [Prod.mk.injEq] at hit
                    obtain ⟨rfl, rfl, rfl⟩ := hit
                    have HST := Lib.hid hst
                    clear hst
                    go_wp2_with fail
                    go_roundw
                    case rel => exact ⟨j + 1, by omega, by go_num, by rw [HST.out], HU6.out.trans (Up.alloc _ _)⟩
                    case measure => simp only [intOf]; omega
                  · rw [if_neg hit] at hst
                    have HST := Lib.hid hst
                    clear hst
                    cases yb with
                    | false =>
                      go_wp2_with fail
                      go_roundw
                      case rel => exact ⟨j + 1, by omega, by go_num, by rw [HST.out]; simp, HU6.out.trans (Up.alloc _ _)⟩
                      case measure => simp only [intOf]; omega
                    | true =>
                      by_cases h1 : ys = xs
                      · subst h1
                        have h2 : (yn == xn) = false := by
                          cases h3 : (yn == xn) with
                          | false => rfl
                          | true => rw [beq_iff_eq] at h3; exact absurd (by rw [h3]) hit
                        go_wp2_with fail
                        go_roundw
                        case rel => exact ⟨j + 1, by omega, by go_num, by rw [HST.out]; simp, HU6.out.trans (Up.alloc _ _)⟩
                        case measure => simp only [intOf]; omega
                      · have h2 : (ys == xs) = false := by simpa using h1
                        go_wp2_with fail
                        go_roundw
                        case rel => exact ⟨j + 1, by omega, by go_num, by rw [HST.out]; simp, HU6.out.trans (Up.alloc _ _)⟩
                        case measure => simp only [intOf]; omega
                · have d3 : decide (j < A.length) = false := decide_eq_false hlj
                  have hte : A.take j = A := List.take_of_length_le (by omega)
                  rw [hte] at hc1 hc2 ⊢
                  have HU6 := Lib.hid hu5
                  obtain ⟨Z, hZ⟩ : ∃ Z, cnt A (true, xs, xn) = Z := ⟨_, rfl⟩
                  have HZZ := Lib.hid hZ
                  rw [hZ] at hc1 hc2 ⊢
                  have hF := HF.out
                  have hid : idOf ⟨xs, xn, xt, xr⟩ = (true, xs, xn) := rfl
                  rw [hid, hZ] at hF
                  have HF2 := Lib.hid hF
                  clear hF hte hZ hu5 hid q0 q1
                  cases heq : (xr == Z) with
                  | true =>
                    rw [beq_iff_eq] at heq
                    subst heq
                    go_wp2_with fail
                    go_roundw
                    case rel => exact ⟨m + 1, by rw [HM.out]; omega, by go_num, HU35.out.trans HU6.out, by rw [HTM.out]; intro y hy; rw [List.mem_append] at hy; rcases hy with hy | hy; exact HALL.out y hy; simp at hy; subst hy; exact beq_iff_eq.2 HZZ.out.symm⟩
                    case measure => simp only [intOf]; omega
                  | false =>
                    have HE7 := Lib.hid (HF2.out heq)
                    have hne : (Z != xr) = true := by
                      rw [bne_iff_ne]
                      intro e
                      subst e
                      simp at heq
                    clear heq
                    go_wp2_with fail
                    go_ret
                    exact ⟨by rw [HE7.out]; rfl, HUw5.out.trans HU6.out⟩
            · have d2 : decide (m < M) = false := decide_eq_false hlm
              have hte : st.b.take m = st.b := List.take_of_length_le (by rw [HM.out]; omega)
              have HE6 : Hid (E = 0) := by
                rw [← HE4.out]
                show _ = _
                unfold refE refsB
                rw [if_pos]
                rw [List.all_eq_true]
                have := HALL.out
                rw [hte] at this
                exact this
              clear hte
              go_wp2_with fail
              go_ret
              exact ⟨by rw [HE6.out]; rfl, HUr.out⟩
  · have hne : (R0 != 0) = true := by rw [bne_iff_ne]; exact h0
    have HE2 : Hid (E = R0) := by
      have := HE.out
      unfold chkS at this
      rw [HR0.out, if_pos h0] at this
      exact this.symm
    clear HE h0
    go_wp2_with fail
    go_ret
    exact ⟨by rw [HE2.out]; rfl, HW0.out.trans HU1.out⟩

end Go.Proofs.YtbeigaanlhaolaaGreatDoor

/-
  What the helpers of the laws on bags return: two, refs, used, and slices.Equal of two rows of items that read alike. Conditions: as each says.
-/
namespace Go.Proofs.YtbeigaanlhaolaaGreatDoor
open Go.RowKit
open Go.Proofs
open WoolBag

/-- the two blocks -/
def one1 : List Itm := (WoolBag.put FP [] [97]).1
def twoL : List Itm := (WoolBag.put FP one1 [98]).1

def EqIRel (N : Nat) (w : World) (i : Value) (wr : World) : Prop := ∃ k : Nat, k ≤ N ∧ i = .int .i64 k ∧ Up w wr

set_option maxRecDepth 100000 in
set_option maxHeartbeats 400000 in
theorem equalI_yes (v1 v2 : Value) (l : List Itm) (w : World) (h1 : Items w v1 l) (h2 : Items w v2 l) :
    Calls Tryz.prog 48 #[v1, v2] w fun e w' => e = .returned (.bool true) ∧ Up w w' := by
  obtain ⟨o1, c1, rfl, p1, p2, p3⟩ := h1
  obtain ⟨o2, c2, rfl, q1, q2, q3⟩ := h2
  have HP := Lib.hid p3
  have HQ := Lib.hid q3
  unfold maxLen at p2 q2
  clear p3 q3
  go_enter Tryz.func48, Tryz.ntmps48
  go_wp2_with fail
  go_loopw [13] (fun i wr => EqIRel l.length w i wr) (fun i _ => l.length - (intOf i).toNat)
  case atStart => exact ⟨0, Nat.zero_le _, rfl, Up.refl w⟩
  case round =>
    obtain ⟨k, hk, rfl, hu⟩ := hrel
    by_cases hlt : k < l.length
    · rcases HP.out with h5 | ⟨b, off, rfl, h5⟩
      · rw [h5] at hlt; simp at hlt
      · rcases HQ.out with h6 | ⟨b', off', rfl, h6⟩
        · rw [h6] at hlt; simp at hlt
        · obtain ⟨e1, e2, e3, e4⟩ := h5 k hlt
          rw [← hu.cell (World.block_lt_of_cell? w _ e1)] at e1
          rw [← hu.cell (World.block_lt_of_cell? w _ e2)] at e2
          rw [← hu.cell (World.block_lt_of_cell? w _ e3)] at e3
          rw [← hu.cell (World.block_lt_of_cell? w _ e4)] at e4
          obtain ⟨f1, f2, f3, f4⟩ := h6 k hlt
          rw [← hu.cell (World.block_lt_of_cell? w _ f1)] at f1
          rw [← hu.cell (World.block_lt_of_cell? w _ f2)] at f2
          rw [← hu.cell (World.block_lt_of_cell? w _ f3)] at f3
          rw [← hu.cell (World.block_lt_of_cell? w _ f4)] at f4
          generalize l[k].s = xs at e1 f1
          generalize l[k].n = xn at e2 f2
          generalize bs l[k].t = xt at e3 f3
          generalize l[k].r = xr at e4 f4
          have HU := Lib.hid hu
          have d1 : decide (k < l.length) = true := decide_eq_true hlt
          clear h5 h6 hu
          go_wp2_with fail
          go_quiet (fail)
          go_wp2_with fail
          go_roundw
          case rel => exact ⟨k + 1, by omega, by go_num, HU.out.trans (Up.drewN _ _)⟩
          case measure => simp only [intOf]; omega
    · have d1 : decide (k < l.length) = false := decide_eq_false hlt
      go_wp2_with fail
      go_ret
      exact ⟨rfl, hu⟩

end Go.Proofs.YtbeigaanlhaolaaGreatDoor
