/-
  The texts BlO, LogK, one behind the other; each says below what it holds and on what conditions.
-/
import Derived.Test.YtnmdfdkagkpcaaaJVolOwn21
import Derived.Test.YtnmdfdkagkpcaaaJVolOwn22
import Derived.Test.YtnmdfdkagkpcaaaJVolOwn12
import Derived.Test.YtnmdfdkagkpcaaaJVolOwn16

/-
  What vol.Blocks returns is the call's own. Conditions: as it says.
-/
namespace Go.Proofs.Ytnmdfdkagkpcaaa
open Go.RowKit
open Go.Proofs
open WoolBag
open WoolVol

def BoPost (st : Sta) (s : List UInt8) (w : World) (e : Ending) (w' : World) : Prop := ∃ v', e = .returned (.tuple #[v', .int .i64 (blocks FP st s).2]) ∧ OIds w' w.heap.size v' (blocks FP st s).1 ∧ Up w w'

set_option maxRecDepth 100000 in
set_option maxHeartbeats 1000000 in
theorem blocks_own (v : Value) (st : Sta) (s : List UInt8) (w : World) (h : Stat w v st) (hwf : WfS st) :
    Calls Try.prog 16 #[v, .string (bs s)] w (BoPost st s w) := by
  have HF := Lib.hid (fun W (hW : Up w W) => vfind_any v st s W (h.up hW) hwf)
  obtain ⟨vb, vv, rfl, hb, hv⟩ := h
  have HV := Lib.hid hv
  obtain ⟨oB, cB, rfl, _⟩ := hb.slice
  obtain ⟨oV, cV, rfl, hV1, hV2⟩ := hv.slice
  unfold maxLen at hV2
  clear hb hv hwf
  by_cases h0 : (vfind FP st s).2 = 0
  · obtain ⟨hck, k, hk, hf, _, _⟩ := vfind_ok h0
    have hgood := chkS_zero.1 hck
    have HB : Hid (blocks FP st s = (st.v[k].bl, 0)) := by
      show _ = _
      unfold blocks
      rw [hf, if_neg (by simp), getElem!_pos st.v k hk]
    unfold findVR at HF
    rw [hf] at HF
    obtain ⟨b, off, rfl, h5⟩ := HV.out.at (by intro e; rw [e] at hk; simp at hk)
    obtain ⟨_, u, a2, hids⟩ := h5 k hk
    have hlen := (hgood.vol _ (List.getElem_mem hk)).2.1
    have HCL := Lib.hid (fun W (hW : Up w W) => cloneD_any u st.v[k].bl W (hids.up hW) hlen)
    obtain ⟨o', c', rfl, _, _⟩ := hids.slice
    have hblk := World.block_lt_of_cell? w _ a2
    have A2 := Lib.hid a2
    clear h5 hids HV a2 h0 hf hck hgood hlen
    simp only at HF
    generalize st.b.length = M at *
    obtain ⟨N, hN⟩ : ∃ N, st.v.length = N := ⟨_, rfl⟩
    have hkN : k < N := by omega
    rw [hN] at hV1 HF ⊢
    clear hN
    go_enter Try.func16, Try.ntmps16
    go_wp2_with fail
    refine (HF.out _ (Up.alloc _ _)).mono ?_
    rintro e w1 ⟨rfl, u1⟩
    have hsz : w.heap.size < (w.alloc (.cells #[.slice oB M cB, .slice (some ⟨b, off, none⟩) N cV] 31)).heap.size := by simp
    have b1 := (Below.cell u1 (p := ⟨w.heap.size, 1, none⟩) hsz).trans (World.cell?_alloc_new w #[.slice oB M cB, .slice (some ⟨b, off, none⟩) N cV] 31 1)
    have HU1 : Hid (Up w w1) := (Up.alloc _ _).trans u1
    have a2 := (HU1.out.cell hblk).trans A2.out
    clear u1 hsz
    go_wp2_with fail
    refine (HCL.out _ HU1.out).mono ?_
    rintro e w2 ⟨v2, rfl, ho2, u2⟩
    have HI2 := Lib.hid (own_base ho2 HU1.out.size)
    have HU2 : Hid (Up w w2) := HU1.out.trans u2
    clear ho2 u2
    go_wp2_with fail
    go_ret2
    exact ⟨v2, by rw [HB.out]; rfl, by rw [HB.out]; exact HI2.out, HU2.out⟩
  · obtain ⟨R, hR⟩ : ∃ R, (vfind FP st s).2 = R := ⟨_, rfl⟩
    have hz := vfind_no h0
    have HB : Hid (blocks FP st s = ([], R)) := by
      show _ = _
      unfold blocks
      rw [if_pos h0, hR]
    unfold findVR at HF
    rw [hR, hz] at HF
    rw [hR] at h0
    have hne : (R != 0) = true := by rw [bne_iff_ne]; exact h0
    clear hR hz h0 HV
    generalize st.b.length = M at *
    generalize st.v.length = N at *
    go_enter Try.func16, Try.ntmps16
    go_wp2_with fail
    refine (HF.out _ (Up.alloc _ _)).mono ?_
    rintro e w1 ⟨rfl, u1⟩
    have HU1 : Hid (Up w w1) := (Up.alloc _ _).trans u1
    clear u1
    go_wp2_with fail
    go_ret2
    exact ⟨_, by rw [HB.out]; rfl, by rw [HB.out]; exact World.ownsRow_nil _ _ _ _, HU1.out⟩

end Go.Proofs.Ytnmdfdkagkpcaaa

/-
  What package log's hasUnused and Check return. Conditions: a deed that a call can be handed.
-/
namespace Go.Proofs.Ytnmdfdkagkpcaaa
open Go.RowKit
open Go.Proofs
open WoolBag
open WoolVol

theorem empty_txt : (bs []).toList = [] := by rw [ByteArray.toList_eq, bs_list]

theorem bs_isEmpty (l : List UInt8) : (bs l).toList.isEmpty = l.isEmpty := by
  rw [ByteArray.toList_eq, bs_list]

/-- has a deed what its kind makes no use of? -/
def unB (o : Opn) : Bool := (!o.to.isEmpty && o.kd != 5) || ((!o.tx.isEmpty && o.kd != 3) || (o.pl != 0 && (o.kd == 2 || o.kd == 5)))

theorem chk_un (o : Opn) : chkO o = if o.kd < 1 ∨ 5 < o.kd then 1 else if nameB o.nm = false ∨ (o.kd = 5 ∧ nameB o.to = false) then 3 else if o.pl < 0 ∨ 32 < o.pl then 1 else if 64 < o.tx.length then 2 else if unB o = true then 3 else 0 := by
  have e : ((o.kd ≠ 5 ∧ o.to ≠ []) ∨ (o.kd ≠ 3 ∧ o.tx ≠ []) ∨ ((o.kd = 2 ∨ o.kd = 5) ∧ o.pl ≠ 0)) ↔ unB o = true := by
    unfold unB
    simp only [Bool.or_eq_true, Bool.and_eq_true, Bool.not_eq_true', List.isEmpty_eq_false_iff, bne_iff_ne, beq_iff_eq]
    constructor
    · rintro (⟨h1, h2⟩ | ⟨h1, h2⟩ | ⟨h1, h2⟩)
      · exact .inl ⟨h2, h1⟩
      · exact .inr (.inl ⟨h2, h1⟩)
      · exact .inr (.inr ⟨h2, h1⟩)
    · rintro (⟨h1, h2⟩ | ⟨h1, h2⟩ | ⟨h1, h2⟩)
      · exact .inl ⟨h2, h1⟩
      · exact .inr (.inl ⟨h2, h1⟩)
      · exact .inr (.inr ⟨h2, h1⟩)
  unfold chkO
  simp only [e]

theorem chkO_kd {o : Opn} (h : chkO o = 0) : 1 ≤ o.kd ∧ o.kd ≤ 5 := by
  unfold chkO at h
  by_cases h1 : o.kd < 1 ∨ 5 < o.kd
  · rw [if_pos h1] at h; cases h
  · omega

theorem text_cases (l : List UInt8) : (l = [] ∧ l.isEmpty = true) ∨ (0 < l.length ∧ l.isEmpty = false) := by
  cases l with
  | nil => exact .inl ⟨rfl, rfl⟩
  | cons _ _ => exact .inr ⟨by simp, rfl⟩

set_option maxRecDepth 100000 in
set_option maxHeartbeats 2000000 in
theorem hasUn_any (o : Opn) (w : World) : Calls Try.prog 75 #[opA o] w fun e w' => e = .returned (.bool (unB o)) ∧ Up w w' := by
  obtain ⟨kd, nm, ot, pl, tx⟩ := o
  unfold opA unB
  simp only
  have e1 := bs_isEmpty ot
  have e2 := bs_isEmpty tx
  have n1 : ∀ S : ByteArray, S.toList.isEmpty = true → S.toList = [] := fun S h => by simpa using h
  generalize ot.isEmpty = b1 at *
  generalize tx.isEmpty = b2 at *
  generalize bs nm = N
  generalize bs ot = S at *
  generalize bs tx = T at *
  cases b1 <;> cases b2
  · clear n1
    go_enter Try.func75, Try.ntmps75
    go_wp2_with fail
    all_goals (go_ret; refine ⟨?_, Up.alloc _ _⟩; first | (simp; done) | (simp; omega) | (simp_all; done) | (simp_all; omega))
  · have f2 := n1 T e2; clear n1
    go_enter Try.func75, Try.ntmps75
    go_wp2_with fail
    all_goals (go_ret; refine ⟨?_, Up.alloc _ _⟩; first | (simp; done) | (simp; omega) | (simp_all; done) | (simp_all; omega))
  · have f1 := n1 S e1; clear n1
    go_enter Try.func75, Try.ntmps75
    go_wp2_with fail
    all_goals (go_ret; refine ⟨?_, Up.alloc _ _⟩; first | (simp; done) | (simp; omega) | (simp_all; done) | (simp_all; omega))
  · have f1 := n1 S e1; have f2 := n1 T e2; clear n1
    go_enter Try.func75, Try.ntmps75
    go_wp2_with fail
    all_goals (go_ret; refine ⟨?_, Up.alloc _ _⟩; first | (simp; done) | (simp; omega) | (simp_all; done) | (simp_all; omega))

set_option maxRecDepth 100000 in
set_option maxHeartbeats 2000000 in
theorem checkO_any (o : Opn) (w : World) (ho : OpWf o) : Calls Try.prog 51 #[opA o] w fun e w' => e = .returned (.int .i64 (chkO o)) ∧ Up w w' := by
  have HU := Lib.hid (fun W => hasUn_any o W)
  have HN := Lib.hid (fun W => name_any o.nm W ho.2.1)
  have HT := Lib.hid (fun W => name_any o.to W ho.2.2.1)
  have hsz := bs_size o.tx
  have hl := ho.2.2.2.2
  obtain ⟨R, hR⟩ : ∃ R, chkO o = R := ⟨_, rfl⟩
  rw [hR]
  rw [chk_un] at hR
  clear ho
  unfold opA at *
  obtain ⟨kd, nm, ot, pl, tx⟩ := o
  simp only at *
  generalize unB ⟨kd, nm, ot, pl, tx⟩ = UB at *
  generalize nameB nm = NB at *
  generalize nameB ot = TB at *
  generalize tx.length = L at *
  generalize bs nm = N at *
  generalize bs ot = S at *
  generalize bs tx = T at *
  by_cases h1 : kd < 1 ∨ 5 < kd
  · rw [if_pos h1] at hR
    subst hR
    go_enter Try.func51, Try.ntmps51
    go_wp2_with fail
    all_goals first | omega | (go_ret; exact ⟨rfl, Up.alloc _ _⟩) | done
  rw [if_neg h1] at hR
  have k1 : decide (kd < 1) = false := decide_eq_false (by omega)
  have k2 : decide (5 < kd) = false := decide_eq_false (by omega)
  cases NB with
  | false =>
    rw [if_pos (.inl rfl)] at hR
    subst hR
    go_enter Try.func51, Try.ntmps51
    go_wp2_with fail
    refine (HN.out _).mono ?_
    rintro e w1 ⟨rfl, rfl⟩
    go_wp2_with fail
    go_ret
    exact ⟨rfl, Up.alloc _ _⟩
  | true =>
    by_cases h5 : kd = 5
    · subst h5
      cases TB with
      | false =>
        rw [if_pos (.inr ⟨rfl, rfl⟩)] at hR
        subst hR
        go_enter Try.func51, Try.ntmps51
        go_wp2_with fail
        refine (HN.out _).mono ?_
        rintro e w1 ⟨rfl, rfl⟩
        go_wp2_with fail
        refine (HT.out _).mono ?_
        rintro e w1 ⟨rfl, rfl⟩
        go_wp2_with fail
        go_ret
        exact ⟨rfl, Up.alloc _ _⟩
      | true =>
        rw [if_neg (by simp)] at hR
        by_cases h6 : pl < 0 ∨ 32 < pl
        · rw [if_pos h6] at hR
          subst hR
          go_enter Try.func51, Try.ntmps51
          go_wp2_with fail
          refine (HN.out _).mono ?_
          rintro e w1 ⟨rfl, rfl⟩
          go_wp2_with fail
          refine (HT.out _).mono ?_
          rintro e w1 ⟨rfl, rfl⟩
          go_wp2_with fail
          all_goals first | omega | (go_ret; exact ⟨rfl, Up.alloc _ _⟩) | done
        rw [if_neg h6] at hR
        have k3 : decide (pl < 0) = false := decide_eq_false (by omega)
        have k4 : decide (32 < pl) = false := decide_eq_false (by omega)
        by_cases h7 : 64 < L
        · rw [if_pos h7] at hR
          subst hR
          go_enter Try.func51, Try.ntmps51
          go_wp2_with fail
          refine (HN.out _).mono ?_
          rintro e w1 ⟨rfl, rfl⟩
          go_wp2_with fail
          refine (HT.out _).mono ?_
          rintro e w1 ⟨rfl, rfl⟩
          go_wp2_with fail
          all_goals first | omega | (go_ret; exact ⟨rfl, Up.alloc _ _⟩) | done
        rw [if_neg h7] at hR
        have k5 : decide (64 < (L : Int)) = false := decide_eq_false (by omega)
        go_enter Try.func51, Try.ntmps51
        go_wp2_with fail
        refine (HN.out _).mono ?_
        rintro e w1 ⟨rfl, rfl⟩
        go_wp2_with fail
        refine (HT.out _).mono ?_
        rintro e w1 ⟨rfl, rfl⟩
        go_wp2_with fail
        refine (HU.out _).mono ?_
        rintro e w1 ⟨rfl, u1⟩
        have HV := Lib.hid ((Up.alloc w (.cells #[.int .i64 5, .string N, .string S, .int .i64 pl, .string T] 44)).trans u1)
        have HR := Lib.hid hR
        clear hR
        cases UB <;> (go_wp2_with fail; go_ret; exact ⟨by rw [← HR.out]; rfl, HV.out⟩)
    · have hne : (kd == 5) = false := by rw [beq_eq_false_iff_ne]; exact h5
      rw [if_neg (by simp [h5])] at hR
      by_cases h6 : pl < 0 ∨ 32 < pl
      · rw [if_pos h6] at hR
        subst hR
        go_enter Try.func51, Try.ntmps51
        go_wp2_with fail
        refine (HN.out _).mono ?_
        rintro e w1 ⟨rfl, rfl⟩
        go_wp2_with fail
        all_goals first | omega | (go_ret; exact ⟨rfl, Up.alloc _ _⟩) | done
      rw [if_neg h6] at hR
      have k3 : decide (pl < 0) = false := decide_eq_false (by omega)
      have k4 : decide (32 < pl) = false := decide_eq_false (by omega)
      by_cases h7 : 64 < L
      · rw [if_pos h7] at hR
        subst hR
        go_enter Try.func51, Try.ntmps51
        go_wp2_with fail
        refine (HN.out _).mono ?_
        rintro e w1 ⟨rfl, rfl⟩
        go_wp2_with fail
        all_goals first | omega | (go_ret; exact ⟨rfl, Up.alloc _ _⟩) | done
      rw [if_neg h7] at hR
      have k5 : decide (64 < (L : Int)) = false := decide_eq_false (by omega)
      go_enter Try.func51, Try.ntmps51
      go_wp2_with fail
      refine (HN.out _).mono ?_
      rintro e w1 ⟨rfl, rfl⟩
      go_wp2_with fail
      refine (HU.out _).mono ?_
      rintro e w1 ⟨rfl, u1⟩
      have HV := Lib.hid ((Up.alloc w (.cells #[.int .i64 kd, .string N, .string S, .int .i64 pl, .string T] 44)).trans u1)
      have HR := Lib.hid hR
      clear hR
      cases UB <;> (go_wp2_with fail; go_ret; exact ⟨by rw [← HR.out]; rfl, HV.out⟩)

end Go.Proofs.Ytnmdfdkagkpcaaa
