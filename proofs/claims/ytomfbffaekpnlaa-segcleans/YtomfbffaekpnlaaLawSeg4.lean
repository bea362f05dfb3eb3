/-
  The law SegCleans: Live and Clean of package seg answer what the document says. Condition: the arguments can be read.
-/
import Derived.Test.YtomfbffaekpnlaaSegR
import Derived.Test.YtomfbffaekpnlaaSgJ
import Derived.Test.YtomfbffaekpnlaaRSeg1
import Derived.Test.YtomfbffaekpnlaaRSeg3
import Derived.Test.YtomfbffaekpnlaaRSeg5
import Derived.Test.YtomfbffaekpnlaaRfJ
import Derived.Deep.RegionHeld3
import Derived.Deep.QuietTactic
import Derived.BigQuiet
namespace Go.Proofs.Ytomfbffaekpnlaa
open Go.RowKit
open Go.Proofs
open WoolBag
open WoolSeg

/-- the first place of the least, so far -/
def BestP (A : List Nat) (k B : Nat) : Prop := (k = 0 ∧ B = 0) ∨ (B < k ∧ (∀ j, j < k → A.getD B 0 ≤ A.getD j 0) ∧ ∀ j, j < B → A.getD B 0 < A.getD j 0)

theorem BestP.lt {A : List Nat} {k B : Nat} (h : BestP A k B) : B < k + 1 := by
  rcases h with ⟨_, rfl⟩ | ⟨h, _⟩ <;> omega
theorem BestP.take {A : List Nat} {k B : Nat} (h : BestP A k B) (hlt : A.getD k 0 < A.getD B 0) : BestP A (k + 1) k := by
  rcases h with ⟨rfl, rfl⟩ | ⟨h1, h2, h3⟩
  · omega
  · refine .inr ⟨by omega, fun j hj => ?_, fun j hj => ?_⟩
    · by_cases e : j = k
      · subst e; omega
      · have := h2 j (by omega); omega
    · have := h2 j (by omega); omega
theorem BestP.keep {A : List Nat} {k B : Nat} (h : BestP A k B) (hlt : ¬ A.getD k 0 < A.getD B 0) : BestP A (k + 1) B := by
  rcases h with ⟨rfl, rfl⟩ | ⟨h1, h2, h3⟩
  · refine .inr ⟨by omega, fun j hj => ?_, fun j hj => by omega⟩
    have : j = 0 := by omega
    subst this
    exact Nat.le_refl _
  · refine .inr ⟨by omega, fun j hj => ?_, h3⟩
    by_cases e : j = k
    · subst e; omega
    · exact h2 j (by omega)
theorem BestP.least {A : List Nat} {B : Nat} (h : BestP A A.length B) (hn : A ≠ []) : B = least A := by
  have hp := List.length_pos_iff.2 hn
  rcases h with ⟨h, _⟩ | ⟨h1, h2, h3⟩
  · omega
  · obtain ⟨k1, k2, k3⟩ := least_spec hn
    have eB : A.getD B 0 = A[B] := by rw [List.getD_eq_getElem?_getD, List.getElem?_eq_getElem h1]; rfl
    have eL : A.getD (WoolSeg.least A) 0 = A[WoolSeg.least A] := by rw [List.getD_eq_getElem?_getD, List.getElem?_eq_getElem k1]; rfl
    rcases Nat.lt_trichotomy B (WoolSeg.least A) with hl | hl | hl
    · have a1 := k3 B hl
      have a2 := h2 _ k1
      rw [eB, eL] at a2
      omega
    · exact hl
    · have a1 := h3 _ hl
      have a2 := k2 B h1
      rw [eB, eL] at a1
      omega

/-- takings of segments, and the first least of them, so far -/
def ClnRel (A : List Nat) (W0 : World) (t b i : Value) (wr : World) : Prop :=
  ∃ k B : Nat, k ≤ A.length ∧ i = .int .i64 (k : Int) ∧ b = .int .i64 (B : Int) ∧ BestP A k B ∧ ONs wr W0.heap.size t (A.take k) ∧ Up W0 wr

theorem Sgs.front {w : World} {o : Option Addr} {n c : Nat} {l : List (List Rc)} (h : Sgs w (.slice o n c) l) (k : Nat) (hk : k ≤ l.length) : Sgs w (.slice o k c) (l.take k) := by
  obtain ⟨C, ⟨h0, o', c', h1, h2, h3, h4⟩, hr⟩ := h
  have hlC := hr.len
  simp only [Value.slice.injEq] at h1
  obtain ⟨rfl, rfl, rfl⟩ := h1
  have hlen : (C.take k).length = k := by rw [List.length_take]; omega
  refine ⟨C.take k, ⟨by rw [Nat.mul_one], o, c, by rw [hlen], by omega, h3, ?_⟩, ⟨by rw [List.length_take, List.length_take, hlC], fun j hj => ?_⟩⟩
  · rcases h4 with h4 | ⟨b, off, h5, h6⟩
    · left; omega
    · right
      refine ⟨b, off, h5, fun j u hj => h6 j u ?_⟩
      rw [List.getElem?_take] at hj
      split at hj
      · exact hj
      · cases hj
  · rw [List.length_take] at hj
    rw [List.getElem_take, List.getElem_take]
    exact hr.rd j (by omega)

theorem liveC_bad {l : List (List Rc)} (b : List Itm) (h : WoolSeg.chk l ≠ 0) : WoolSeg.live FP l b = ([], WoolSeg.chk l) ∧ WoolSeg.clean FP l b = ([], WoolSeg.chk l) := by
  unfold WoolSeg.live WoolSeg.clean
  rw [if_pos h, if_pos h]
  exact ⟨rfl, rfl⟩

set_option maxRecDepth 100000 in
set_option maxHeartbeats 8000000 in
theorem segCleans_walk (a0 : Option Addr) (len0 cap0 : Nat) (z0 : List (List Rc)) (a1 : Option Addr) (len1 cap1 : Nat) (z1 : List Itm) (w : World) (w0 : Sgs w (.slice a0 len0 cap0) z0) (x0 : ∀ s ∈ z0, s.length ≤ 1000000000000000) (w1 : Items w (.slice a1 len1 cap1) z1) :
    Calls Try.prog 4 #[.slice a0 len0 cap0, .slice a1 len1 cap1] w fun e w' => e = .returned (.bool true) ∧ Up w w' := by
  have HLV := Lib.hid (fun W (hW : Up w W) => live_any _ _ z0 z1 W (w0.up hW) (w1.up hW) x0)
  have HCL := Lib.hid (fun W (hW : Up w W) => cleanS_any _ _ z0 z1 W (w0.up hW) (w1.up hW) x0)
  have HSG := Lib.hid (fun W (hW : Up w W) => refSegs_any _ z0 W (w0.up hW) x0)
  have HBG := Lib.hid (fun W (hW : Up w W) => refBag_any _ z1 W (w1.up hW))
  have HAL := Lib.hid (fun (hr : Right z0) (hb : Bag FP z1) W (hW : Up w W) => refAlive_any _ _ z0 z1 W (w0.up hW) (w1.up hW) hr hb)
  have HX := Lib.hid w0
  obtain ⟨⟨LA, LE⟩, hL⟩ : ∃ R, WoolSeg.live FP z0 z1 = R := ⟨_, rfl⟩
  obtain ⟨⟨CA, CE⟩, hC⟩ : ∃ R, WoolSeg.clean FP z0 z1 = R := ⟨_, rfl⟩
  rw [hL] at HLV
  rw [hC] at HCL
  have HBAD : Hid (WoolSeg.chk z0 ≠ 0 → (LA = [] ∧ LE = WoolSeg.chk z0) ∧ CA = [] ∧ CE = WoolSeg.chk z0) := fun h => by
    obtain ⟨h1, h2⟩ := liveC_bad z1 h
    rw [hL] at h1
    rw [hC] at h2
    exact ⟨Prod.mk.inj h1, Prod.mk.inj h2⟩
  have HBAD2 : Hid (WoolSeg.chk z0 = 0 → WoolBag.chk FP z1 ≠ 0 → (LA = [] ∧ LE = WoolBag.chk FP z1) ∧ CA = [] ∧ CE = WoolBag.chk FP z1) := fun h h' => by
    have hb : ¬ Bag FP z1 := fun hb => h' ((WoolBag.chk_zero FP).2 hb)
    have h1 := (live_bad (chk_zero.1 h) hb).1
    have h2 := (clean_bad (chk_zero.1 h) hb).1
    rw [hL] at h1
    rw [hC] at h2
    exact ⟨Prod.mk.inj h1, Prod.mk.inj h2⟩
  have HOK : Hid (WoolSeg.chk z0 = 0 → WoolBag.chk FP z1 = 0 → Right z0 ∧ Bag FP z1) := fun h h' => ⟨chk_zero.1 h, (WoolBag.chk_zero FP).1 h'⟩
  have HOKL : Hid (Right z0 → Bag FP z1 → LA = (alive z1 z0).map takes ∧ LE = 0) := fun h h' => by
    have h1 := live_ok h h'
    rw [hL] at h1
    exact Prod.mk.inj h1
  have HOKN : Hid (Bag FP z1 → z0 = [] → CA = [] ∧ CE = 4) := fun h' hn => by
    subst hn
    have h1 := clean_none h'
    rw [hC] at h1
    exact Prod.mk.inj h1
  have HOKC : Hid (Right z0 → Bag FP z1 → z0 ≠ [] → CA = cleaned z1 z0 ∧ CE = 0) := fun h h' hn => by
    have h1 := clean_ok h h' hn
    rw [hC] at h1
    exact Prod.mk.inj h1
  obtain ⟨K, hK⟩ : ∃ K, WoolSeg.chk z0 = K := ⟨_, rfl⟩
  obtain ⟨M, hM⟩ : ∃ M, WoolBag.chk FP z1 = M := ⟨_, rfl⟩
  rw [hK] at HSG HBAD HBAD2 HOK
  rw [hM] at HBG HBAD2 HOK
  clear hL hC hK hM w0 w1 x0
  go_enter Try.func4, Try.ntmps4
  go_wp2_with fail
  refine (HLV.out _ (Up.refl _)).mono ?_
  rintro e w1 ⟨v1, rfl, ho1, u1⟩
  have HU1 := Lib.hid u1
  have HN1 := Lib.hid ho1.ns
  obtain ⟨o1, c1, hv1, _, _⟩ := ho1.ns.slice
  obtain ⟨nL, hnL⟩ : ∃ n, LA.length = n := ⟨_, rfl⟩
  have HNL := Lib.hid hnL
  rw [show (LA, LE).1.length = nL from hnL] at hv1
  subst hv1
  clear ho1 u1 hnL HLV
  go_wp2_with fail
  refine (HCL.out _ HU1.out).mono ?_
  rintro e w2 ⟨v2, rfl, ho2, u2⟩
  have HU2 := Lib.hid (HU1.out.trans u2)
  have HN2 := Lib.hid (HN1.out.up u2)
  have HS2 := Lib.hid ho2.sgs
  obtain ⟨o2, c2, hv2, _, _⟩ := ho2.sgs.slice
  obtain ⟨nC, hnC⟩ : ∃ n, CA.length = n := ⟨_, rfl⟩
  have HNC := Lib.hid hnC
  rw [show (CA, CE).1.length = nC from hnC] at hv2
  subst hv2
  clear ho2 u2 hnC HCL HU1 HN1
  go_wp2_with fail
  refine (HSG.out _ HU2.out).mono ?_
  rintro e w3 ⟨rfl, u3⟩
  have HU3 := Lib.hid (HU2.out.trans u3)
  have HN3 := Lib.hid (HN2.out.up u3)
  have HS3 := Lib.hid (HS2.out.up u3)
  clear u3 HSG HU2 HN2 HS2
  by_cases hk : K = 0
  case neg =>
    obtain ⟨⟨rfl, rfl⟩, rfl, rfl⟩ := HBAD.out hk
    have hn0 : nL = 0 := HNL.out.symm
    have hc0 : nC = 0 := HNC.out.symm
    subst hn0
    subst hc0
    have d0 : (CE == 0) = false := by simpa using hk
    have d1 : (CE != 0) = true := bne_iff_ne.2 hk
    have d2 : (CE == CE) = true := by simp
    clear hk HBAD HBAD2
    go_wp2_with fail
    go_ret
    exact ⟨rfl, HU3.out⟩
  subst hk
  have HBD := Lib.hid (HBAD2.out rfl)
  have HOK1 := Lib.hid (HOK.out rfl)
  clear HBAD HBAD2 HOK
  go_wp2_with fail
  refine (HBG.out _ HU3.out).mono ?_
  rintro e w4 ⟨rfl, u4⟩
  have HU4 := Lib.hid (HU3.out.trans u4)
  have HN4 := Lib.hid (HN3.out.up u4)
  have HS4 := Lib.hid (HS3.out.up u4)
  clear u4 HBG HU3 HN3 HS3
  by_cases hm : M = 0
  case neg =>
    obtain ⟨⟨rfl, rfl⟩, rfl, rfl⟩ := HBD.out hm
    have hn0 : nL = 0 := HNL.out.symm
    have hc0 : nC = 0 := HNC.out.symm
    subst hn0
    subst hc0
    have d0 : (CE == 0) = false := by simpa using hm
    have d1 : (CE != 0) = true := bne_iff_ne.2 hm
    have d2 : (CE == CE) = true := by simp
    clear hm HBD
    go_wp2_with fail
    go_ret
    exact ⟨rfl, HU4.out⟩
  subst hm
  obtain ⟨hright, hbag⟩ := HOK1.out rfl
  have HRI := Lib.hid hright
  have HBA := Lib.hid hbag
  obtain ⟨hLA, rfl⟩ := HOKL.out hright hbag
  have HAL2 := Lib.hid (HAL.out hright hbag)
  clear HBD HOK1 HAL HOKL hright hbag
  go_wp2_with fail
  refine (HAL2.out _ HU4.out).mono ?_
  rintro e w5 ⟨v5, rfl, ho5, u5⟩
  have HU5 := Lib.hid (HU4.out.trans u5)
  have HN5 := Lib.hid (HN4.out.up u5)
  have HS5 := Lib.hid (HS4.out.up u5)
  have HG5 := Lib.hid ho5.sgs
  obtain ⟨o5, c5, hv5, _, _⟩ := ho5.sgs.slice
  have hl16 := HRI.out.len
  have HGL : Hid ((alive z1 z0).length = z0.length) := alive_length z1 z0
  obtain ⟨n, hn⟩ : ∃ n, z0.length = n := ⟨_, rfl⟩
  have HN := Lib.hid hn
  rw [HGL.out, hn] at hv5
  rw [hn] at hl16 HGL
  subst hv5
  have HT := Lib.hid (alive_takes (b := z1) HRI.out)
  have HBE : Hid (WoolSeg.best z1 z0 = WoolSeg.least ((alive z1 z0).map takes)) := rfl
  have HCE : Hid (cleaned z1 z0 = stand (z0.eraseIdx (WoolSeg.best z1 z0)) ((alive z1 z0)[WoolSeg.best z1 z0]?.getD [])) := rfl
  have HGE : Hid (∀ k (hk : k < (alive z1 z0).length), ∀ r ∈ (alive z1 z0)[k], errR r = 0) := fun k hk r hr => by
    have hk' : k < z0.length := by rw [HN.out, ← HGL.out]; exact hk
    rw [alive_get hk'] at hr
    exact errR_zero.2 ((HRI.out.seg _ (List.getElem_mem hk')).ok r ((aliveS_sub _ _ _).subset hr))
  generalize alive z1 z0 = G at HG5 HGL HT HBE HCE HGE hLA
  subst hLA
  clear ho5 u5 HU4 HN4 HS4 HAL2 hn
  obtain ⟨A, hA⟩ : ∃ A, G.map takes = A := ⟨_, rfl⟩
  have HAK : Hid (∀ k (hk : k < G.length), A.getD k 0 = takes G[k]) := fun k hk => by
    rw [← hA, List.getD_eq_getElem?_getD, List.getElem?_map, List.getElem?_eq_getElem hk]
    rfl
  have HLA : Hid (A.length = n) := by show _ = _; rw [← hA, List.length_map]; exact HGL.out
  rw [hA] at HN5 HBE HNL
  have hnL : nL = n := HNL.out.symm.trans HLA.out
  subst hnL
  clear hA
  have HWF : Hid (ClnRel A w5 (.slice none 0 0) (.int .i64 0) (.int .i64 0) w5) := ⟨0, 0, Nat.zero_le _, rfl, rfl, .inl ⟨rfl, rfl⟩, ONs.nil _ _, Up.refl _⟩
  obtain ⟨i0, hi, hz0, hz1, hz2⟩ := info_parts inInfoS
  have HI := Lib.hid hi
  have HZ0 := Lib.hid hz0
  have HZ1 := Lib.hid hz1
  have HZ2 := Lib.hid hz2
  clear hi hz0 hz1 hz2
  go_wp2_with fail
  go_loopw [11, 12, 58] (fun t b i wr => ClnRel A w5 t b i wr) (fun _ _ i _ => nL - (intOf i).toNat)
  case atStart => exact HWF.out
  case round =>
    obtain ⟨k, B, hk, rfl, rfl, hbest, ho, hu⟩ := hrel
    rw [HLA.out] at hk
    have HU := Lib.hid hu
    have HO := Lib.hid ho
    have HBP := Lib.hid hbest
    by_cases hlt : k < nL
    · have hkG : k < G.length := by rw [HGL.out]; exact hlt
      obtain ⟨bA, offA, hoA, hat⟩ := HG5.out.at (by intro e; rw [e] at hkG; simp at hkG)
      obtain ⟨x, a0', hx⟩ := hat k hkG
      subst hoA
      rw [← hu.cell (World.block_lt_of_cell? _ _ a0')] at a0'
      have htk := HT.out _ (List.getElem_mem hkG)
      have HTX := Lib.hid (refTakes_any x G[k] wr (hx.up hu) (by omega))
      have hak := HAK.out k hkG
      obtain ⟨T, hT⟩ : ∃ T, takes G[k] = T := ⟨_, rfl⟩
      rw [hT] at HTX hak htk
      have hkA : k < A.length := by rw [HLA.out]; exact hlt
      have hgk : A[k] = T := by rw [← hak, List.getD_eq_getElem?_getD, List.getElem?_eq_getElem hkA]; rfl
      have HTA : Hid (A.take (k + 1) = A.take k ++ [T]) := by
        show _ = _
        rw [List.take_succ_eq_append_getElem hkA, hgk]
      have hlen : (A.take k).length = k := by rw [List.length_take]; omega
      have HLK := Lib.hid hlen
      have hBk := hbest.lt
      have hBA : B < A.length := by omega
      obtain ⟨TB, hTB⟩ : ∃ TB, A.getD B 0 = TB := ⟨_, rfl⟩
      have hgB : A[B] = TB := by rw [← hTB, List.getD_eq_getElem?_getD, List.getElem?_eq_getElem hBA]; rfl
      have HGB : Hid (∀ h, A[B]'h = TB) := fun _ => hgB
      have HGK : Hid (∀ h, A[k]'h = T) := fun _ => hgk
      have HTK : Hid (T < TB → BestP A (k + 1) k) := fun h => hbest.take (by rw [hak, hTB]; exact h)
      have HKP : Hid (¬ T < TB → BestP A (k + 1) B) := fun h => hbest.keep (by rw [hak, hTB]; exact h)
      have d1 : decide (k < nL) = true := decide_eq_true hlt
      have HKA := Lib.hid hkA
      clear hat hu ho hx hT hak hgk hlen hTB hgB hbest htk hkA hBA
      go_wp2_with fail
      refine HTX.out.mono ?_
      rintro e w6 ⟨rfl, u6⟩
      have HU6 : Hid (Up w5 w6) := HU.out.trans u6
      have HO6 : Hid (ONs w6 w5.heap.size u11 (A.take k)) := own_upS HO.out u6
      clear u6
      go_wp2_with (at_builtin; refine wpList_append_own _ rfl _ _ 36 rfl w5.heap.size 3 i0 (.int .i64 0) 1 8 Try.underlying36 HI.out HZ0.out HZ1.out HZ2.out rfl (by decide) _ _ _ rfl (World.ownsRow.alloc HO6.out _) ⟨w6.heap.size, 0, none⟩ 1 1 [.int .i64 (T : Int)] rfl rfl ?qc2 (by simp [Value.oneCell']) (by have := HLK.out; unfold maxLen; omega) (by have := HLK.out; omega) ?qc6 ?_)
      case qc2 =>
        have hr : RowC (w6.alloc (.cells #[.int .i64 (T : Int)] 3)) w6.heap.size 3 [.int .i64 (T : Int)] := heap_alloc_new w6 _
        intro j u hj
        rw [add_offS]
        have := hr.cell hj
        simpa using this
      case qc6 =>
        have := HU6.out.size
        simp
        omega
      intro v7 w7 hown hgrow hnil
      have HO7 : Hid (ONs w7 w5.heap.size v7 (A.take (k + 1))) := by
        show w7.ownsRow _ _ 1 _ _ _
        have e1 : (A.take (k + 1)).length = min k A.length + 1 := by rw [HTA.out, List.length_append, List.length_take]; rfl
        have e2 : Go.Proofs.Ytomfbffaekpnlaa.nL (A.take (k + 1)) = Go.Proofs.Ytomfbffaekpnlaa.nL (A.take k) ++ [.int .i64 (T : Int)] := by rw [HTA.out]; unfold Go.Proofs.Ytomfbffaekpnlaa.nL; rw [List.map_append]; rfl
        rw [e1, e2]
        exact hown
      have HU7 : Hid (Up w5 w7) := Below.grown (HU6.out.trans (Up.alloc _ _)) hgrow (HU6.out.trans (Up.alloc _ _)).size (fun q hq => (World.ownsRow.lt HO6.out q hq).1)
      obtain ⟨o7, c7, hv7, hlc, _⟩ := HO7.out.ns.slice
      have hl7 : (A.take (k + 1)).length = k + 1 := by rw [List.length_take]; have := HKA.out; omega
      have hne7 : A.take (k + 1) ≠ [] := by intro e; rw [e] at hl7; simp at hl7
      rw [hl7] at hv7
      subst hv7
      obtain ⟨b7, off7, ho7, hat7⟩ := HO7.out.ns.at hne7
      subst ho7
      have y0 := hat7 k (by omega)
      have y1 := hat7 B (by omega)
      rw [List.getElem_take, HGK.out _] at y0
      rw [List.getElem_take, HGB.out _] at y1
      have hB0 : (0 : Int) ≤ (B : Int) := Int.natCast_nonneg _
      have hk0 : (0 : Int) ≤ (k : Int) := Int.natCast_nonneg _
      have hB1 : (B : Int) < ((k + 1 : Nat) : Int) := by omega
      have hk1 : (k : Int) < ((k + 1 : Nat) : Int) := by omega
      have hk15 : k ≤ 15 := by omega
      clear hown hgrow hnil hat7 hl7 hne7 hlc
      by_cases htb : T < TB
      · have d2 : decide (T < TB) = true := decide_eq_true htb
        have d3 : decide ((T : Int) < (TB : Int)) = true := decide_eq_true (by omega)
        have HBN := Lib.hid (HTK.out htb)
        clear htb
        go_wp2_with fail
        go_quiet (fail)
        all_goals
          go_wp2_with fail
          go_roundw
          case rel => exact ⟨k + 1, k, by rw [HLA.out]; omega, by go_num, rfl, HBN.out, own_upS HO7.out (Up.drewN _ _), HU7.out.trans (Up.drewN _ _)⟩
          case measure => simp only [intOf]; omega
      · have d2 : decide (T < TB) = false := decide_eq_false htb
        have d3 : decide ((T : Int) < (TB : Int)) = false := decide_eq_false (by omega)
        have HBN := Lib.hid (HKP.out htb)
        clear htb
        go_wp2_with fail
        go_quiet (fail)
        all_goals
          go_wp2_with fail
          go_roundw
          case rel => exact ⟨k + 1, B, by rw [HLA.out]; omega, by go_num, rfl, HBN.out, own_upS HO7.out (Up.drewN _ _), HU7.out.trans (Up.drewN _ _)⟩
          case measure => simp only [intOf]; omega
    · have d1 : decide (k < nL) = false := decide_eq_false hlt
      have hkn : nL = k := by omega
      rw [List.take_of_length_le (by rw [HLA.out]; omega)] at ho
      have hbf : BestP A A.length B := by rw [HLA.out, hkn]; exact hbest
      have HBF := Lib.hid hbf
      have HTN := Lib.hid ho.ns
      have HUf := Lib.hid (HU5.out.trans hu)
      have HNf := Lib.hid (HN5.out.up hu)
      have HSf := Lib.hid (HS5.out.up hu)
      have HGf := Lib.hid (HG5.out.up hu)
      obtain ⟨oT, cT, hvT, _, _⟩ := ho.ns.slice
      rw [HLA.out] at hvT
      subst hvT
      obtain ⟨o', c', hv, hcc, _⟩ := HX.out.slice
      simp only [Value.slice.injEq] at hv
      obtain ⟨ha00, hl0, hc0⟩ := hv
      clear ha00
      rw [HN.out] at hl0 hcc
      rw [← hc0] at hcc
      have hl1 := hl0.symm
      subst hl1
      have HCC0 := Lib.hid hcc
      clear hu ho hk hbest hlt hkn hbf hl0 hc0 hcc HU5 HN5 HS5 HG5 HU HO HBP
      go_wp2_with fail
      refine (equalN_yes _ _ A _ HNf.out HTN.out (by rw [HLA.out]; omega)).mono ?_
      rintro e w8 ⟨rfl, u8⟩
      have HU8 := Lib.hid (HUf.out.trans u8)
      have HS8 := Lib.hid (HSf.out.up u8)
      have HG8 := Lib.hid (HGf.out.up u8)
      have HX8 := Lib.hid (HX.out.up HU8.out)
      clear u8 HUf HNf HSf HGf HTN
      by_cases hn0 : z0 = []
      · obtain ⟨hCA, hCE⟩ := HOKN.out HBA.out hn0
        have hz : nL = 0 := by rw [← HN.out, hn0]; rfl
        have hc0 : nC = 0 := by rw [← HNC.out, hCA]; rfl
        subst hCE
        subst hc0
        subst hz
        clear hCA hn0
        go_wp2_with fail
        go_ret
        exact ⟨rfl, HU8.out⟩
      · obtain ⟨hCA, hCE⟩ := HOKC.out HRI.out HBA.out hn0
        have hpos : 0 < nL := by rw [← HN.out]; exact List.length_pos_iff.2 hn0
        have hAne : A ≠ [] := by intro e; have := HLA.out; rw [e] at this; simp at this; omega
        have hBl := HBF.out.least hAne
        have hBn : B < nL := by
          obtain ⟨h, _⟩ := least_spec hAne
          rw [← hBl, HLA.out] at h
          exact h
        have hBG : B < G.length := by rw [HGL.out]; exact hBn
        have hcl : CA = stand (z0.take B ++ z0.drop (B + 1)) G[B] := by
          rw [hCA, HCE.out, HBE.out, ← hBl, List.eraseIdx_eq_take_drop_succ, List.getElem?_eq_getElem hBG]
          rfl
        subst hCE
        obtain ⟨bb, off, ha0, _⟩ := HX8.out.at hn0
        subst ha0
        obtain ⟨b5, off5, ho5, hat5⟩ := HG8.out.at (by intro e; rw [e] at hBG; simp at hBG)
        subst ho5
        obtain ⟨xB, e1, hxB⟩ := hat5 B hBG
        have hbl := World.block_lt_of_cell? _ _ e1
        obtain ⟨AA, hAA, hcut⟩ := HX8.out.cut (B + 1) (by rw [HN.out]; omega)
        rw [HN.out] at hcut
        have hfront := HX8.out.front B (by rw [HN.out]; omega)
        have hsegs : ∀ s ∈ z0.take B ++ z0.drop (B + 1), Seg s := fun s hs => by
          rcases List.mem_append.1 hs with h | h
          · exact HRI.out.seg _ (List.mem_of_mem_take h)
          · exact HRI.out.seg _ (List.mem_of_mem_drop h)
        have hlen : (z0.take B ++ z0.drop (B + 1)).length ≤ 16 := by
          rw [List.length_append, List.length_take, List.length_drop, HN.out]
          omega
        have h100 : G[B].length ≤ 100 := by
          have h1 := HT.out _ (List.getElem_mem hBG)
          have h2 := takes_len G[B]
          omega
        have HER := HGE.out B hBG
        have HCC : Hid (∀ W', Up (w8.alloc (.cells #[.slice (some ⟨bb, off, none⟩) B cap0, .slice (some AA) (nL - (B + 1)) (cap0 - (B + 1))] 22)) W' → Calls Try.prog 16 #[.slice (some ⟨w8.heap.size, 0, none⟩) 2 2] W' (SnPost W' (z0.take B ++ z0.drop (B + 1)))) := fun W' hW =>
          cat2_any w8 W' _ _ _ _ hfront hcut (by rw [List.length_append] at hlen; omega) hW
        have HSD : Hid (∀ W v, Up w8 W → Sgs W v (z0.take B ++ z0.drop (B + 1)) → Calls Try.prog 8 #[v, xB] W (SnPost W CA)) := fun W v hW hv => by
          have h1 := refStand_any v xB _ G[B] W hv (hxB.up hW) hsegs HER hlen h100
          rw [hcl]
          exact h1
        have HSS : Hid (∀ W v, Up w8 W → Sgs W v CA → Calls Try.prog 9 #[.slice o2 nC c2, v] W fun e w' => e = .returned (.bool true) ∧ Up W w') := fun W v hW hv => sameSegs_yes _ _ CA W (HS8.out.up hW) hv
        have hcc := HCC0.out
        obtain ⟨LL, hLL⟩ : ∃ LL, z0.take B ++ z0.drop (B + 1) = LL := ⟨_, rfl⟩
        rw [hLL] at HCC HSD
        have hBc : B ≤ cap0 := by omega
        have hBci : (B : Int) ≤ (cap0 : Int) := by omega
        have p1 : IntKind.i64.wrap ((B : Int) + 1) = (B : Int) + 1 := IntWalk.i64_in _ (by omega)
        have p2 : (0 : Int) ≤ (B : Int) + 1 := by omega
        have p3 : (B : Int) + 1 ≤ (nL : Int) := by omega
        have p4 : ((B : Int) + 1).toNat = B + 1 := by omega
        have p5 : (0 : Int) ≤ (B : Int) := by omega
        have p6 : (B : Int) < (nL : Int) := by omega
        have p7 : (nL == 0) = false := by rw [beq_eq_false_iff_ne]; omega
        have p8 : ((nL : Int) == 0) = false := by rw [beq_eq_false_iff_ne]; omega
        clear hCA hAne hBl hBG hcl hat5 hxB hcut hfront hsegs hlen h100 HER hLL hpos hn0 HCC0 HT HBE HCE HGE HAK HBF
        go_wp2_with fail
        go_region_held3 (fun U => U.cell? ⟨b5, off5 + B, none⟩ = some xB) (go_keep)
          (first
            | (go_at_call 16; ((with_reducible refine (HCC.out _ (by first | exact Up.drew _ | exact Up.refl _)).mono ?_); rintro e wa ⟨va, rfl, hsa, ua⟩; have hAa : Up w8 wa := (by first | exact (Up.alloc _ _).trans ((Up.drew _).trans ua) | exact (Up.alloc _ _).trans ua); have y0 := (Below.cell hAa (p := ⟨b5, off5 + B, none⟩) hbl).trans e1))
            | (go_at_call 8; ((with_reducible refine (HSD.out _ _ (by first | exact hAa | exact hAa.trans (Up.drew _)) (by first | exact hsa | exact hsa.up (Up.drew _))).mono ?_); rintro e wb ⟨vb, rfl, hsb, ub⟩; have hAb : Up w8 wb := (by first | exact hAa.trans ub | exact (hAa.trans (Up.drew _)).trans ub); have y1 := (Below.cell hAb (p := ⟨b5, off5 + B, none⟩) hbl).trans e1))
            | (go_at_call 9; ((with_reducible refine (HSS.out _ _ (by first | exact hAb | exact hAb.trans (Up.drew _)) (by first | exact hsb | exact hsb.up (Up.drew _))).mono ?_); rintro e wc ⟨rfl, uc⟩; have hAc : Up w8 wc := (by first | exact hAb.trans uc | exact (hAb.trans (Up.drew _)).trans uc); have y2 := (Below.cell hAc (p := ⟨b5, off5 + B, none⟩) hbl).trans e1)))
        all_goals
          have HUc := Lib.hid (HU8.out.trans hAc)
          clear e1 hAa hAb hAc hsa hsb ua ub uc y0 y1 y2
          go_wp2_with fail
          go_ret
          exact ⟨rfl, HUc.out⟩

end Go.Proofs.Ytomfbffaekpnlaa
