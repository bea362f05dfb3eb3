/-
  What slices.IndexFunc at volumes, vol's index, find, locate and slices.Clone at identifiers return. Conditions: as each says.
-/
import Derived.Test.YtnmdfdkagkpcaaaJVolOwn19
import Derived.Shelf.Abstract
import Derived.OwnWalk
namespace Go.Proofs.Ytnmdfdkagkpcaaa
open Go.RowKit
open Go.Proofs
open WoolBag
open WoolVol

/-- a function value that tells p of a volume's name, in every world in which nothing that is in w has turned -/
def VPred (w : World) (g : Nat) (lb : Array Value) (p : List UInt8 → Bool) : Prop :=
  ∀ W, Up w W → ∀ (s : List UInt8) (o : Option Addr) (n c : Nat), Calls Try.prog g (#[.agg #[.string (bs s), .slice o n c]] ++ lb) W fun e w' => e = .returned (.bool (p s)) ∧ Up W w'

def ixV (p : List UInt8 → Bool) (l : List Vo) : Int := match vix (fun x => p x.nm) l with | some i => (i : Int) | none => -1

def IxVRel (p : List UInt8 → Bool) (l : List Vo) (w : World) (i : Value) (wr : World) : Prop :=
  ∃ k : Nat, k ≤ l.length ∧ i = .int .i64 k ∧ Up w wr ∧ ∀ j (h : j < l.length), j < k → p l[j].nm = false

set_option maxRecDepth 100000 in
set_option maxHeartbeats 400000 in
theorem indexV (v : Value) (l : List Vo) (w : World) (g : Nat) (lb : Array Value) (p : List UInt8 → Bool) (eg : ∀ args w, (callFunc g args).run Try.prog w = .ok (.enter g args) w) (h : Vols w v l) (hp : VPred w g lb p) :
    Calls Try.prog 66 #[v, .func (.func g) #[] lb] w fun e w' => e = .returned (.int .i64 (ixV p l)) ∧ Up w w' := by
  obtain ⟨o, c, rfl, h2, h3⟩ := h.slice
  unfold maxLen at h3
  have H4 := Lib.hid h
  have HP := Lib.hid hp
  clear h hp
  obtain ⟨R, hR⟩ : ∃ R, ixV p l = R := ⟨_, rfl⟩
  rw [hR]
  have HR := Lib.hid hR
  clear hR
  go_enter Try.func66, Try.ntmps66
  go_wp2_with fail
  go_loopw [5, 8] (fun _ i wr => IxVRel p l w i wr) (fun _ i _ => l.length - (intOf i).toNat)
  case atStart => exact ⟨0, Nat.zero_le _, rfl, Up.refl w, fun j _ hj => by omega⟩
  case round =>
    obtain ⟨k, hk, rfl, hu, hno⟩ := hrel
    by_cases hlt : k < l.length
    · obtain ⟨b, off, rfl, h5⟩ := H4.out.at (by intro e; rw [e] at hlt; simp at hlt)
      obtain ⟨a1, u, a2, hids⟩ := h5 k hlt
      rw [← hu.cell (World.block_lt_of_cell? w _ a1)] at a1
      rw [← hu.cell (World.block_lt_of_cell? w _ a2)] at a2
      obtain ⟨o', c', rfl, _, _⟩ := hids.slice
      have hcall := HP.out wr hu l[k].nm o' l[k].bl.length c'
      have HU := Lib.hid hu
      have HN := Lib.hid hno
      have d1 : decide (k < l.length) = true := decide_eq_true hlt
      obtain ⟨P, hP⟩ : ∃ P, p l[k].nm = P := ⟨_, rfl⟩
      rw [hP] at hcall
      have HPP := Lib.hid hP
      generalize l[k].nm = xs at a1 hcall
      generalize l[k].bl.length = xn at a2 hcall
      clear h5 hu hno hP hids
      cases P with
      | true =>
        go_wp2_with (go_at_fn g; refine hcall.mono ?_; rintro e w1 ⟨rfl, u1⟩)
        go_ret
        refine ⟨?_, HU.out.trans u1⟩
        rw [← HR.out]
        unfold ixV
        rw [vix_of hlt HPP.out (fun j hj => HN.out j (by omega) hj)]
        rfl
      | false =>
        go_wp2_with (go_at_fn g; refine hcall.mono ?_; rintro e w1 ⟨rfl, u1⟩)
        go_roundw
        case rel =>
          refine ⟨k + 1, by omega, by go_num, HU.out.trans u1, fun j hj hjk => ?_⟩
          by_cases e : j = k
          · subst e; exact HPP.out
          · exact HN.out j hj (by omega)
        case measure => simp only [intOf]; omega
    · have d1 : decide (k < l.length) = false := decide_eq_false hlt
      have HN := Lib.hid hno
      clear hno
      go_wp2_with fail
      go_ret
      refine ⟨?_, hu⟩
      rw [← HR.out]
      unfold ixV
      rw [vix_none.2 (fun x hx => by obtain ⟨i, hi, rfl⟩ := List.getElem_of_mem hx; exact HN.out i hi (by omega))]
      rfl

theorem indexC_in (t : List UInt8) (B : Nat) (s : List UInt8) (o : Option Addr) (n c : Nat) (W : World) (hB : B < W.heap.size) (hc : W.cell? ⟨B, 0, none⟩ = some (.string (bs t))) :
    Calls Try.prog 73 #[.agg #[.string (bs s), .slice o n c], .pointer (some ⟨B, 0, none⟩)] W fun e w' => e = .returned (.bool (s == t)) ∧ Up W w' := by
  have hq := txt_eq s t
  generalize (s == t) = q at hq ⊢
  have hne : B ≠ W.heap.size := by omega
  go_enter Try.func73, Try.ntmps73
  go_wp2_with fail
  all_goals
    go_ret
    exact ⟨by simp_all, Up.alloc _ _⟩

theorem eg_ixc : ∀ args w, (callFunc 73 args).run Try.prog w = .ok (.enter 73 args) w := enters_of Try.func73 (by kernel_rfl) rfl

set_option maxRecDepth 100000 in
theorem index_any (v : Value) (l : List Vo) (t : List UInt8) (w : World) (h : Vols w v l) :
    Calls Try.prog 44 #[v, .string (bs t)] w fun e w' => e = .returned (.int .i64 (ixV (fun s => s == t) l)) ∧ Up w w' := by
  have hm := hmf
  have HC : Hid (∀ W, Up (w.alloc (.cells #[.string (bs t)] 9)) W → Calls Try.prog 66 #[v, .func (.func 73) #[] #[.pointer (some ⟨w.heap.size, 0, none⟩)]] W fun e w' => e = .returned (.int .i64 (ixV (fun s => s == t) l)) ∧ Up W w') := by
    intro W hW
    have q0 := World.cell?_alloc_new w #[.string (bs t)] 9 0
    have hB : w.heap.size < (w.alloc (.cells #[.string (bs t)] 9)).heap.size := by simp
    refine indexV v l W 73 #[.pointer (some ⟨w.heap.size, 0, none⟩)] _ eg_ixc (h.up ((Up.alloc _ _).trans hW)) (fun W' hu s o n c => ?_)
    have hu2 := hW.trans hu
    exact indexC_in t w.heap.size s o n c W' (Nat.lt_of_lt_of_le hB hu2.size) ((hu2.cell (p := ⟨w.heap.size, 0, none⟩) hB).trans q0)
  obtain ⟨o, c, rfl, _, _⟩ := h.slice
  clear h
  generalize ixV (fun s => s == t) l = R at HC ⊢
  go_enter Try.func44, Try.ntmps44
  go_wp2_with fail
  refine (HC.out _ (Up.refl _)).mono ?_
  rintro e w1 ⟨rfl, u1⟩
  go_wp2_with fail
  go_ret
  exact ⟨rfl, (Up.alloc _ _).trans u1⟩

theorem ixV_name (t : List UInt8) (l : List Vo) : ixV (fun s => s == t) l = match vix (nmB t) l with | some i => (i : Int) | none => -1 := rfl

def findVR (st : Sta) (s : List UInt8) : Value := .tuple #[.int .i64 ((vfind FP st s).1 : Int), .int .i64 (vfind FP st s).2]

set_option maxRecDepth 100000 in
set_option maxHeartbeats 1000000 in
theorem vfind_any (v : Value) (st : Sta) (s : List UInt8) (w : World) (h : Stat w v st) (hwf : WfS st) :
    Calls Try.prog 39 #[v, .string (bs s)] w fun e w' => e = .returned (findVR st s) ∧ Up w w' := by
  obtain ⟨vb, vv, rfl, hb, hv⟩ := h
  have HCK := Lib.hid (fun W (hW : Up w W) => vcheck_any _ st W ⟨vb, vv, rfl, hb.up hW, hv.up hW⟩ hwf)
  have HIX := Lib.hid (fun W (hW : Up w W) => index_any vv st.v s W (hv.up hW))
  obtain ⟨oB, cB, rfl, _⟩ := hb.slice
  obtain ⟨oV, cV, rfl, _, _⟩ := hv.slice
  obtain ⟨E, hE⟩ : ∃ E, findVR st s = E := ⟨_, rfl⟩
  rw [hE]
  have HE := Lib.hid hE
  clear hE hb hv hwf
  obtain ⟨R0, hR0⟩ : ∃ R0, chkS FP st = R0 := ⟨_, rfl⟩
  have HR0 := Lib.hid hR0
  rw [hR0] at HCK
  clear hR0
  generalize st.b.length = M at *
  generalize st.v.length = N at *
  go_enter Try.func39, Try.ntmps39
  go_wp2_with fail
  refine (HCK.out _ (Up.alloc _ _)).mono ?_
  rintro e w1 ⟨rfl, u1⟩
  have hsz : w.heap.size < (w.alloc (.cells #[.slice oB M cB, .slice oV N cV] 31)).heap.size := by simp
  have b1 := (Below.cell u1 (p := ⟨w.heap.size, 1, none⟩) hsz).trans (World.cell?_alloc_new w #[.slice oB M cB, .slice oV N cV] 31 1)
  have HU1 : Hid (Up w w1) := (Up.alloc _ _).trans u1
  clear u1 hsz
  by_cases h0 : R0 = 0
  · subst h0
    cases hx : vix (nmB s) st.v with
    | none =>
      have HE2 : Hid (E = .tuple #[.int .i64 0, .int .i64 4]) := by
        rw [← HE.out]
        show findVR st s = _
        unfold findVR vfind
        rw [HR0.out, hx]; rfl
      have hr : ixV (fun t => t == s) st.v = -1 := by rw [ixV_name, hx]
      rw [hr] at HIX
      clear hr hx HE
      go_wp2_with fail
      refine (HIX.out _ HU1.out).mono ?_
      rintro e w2 ⟨rfl, u2⟩
      have HU2 : Hid (Up w w2) := HU1.out.trans u2
      clear u2
      go_wp2_with fail
      go_ret2
      exact ⟨by rw [HE2.out]; rfl, HU2.out⟩
    | some k =>
      have HE2 : Hid (E = .tuple #[.int .i64 (k : Int), .int .i64 0]) := by
        rw [← HE.out]
        show findVR st s = _
        unfold findVR vfind
        rw [HR0.out, hx]; rfl
      have hr : ixV (fun t => t == s) st.v = (k : Int) := by rw [ixV_name, hx]
      rw [hr] at HIX
      clear hr hx HE
      go_wp2_with fail
      refine (HIX.out _ HU1.out).mono ?_
      rintro e w2 ⟨rfl, u2⟩
      have HU2 : Hid (Up w w2) := HU1.out.trans u2
      clear u2
      go_wp2_with fail
      go_ret2
      exact ⟨by rw [HE2.out]; rfl, HU2.out⟩
  · have hne : (R0 != 0) = true := by rw [bne_iff_ne]; exact h0
    have HE2 : Hid (E = .tuple #[.int .i64 0, .int .i64 R0]) := by
      rw [← HE.out]
      show findVR st s = _
      unfold findVR vfind
      rw [HR0.out, if_pos h0]; rfl
    clear HE h0
    go_wp2_with fail
    go_ret2
    exact ⟨by rw [HE2.out]; rfl, HU1.out⟩

theorem vfind_ok {st : Sta} {s : List UInt8} (h : (vfind FP st s).2 = 0) : chkS FP st = 0 ∧ ∃ k, ∃ hk : k < st.v.length, vfind FP st s = (k, 0) ∧ st.v[k].nm = s ∧ vix (nmB s) st.v = some k := by
  unfold vfind at h ⊢
  by_cases h0 : chkS FP st ≠ 0
  · rw [if_pos h0] at h; exact absurd h h0
  · rw [if_neg h0] at h ⊢
    refine ⟨by omega, ?_⟩
    cases hx : vix (nmB s) st.v with
    | none => rw [hx] at h; simp at h
    | some k =>
      obtain ⟨k1, k2, _⟩ := vix_some hx
      unfold nmB at k2
      exact ⟨k, k1, rfl, by simpa using k2, rfl⟩

def locVR (st : Sta) (s : List UInt8) (a : Int) : Value := .tuple #[.int .i64 ((vloc FP st s a).1 : Int), .int .i64 (vloc FP st s a).2]

set_option maxRecDepth 100000 in
set_option maxHeartbeats 1000000 in
theorem vloc_any (v : Value) (st : Sta) (s : List UInt8) (a : Int) (w : World) (h : Stat w v st) (hwf : WfS st) :
    Calls Try.prog 50 #[v, .string (bs s), .int .i64 a] w fun e w' => e = .returned (locVR st s a) ∧ Up w w' := by
  have HF := Lib.hid (fun W (hW : Up w W) => vfind_any v st s W (h.up hW) hwf)
  obtain ⟨vb, vv, rfl, hb, hv⟩ := h
  have HV := Lib.hid hv
  obtain ⟨oB, cB, rfl, _⟩ := hb.slice
  obtain ⟨oV, cV, rfl, hV1, hV2⟩ := hv.slice
  unfold maxLen at hV2
  obtain ⟨E, hE⟩ : ∃ E, locVR st s a = E := ⟨_, rfl⟩
  rw [hE]
  unfold locVR vloc at hE
  have HE := Lib.hid hE
  clear hE hb hv hwf
  by_cases h0 : (vfind FP st s).2 = 0
  · obtain ⟨_, k, hk, hf, _, _⟩ := vfind_ok h0
    have hE := HE.out
    rw [hf, if_neg (by simp)] at hE
    unfold findVR at HF
    rw [hf] at HF
    have HE := Lib.hid hE
    obtain ⟨b, off, rfl, h5⟩ := HV.out.at (by intro e; rw [e] at hk; simp at hk)
    obtain ⟨_, u, a2, hids⟩ := h5 k hk
    obtain ⟨o', c', rfl, _, _⟩ := hids.slice
    rw [getElem!_pos st.v k hk] at hE
    have HE2 := Lib.hid hE
    have hblk := World.block_lt_of_cell? w _ a2
    have A2 := Lib.hid a2
    clear h5 hids HE hE HV a2
    simp only at HF HE2
    generalize st.v[k].bl.length = L at *
    generalize st.b.length = M at *
    obtain ⟨N, hN⟩ : ∃ N, st.v.length = N := ⟨_, rfl⟩
    rw [hN] at hk hV1 HF ⊢
    clear hN h0 hf
    by_cases hneg : a < 0
    · have HE3 : Hid (E = .tuple #[.int .i64 0, .int .i64 1]) := by
        have := HE2.out
        rw [if_pos (.inl hneg)] at this
        exact this.symm
      clear HE2
      go_enter Try.func50, Try.ntmps50
      go_wp2_with fail
      refine (HF.out _ (Up.alloc _ _)).mono ?_
      rintro e w1 ⟨rfl, u1⟩
      have HU1 : Hid (Up w w1) := (Up.alloc _ _).trans u1
      clear u1
      go_wp2_with fail
      go_ret2
      exact ⟨by rw [HE3.out]; rfl, HU1.out⟩
    · go_enter Try.func50, Try.ntmps50
      go_wp2_with fail
      refine (HF.out _ (Up.alloc _ _)).mono ?_
      rintro e w1 ⟨rfl, u1⟩
      have hsz : w.heap.size < (w.alloc (.cells #[.slice oB M cB, .slice (some ⟨b, off, none⟩) N cV] 31)).heap.size := by simp
      have b1 := (Below.cell u1 (p := ⟨w.heap.size, 1, none⟩) hsz).trans (World.cell?_alloc_new w #[.slice oB M cB, .slice (some ⟨b, off, none⟩) N cV] 31 1)
      have HU1 : Hid (Up w w1) := (Up.alloc _ _).trans u1
      have a2 := (HU1.out.cell hblk).trans A2.out
      clear u1 hsz
      by_cases hge : (L : Int) ≤ a
      · have HE3 : Hid (E = .tuple #[.int .i64 0, .int .i64 1]) := by
          have := HE2.out
          rw [if_pos (.inr hge)] at this
          exact this.symm
        clear HE2
        go_wp2_with fail
        go_ret2
        exact ⟨by rw [HE3.out]; rfl, HU1.out⟩
      · have HE3 : Hid (E = .tuple #[.int .i64 (k : Int), .int .i64 0]) := by
          have := HE2.out
          rw [if_neg (by omega)] at this
          exact this.symm
        clear HE2
        go_wp2_with fail
        go_ret2
        exact ⟨by rw [HE3.out]; rfl, HU1.out⟩
  · obtain ⟨R, hR⟩ : ∃ R, (vfind FP st s).2 = R := ⟨_, rfl⟩
    have hz : (vfind FP st s).1 = 0 := by
      unfold vfind at h0 ⊢
      by_cases h1 : chkS FP st ≠ 0
      · rw [if_pos h1]
      · rw [if_neg h1] at h0 ⊢
        cases hx : vix (nmB s) st.v with
        | none => rfl
        | some k => rw [hx] at h0; simp at h0
    have HE3 : Hid (E = .tuple #[.int .i64 0, .int .i64 R]) := by
      have := HE.out
      rw [if_pos h0, hR] at this
      exact this.symm
    unfold findVR at HF
    rw [hR, hz] at HF
    rw [hR] at h0
    have hne : (R != 0) = true := by rw [bne_iff_ne]; exact h0
    clear HE hR hz h0 HV
    generalize st.b.length = M at *
    generalize st.v.length = N at *
    go_enter Try.func50, Try.ntmps50
    go_wp2_with fail
    refine (HF.out _ (Up.alloc _ _)).mono ?_
    rintro e w1 ⟨rfl, u1⟩
    have HU1 : Hid (Up w w1) := (Up.alloc _ _).trans u1
    clear u1
    go_wp2_with fail
    go_ret2
    exact ⟨by rw [HE3.out]; rfl, HU1.out⟩

theorem idInfo : (Try.prog.info? 51).map (fun i => (i.zero, i.size, i.bytes)) = some (some (.agg #[.bool false, .int .i64 0, .int .i64 0]), 3, 24) := by kernel_rfl

theorem idInfo' : ∃ i, Try.prog.info? 51 = some i ∧ i.zero = some (.agg #[.bool false, .int .i64 0, .int .i64 0]) ∧ i.size = 3 ∧ i.bytes = 24 := by
  have h := idInfo
  cases hq : Try.prog.info? 51 with
  | none => rw [hq] at h; cases h
  | some i =>
    rw [hq] at h
    simp only [Option.map_some, Option.some.injEq, Prod.mk.injEq] at h
    exact ⟨i, rfl, h.1, h.2.1, h.2.2⟩

/-- identifiers in a row of the call's own -/
def OIds (w : World) (base : Nat) (v : Value) (l : List Idn) : Prop := w.ownsRow base 51 3 v l.length (fl idC l)

theorem OIds.ids {w : World} {base : Nat} {v : Value} {l : List Idn} (h : OIds w base v l) : Ids w v l := Sl.of_own h

def IdsPost (w : World) (l : List Idn) (e : Ending) (w' : World) : Prop := ∃ v', e = .returned v' ∧ OIds w' w.heap.size v' l ∧ Up w w'

theorem add_off (b off j : Nat) : (⟨b, off, none⟩ : Addr).add j = ⟨b, off + j, none⟩ := by
  unfold Addr.add
  split
  · rename_i e; subst e; rfl
  · rfl

set_option maxRecDepth 100000 in
set_option maxHeartbeats 1000000 in
theorem cloneD_any (v : Value) (l : List Idn) (w : World) (h : Ids w v l) (hl : l.length ≤ 32) :
    Calls Try.prog 26 #[v] w (IdsPost w l) := by
  obtain ⟨i0, hi, hz0, hz1, hz2⟩ := idInfo'
  have HX := Lib.hid h
  obtain ⟨o, c, rfl, _, h3⟩ := h.slice
  unfold maxLen at h3
  have q22 : ∀ (w : World) (a : Option Addr) (n c n' c' : Nat), (binOp .eql 46 (.slice a n c) (.slice none n' c')).run Try.prog w = .ok (.bool a.isNone) w := fun w a n c n' c' => Lib.run_eql_slice_nil w _ _ a n c n' c' Try.underlying46
  cases o with
  | none =>
    have hn : l = [] := by
      by_cases e : l = []
      · exact e
      · obtain ⟨b, off, h1, _⟩ := h.at e; cases h1
    subst hn
    clear h
    go_enter Try.func26, Try.ntmps26
    go_wp2
    go_ret
    exact ⟨_, rfl, World.ownsRow_nil _ _ _ _, Up.refl _⟩
  | some ad =>
    have hcl : Hid (∀ j u, (fl idC l)[j]? = some u → w.cell? (ad.add j) = some u) := by
      intro j u hj
      have hne : l ≠ [] := by rintro rfl; simp [fl] at hj
      obtain ⟨b, off, sp⟩ := ad
      obtain ⟨b', off', h5, h6⟩ := Sl.cells h (by intro e; exact hne (List.eq_nil_of_length_eq_zero e))
      cases h5
      rw [add_off]
      exact h6 j u hj
    clear h HX
    go_enter Try.func26, Try.ntmps26
    go_wp2_with (at_builtin; refine wpList_append_own _ rfl _ _ 46 rfl w.heap.size 51 i0 _ 3 24 Try.underlying46 hi hz0 hz1 hz2 rfl (by omega) _ _ _ rfl (World.ownsRow_made w #[] 0 (Nat.le_refl _) (Nat.zero_le _) (by simp)) ad l.length c (fl idC l) rfl ?qc1 ?qc2 ?qc3 ?qc4 ?qc5 ?qc6 ?_)
    case qc1 => exact fl_length idC_len l
    case qc2 =>
      intro j u hj
      exact Lib.cell?_alloc_some _ (hcl.out j u hj)
    case qc3 => exact fl_one idC_one l
    case qc4 => unfold maxLen; omega
    case qc5 => omega
    case qc6 => simp
    intro v' w1 hown hgrow hnil
    have HO : Hid (OIds w1 w.heap.size v' l) := by
      show OIds w1 w.heap.size v' l
      unfold OIds
      simpa using hown
    have HU : Hid (Up w w1) := ((Below.refl _ w).alloc (Nat.le_refl _) _).grown hgrow (by simp) (by intro k hk; simp [Value.ownBlock] at hk; omega)
    clear hown hgrow hnil hcl
    go_wp2
    go_ret
    exact ⟨v', rfl, HO.out, HU.out⟩

end Go.Proofs.Ytnmdfdkagkpcaaa
