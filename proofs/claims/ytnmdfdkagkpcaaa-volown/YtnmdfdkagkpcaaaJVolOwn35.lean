/-
  What vol's add returns: a volume laid at its place. Conditions: a state and blocks of the call's own.
-/
import Derived.Test.YtnmdfdkagkpcaaaJVolOwn34
import Derived.Deep.DeepCutAuto
import Derived.Test.YtnmdfdkagkpcaaaJVolOwn11
import Derived.Test.YtnmdfdkagkpcaaaJVolOwn25
namespace Go.Proofs.Ytnmdfdkagkpcaaa
open Go.RowKit
open Go.Proofs
open WoolBag
open WoolVol

theorem itVol : (60 : Nat) ≠ 62 := by decide

theorem Rd.app {w : World} {C1 C2 : List VC} {l1 l2 : List Vo} (h1 : Rd w C1 l1) (h2 : Rd w C2 l2) : Rd w (C1 ++ C2) (l1 ++ l2) := by
  have hl1 := h1.len
  have hl2 := h2.len
  refine ⟨by rw [List.length_append, List.length_append, hl1, hl2], fun k hk => ?_, fun k hk => ?_⟩
  · rw [List.length_append] at hk
    by_cases hc : k < l1.length
    · rw [List.getElem_append_left (by omega), List.getElem_append_left hc]; exact h1.nm k hc
    · rw [List.getElem_append_right (by omega), List.getElem_append_right (by omega)]; simp only [hl1]; exact h2.nm (k - l1.length) (by omega)
  · rw [List.length_append] at hk
    by_cases hc : k < l1.length
    · rw [List.getElem_append_left (by omega), List.getElem_append_left hc]; exact h1.bl k hc
    · rw [List.getElem_append_right (by omega), List.getElem_append_right (by omega)]; simp only [hl1]; exact h2.bl (k - l1.length) (by omega)

theorem Rd.one1 {w : World} {x : VC} {y : Vo} (h1 : x.nm = y.nm) (h2 : Ids w x.sl y.bl) : Rd w [x] [y] :=
  ⟨rfl, fun k hk => by simp at hk; subst hk; exact h1, fun k hk => by simp at hk; subst hk; exact h2⟩

theorem Rd.take {w : World} {C : List VC} {l : List Vo} (h : Rd w C l) (n : Nat) : Rd w (C.take n) (l.take n) := by
  have hl := h.len
  refine ⟨by rw [List.length_take, List.length_take, hl], fun k hk => ?_, fun k hk => ?_⟩
  · rw [List.length_take] at hk
    rw [List.getElem_take, List.getElem_take]; exact h.nm k (by omega)
  · rw [List.length_take] at hk
    rw [List.getElem_take, List.getElem_take]; exact h.bl k (by omega)

theorem Rd.drop {w : World} {C : List VC} {l : List Vo} (h : Rd w C l) (n : Nat) : Rd w (C.drop n) (l.drop n) := by
  have hl := h.len
  refine ⟨by rw [List.length_drop, List.length_drop, hl], fun k hk => ?_, fun k hk => ?_⟩
  · rw [List.length_drop] at hk
    rw [List.getElem_drop, List.getElem_drop]; exact h.nm (n + k) (by omega)
  · rw [List.length_drop] at hk
    rw [List.getElem_drop, List.getElem_drop]; exact h.bl (n + k) (by omega)

theorem Rd.ins {w : World} {C : List VC} {l : List Vo} {x : VC} {y : Vo} (h : Rd w C l) (h1 : x.nm = y.nm) (h2 : Ids w x.sl y.bl) (k : Nat) : Rd w (C.take k ++ x :: C.drop k) (l.take k ++ y :: l.drop k) :=
  (h.take k).app ((Rd.one1 h1 h2).app (h.drop k))

theorem addC_in (t : List UInt8) (B : Nat) (s : List UInt8) (o : Option Addr) (n c : Nat) (W : World) (hB : B < W.heap.size) (hc : W.cell? ⟨B, 0, none⟩ = some (.string (bs t))) :
    Calls Try.prog 67 #[.agg #[.string (bs s), .slice o n c], .pointer (some ⟨B, 0, none⟩)] W fun e w' => e = .returned (.bool (!(sle s t))) ∧ Up W w' := by
  have hq := sgt_bs s t
  generalize (!(sle s t)) = q at hq ⊢
  have hne : B ≠ W.heap.size := by omega
  go_enter Try.func67, Try.ntmps67
  go_wp2_with fail
  go_ret
  exact ⟨rfl, Up.alloc _ _⟩

theorem eg_addc : ∀ args w, (callFunc 67 args).run Try.prog w = .ok (.enter 67 args) w := enters_of Try.func67 (by kernel_rfl) rfl

theorem ixV_place (s : List UInt8) (l : List Vo) : (ixV (fun t => !(sle t s)) l = -1 ∧ vplace s l = l.length) ∨ ∃ k : Nat, k ≤ l.length ∧ ixV (fun t => !(sle t s)) l = (k : Int) ∧ vplace s l = k := by
  have e : ixV (fun t => !(sle t s)) l = match vix (gtB s) l with | some i => (i : Int) | none => -1 := rfl
  rw [e]
  unfold vplace
  cases hv : vix (gtB s) l with
  | none => exact .inl ⟨rfl, rfl⟩
  | some k => obtain ⟨h1, _⟩ := vix_some hv; exact .inr ⟨k, by omega, rfl, rfl⟩

theorem rowN_at {w : World} {n : Nat} (L : List Value) (T : TypeId) (h : w.heap.size = n) : RowC (w.alloc (.cells L.toArray T)) n T L := by
  subst h; exact heap_alloc_new w _

def AddPost (w : World) (base : Nat) (st : Sta) (e : Ending) (w' : World) : Prop := ∃ v', e = .returned v' ∧ OSt w' base v' st ∧ Below base w w'

/-- a state of the call's own, and a row of blocks that is none of its rows -/
def OFr (w : World) (base : Nat) (v : Value) (st : Sta) (vd : Value) : Prop :=
  ∃ vb vv, v = .agg #[vb, vv] ∧ OItems w base vb st.b ∧ ∃ C : List VC, OVC w base vv C ∧ ORd w base C st.v ∧ ∀ k (h : k < C.length) g, C[k].sl.ownBlock = some g → vd.ownBlock ≠ some g

/-- .. since the row was made behind the state -/
theorem OFr.later {w w' : World} {base : Nat} {v vd : Value} {st : Sta} (h : OSt w base v st) (hu : Up w w') (hd : ∀ g, vd.ownBlock = some g → w.heap.size ≤ g) : OFr w' base v st vd := by
  obtain ⟨vb, vv, rfl, h1, C, h2, h3⟩ := h
  refine ⟨vb, vv, rfl, h1.up hu, C, own_up h2 hu, h3.up hu, fun k hk g hg e => ?_⟩
  have a := (World.ownsRow.lt (h3.bl k (by rw [← h3.len]; exact hk)) g hg).2
  have b := hd g e
  omega

/-- .. or ahead of it -/
theorem OFr.sooner {w : World} {base base' : Nat} {v vd : Value} {st : Sta} (h : OSt w base' v st) (hb : base ≤ base') (hd : ∀ g, vd.ownBlock = some g → g < base') : OFr w base v st vd := by
  obtain ⟨vb, vv, rfl, h1, C, h2, h3⟩ := h
  refine ⟨vb, vv, rfl, h1.base hb, C, own_base h2 hb, h3.base hb, fun k hk g hg e => ?_⟩
  have a := (World.ownsRow.lt (h3.bl k (by rw [← h3.len]; exact hk)) g hg).1
  have b := hd g e
  omega

theorem OSt.setR1 {w : World} {base R i : Nat} {v x : Value} {st : Sta} {L : List Value} (h : OSt w base v st) (hr : RowC w R 31 L) : OSt (w.setCell ⟨R, i, none⟩ x) base v st := by
  obtain ⟨vb, vv, rfl, h1, h2⟩ := h
  exact ⟨_, _, rfl, h1.setR hr, h2.setR hr⟩

/-- rows that lie apart, and one more -/
theorem ORd.ins {w : World} {base : Nat} {C : List VC} {l : List Vo} {s : List UInt8} {bl : List Idn} {vd : Value} (h : ORd w base C l) (hd : OIds w base vd bl) (hfr : ∀ k (h : k < C.length) g, C[k].sl.ownBlock = some g → vd.ownBlock ≠ some g) (k : Nat) :
    ORd w base (C.take k ++ (⟨s, vd⟩ : VC) :: C.drop k) (l.take k ++ (⟨s, bl⟩ : Vo) :: l.drop k) := by
  have hlen := h.len
  have hrd := Rd.ins (x := ⟨s, vd⟩) (y := ⟨s, bl⟩) ⟨h.len, h.nm, fun i hi => (h.bl i hi).ids⟩ rfl hd.ids k
  have hbl : ∀ i (hi : i < (l.take k ++ (⟨s, bl⟩ : Vo) :: l.drop k).length) (hi' : i < (C.take k ++ (⟨s, vd⟩ : VC) :: C.drop k).length), OIds w base (C.take k ++ (⟨s, vd⟩ : VC) :: C.drop k)[i].sl (l.take k ++ (⟨s, bl⟩ : Vo) :: l.drop k)[i].bl := by
    have hC : (C.take k).length = (l.take k).length := by rw [List.length_take, List.length_take, hlen]
    intro i hi hi'
    by_cases h1 : i < (l.take k).length
    · have h1' : i < (C.take k).length := by rw [hC]; exact h1
      rw [List.getElem_append_left h1, List.getElem_append_left h1', List.getElem_take, List.getElem_take]
      rw [List.length_take] at h1
      exact h.bl i (by omega)
    · have h1' : ¬ i < (C.take k).length := by rw [hC]; exact h1
      rw [List.getElem_append_right (by omega), List.getElem_append_right (by omega)]
      simp only [hC]
      obtain ⟨m, hm⟩ : ∃ m, i - (l.take k).length = m := ⟨_, rfl⟩
      simp only [hm]
      cases m with
      | zero => exact hd
      | succ m =>
        rw [List.length_append, List.length_cons, List.length_drop] at hi
        simp only [List.getElem_cons_succ, List.getElem_drop]
        exact h.bl (k + m) (by omega)
  have hpw : (C.take k ++ (⟨s, vd⟩ : VC) :: C.drop k).Pairwise (fun a b => ∀ g, a.sl.ownBlock = some g → b.sl.ownBlock ≠ some g) := by
    have h0 : C.Pairwise (fun a b => ∀ g, a.sl.ownBlock = some g → b.sl.ownBlock ≠ some g) := by
      rw [List.pairwise_iff_getElem]
      intro i j hi hj hij g hg
      exact h.apart i j (by omega) (by omega) g (by omega) hg
    have hm : ∀ a ∈ C, ∀ g, a.sl.ownBlock = some g → vd.ownBlock ≠ some g := by
      intro a ha g hg
      obtain ⟨i, hi, rfl⟩ := List.getElem_of_mem ha
      exact hfr i hi g hg
    rw [List.pairwise_append, List.pairwise_cons]
    refine ⟨h0.sublist (List.take_sublist _ _), ⟨fun a ha g hg e => hm a (List.mem_of_mem_drop ha) g e hg, h0.sublist (List.drop_sublist _ _)⟩, fun a ha b hb g hg => ?_⟩
    rw [List.mem_cons] at hb
    rcases hb with rfl | hb
    · exact hm a (List.mem_of_mem_take ha) g hg
    · have h1 := List.take_append_drop k C
      rw [← h1, List.pairwise_append] at h0
      exact h0.2.2 a ha b hb g hg
  refine ⟨hrd.len, hrd.nm, fun i hi => hbl i hi (by rw [hrd.len]; exact hi), fun i j hi hj g hij hg e => ?_⟩
  have hl := hrd.len
  rcases Nat.lt_or_gt_of_ne hij with hlt | hgt
  · exact List.pairwise_iff_getElem.1 hpw i j (by omega) (by omega) hlt g hg e
  · exact List.pairwise_iff_getElem.1 hpw j i (by omega) (by omega) hgt g e hg

/-- what a volume laid among those of the call's own leaves -/
theorem ins_own {W w5 : World} {base : Nat} {vb vv o5 : Value} {b : List Itm} {l : List Vo} {C : List VC} {s : List UInt8} {bl : List Idn} {vd : Value} {k : Nat} (hb : OItems W base vb b) (hC : OVC W base vv C) (hR : ORd W base C l) (hd : OIds W base vd bl)
    (hfr : ∀ k (h : k < C.length) g, C[k].sl.ownBlock = some g → vd.ownBlock ≠ some g) (hg : W.grownBy w5 vv.ownBlock) (ho : OVC w5 base o5 (C.take k ++ (⟨s, vd⟩ : VC) :: C.drop k)) : OSt w5 base (.agg #[vb, o5]) ⟨b, l.take k ++ (⟨s, bl⟩ : Vo) :: l.drop k⟩ := by
  have hap : ∀ {T n m : Nat} {v : Value} {L : List Value}, W.ownsRow base T m v n L → T ≠ 62 → ∀ q, vv.ownBlock = some q → v.ownBlock ≠ some q := by
    intro T n m v L h hT q hq
    rcases own_row hC with ⟨rfl, _, _⟩ | ⟨g, cap, sp, rfl, _, h2, _⟩
    · cases hq
    · cases hq
      exact own_apart h h2 hT
  have hkp : ∀ {T n m : Nat} {v : Value} {L : List Value}, W.ownsRow base T m v n L → T ≠ 62 → w5.ownsRow base T m v n L := by
    intro T n m v L h hT
    refine World.ownsRow.kept h hg ?_
    cases hq : vv.ownBlock with
    | none =>
      cases hv : v.ownBlock with
      | none => exact .inl rfl
      | some q => exact .inr (by simp)
    | some q => exact .inr (hap h hT q hq)
  exact ⟨_, _, rfl, (show OItems w5 base vb b from hkp hb itVol), ⟨_, ho, ORd.ins ⟨hR.len, hR.nm, fun i hi => (show OIds w5 base _ _ from hkp (hR.bl i hi) idVol), hR.apart⟩ (show OIds w5 base vd bl from hkp hd idVol) hfr k⟩⟩

set_option maxRecDepth 100000 in
set_option maxHeartbeats 4000000 in
theorem add_any (vs : Value) (st : Sta) (s : List UInt8) (vd : Value) (bl : List Idn) (base : Nat) (w : World) (h : OFr w base vs st vd) (hd : OIds w base vd bl) (hl : st.v.length ≤ 6) (hs : s.length ≤ 12) (hbase : base ≤ w.heap.size) :
    Calls Try.prog 42 #[vs, .string (bs s), vd] w (AddPost w base ⟨st.b, vins ⟨s, bl⟩ st.v⟩) := by
  have hm := hmf
  obtain ⟨vb, vv, rfl, hb, C, hC, hR, hfr⟩ := h
  obtain ⟨oB, cB, hvb⟩ := own_slice hb
  obtain ⟨oV, cV, hvv⟩ := own_slice hC
  obtain ⟨oD, cD, hvd⟩ := own_slice hd
  subst hvb hvv hvd
  have hCl := hR.len
  obtain ⟨N, hN⟩ : ∃ N, C.length = N := ⟨_, rfl⟩
  obtain ⟨M, hM⟩ : ∃ M, st.b.length = M := ⟨_, rfl⟩
  obtain ⟨D, hDl⟩ : ∃ D, bl.length = D := ⟨_, rfl⟩
  rw [hN] at hC hCl ⊢
  rw [hM] at hb ⊢
  rw [hDl] at hd hfr ⊢
  have HFR := Lib.hid hfr
  clear hfr
  rw [← hCl] at hl
  obtain ⟨IX, hIX⟩ : ∃ IX, ixV (fun t => !(sle t s)) st.v = IX := ⟨_, rfl⟩
  obtain ⟨K, hK⟩ : ∃ K, vplace s st.v = K := ⟨_, rfl⟩
  have hcs : (IX = -1 ∧ K = N) ∨ ∃ k : Nat, k ≤ N ∧ IX = (k : Int) ∧ K = k := by
    have := ixV_place s st.v
    rw [hIX, hK, ← hCl] at this
    exact this
  have hKN : K ≤ N := by rcases hcs with ⟨_, h⟩ | ⟨k, h1, _, h2⟩ <;> omega
  have HVI : Hid (vins ⟨s, bl⟩ st.v = st.v.take K ++ ⟨s, bl⟩ :: st.v.drop K) := by show _ = _; rw [← hK]; rfl
  have HCL := Lib.hid hCl
  have HNL := Lib.hid hN
  have HB := Lib.hid hb
  have HC := Lib.hid hC
  have HRD := Lib.hid hR
  have HD := Lib.hid hd
  have HVO : Hid (Vols w (.slice oV N cV) st.v) := ⟨C, hC.vcs, hR.rd⟩
  have HCS := Lib.hid hcs
  clear hCl hK hcs hN hM hDl hb hC hd
  have HSS := Lib.hid (fun W => clone_str (bs s) W (by rw [bs_size]; omega))
  have HW0 : Hid (Up w (((w.alloc (.cells #[.slice oB M cB, .slice oV N cV] 31)).alloc (.cells #[.string (bs s)] 9)).alloc (.cells #[.slice none 0 0, .slice none 0 0] 31))) := ((Up.alloc _ _).trans (Up.alloc _ _)).trans (Up.alloc _ _)
  have HA : Hid (RowC (((w.alloc (.cells #[.slice oB M cB, .slice oV N cV] 31)).alloc (.cells #[.string (bs s)] 9)).alloc (.cells #[.slice none 0 0, .slice none 0 0] 31)) w.heap.size 31 [.slice oB M cB, .slice oV N cV]) := RowC.up (rowN_at [.slice oB M cB, .slice oV N cV] _ rfl) ((Up.alloc _ _).trans (Up.alloc _ _))
  have HNM : Hid (RowC (((w.alloc (.cells #[.slice oB M cB, .slice oV N cV] 31)).alloc (.cells #[.string (bs s)] 9)).alloc (.cells #[.slice none 0 0, .slice none 0 0] 31)) (w.heap.size + 1) 9 [.string (bs s)]) := RowC.up (rowN_at [.string (bs s)] _ (by simp)) (Up.alloc _ _)
  have HZ : Hid (RowC (((w.alloc (.cells #[.slice oB M cB, .slice oV N cV] 31)).alloc (.cells #[.string (bs s)] 9)).alloc (.cells #[.slice none 0 0, .slice none 0 0] 31)) (w.heap.size + 1 + 1) 31 [.slice none 0 0, .slice none 0 0]) := rowN_at [.slice none 0 0, .slice none 0 0] _ (by simp)
  go_enter Try.func42, Try.ntmps42
  go_upto_region 1 with (fail)
  generalize ((w.alloc (.cells #[.slice oB M cB, .slice oV N cV] 31)).alloc (.cells #[.string (bs s)] 9)).alloc (.cells #[.slice none 0 0, .slice none 0 0] 31) = W0 at HA HNM HZ HW0 ⊢
  have HIX : Hid (∀ W, Up W0 W → Calls Try.prog 66 #[.slice oV N cV, .func (.func 67) #[] #[.pointer (some ⟨w.heap.size + 1, 0, none⟩)]] W fun e w' => e = .returned (.int .i64 IX) ∧ Up W w') := by
    intro W hW
    rw [← hIX]
    refine indexV (.slice oV N cV) st.v W 67 #[.pointer (some ⟨w.heap.size + 1, 0, none⟩)] _ eg_addc (HVO.out.up (HW0.out.trans hW)) (fun W' hu t o n c => ?_)
    have hN' := HNM.out.up (hW.trans hu)
    exact addC_in s (w.heap.size + 1) t o n c W' hN'.lt (hN'.cell (j := 0) rfl)
  have n0 := HNM.out.cell (j := 0) rfl
  clear hIX
  go_wp2_with fail
  refine (HSS.out _).mono ?_
  rintro e w1 ⟨rfl, u1⟩
  clear n0
  go_upto_region 2 with (fail)
  have hal := Up.alloc w1 (.cells #[.string (bs s), .slice oD D cD] 62)
  have HV2 : Hid (RowC (w1.alloc (.cells #[.string (bs s), .slice oD D cD] 62)) w1.heap.size 62 [.string (bs s), .slice oD D cD]) := heap_alloc_new w1 _
  have HU2 := Lib.hid (u1.trans hal)
  generalize w1.alloc (.cells #[.string (bs s), .slice oD D cD] 62) = W2 at HV2 HU2 ⊢
  obtain ⟨V, hV⟩ : ∃ V, w1.heap.size = V := ⟨_, rfl⟩
  rw [hV] at HV2 ⊢
  clear hV u1 hal
  have a1 := (HA.out.up HU2.out).cell (j := 1) rfl
  go_wp2_with fail
  refine (HIX.out _ HU2.out).mono ?_
  rintro e w3 ⟨rfl, u3⟩
  have HU3 := Lib.hid (HU2.out.trans u3)
  have HV3 := Lib.hid (HV2.out.up u3)
  clear u3 a1 HV2 HU2
  have a1 := (HA.out.up HU3.out).cell (j := 1) rfl
  go_upto_if 18 with (fail)
  go_cut [8] (fun i wx => i = .int .i64 (K : Int) ∧ wx = w3)
  case first =>
    rcases HCS.out with ⟨h1, h2⟩ | ⟨k, hk, h1, h2⟩
    · subst h1 h2
      go_wp2_with fail
      go_meet
      exact ⟨rfl, rfl⟩
    · subst h1 h2
      go_wp2_with fail
      go_meet
      exact ⟨rfl, rfl⟩
  case rest =>
    obtain ⟨rfl, hwc⟩ := hcut
    subst hwc
    obtain ⟨WC, hWC⟩ : ∃ WC, WC = wc := ⟨_, rfl⟩
    subst hWC
    have v0 := HV3.out.cell (j := 0) rfl
    have v1 := HV3.out.cell (j := 1) rfl
    have HX4 : Hid (RowV (WC.alloc (.cells #[.string (bs s), .slice oD D cD] 62)) WC.heap.size (vcC ⟨s, .slice oD D cD⟩)) := heap_alloc_new WC _
    have HU4 : Hid (Up W0 (WC.alloc (.cells #[.string (bs s), .slice oD D cD] 62))) := HU3.out.trans (Up.alloc _ _)
    have HINS : Hid (Calls Try.prog 68 #[.slice oV N cV, .int .i64 (K : Int), .slice (some ⟨WC.heap.size, 0, none⟩) 1 1] (WC.alloc (.cells #[.string (bs s), .slice oD D cD] 62)) (InsVPost (WC.alloc (.cells #[.string (bs s), .slice oD D cD] 62)) base (Value.slice oV N cV).ownBlock (C.take K ++ (⟨s, .slice oD D cD⟩ : VC) :: C.drop K))) := by
      have huw := HW0.out.trans HU4.out
      have hCu := own_up HC.out huw
      refine insertV_any (.slice oV N cV) C ⟨s, .slice oD D cD⟩ K base WC.heap.size _ ?_ (hR.rd.one) hCu (by rw [HNL.out]; exact hKN) (by rw [HNL.out]; exact hl) HX4.out ?_ (Nat.le_trans hbase huw.size)
      · intro u hu
        unfold vcC at hu
        simp at hu
        rcases hu with rfl | rfl <;> rfl
      · intro hq
        have := (World.ownsRow.lt HC.out _ hq).2
        have := (HW0.out.trans HU3.out).size
        omega
    go_wp2_with fail
    refine HINS.out.mono ?_
    rintro e w5 ⟨v5, rfl, ho5, hg5⟩
    obtain ⟨o5, c5, hv5⟩ := own_slice ho5
    subst hv5
    obtain ⟨N5, hN5⟩ : ∃ N5, (C.take K ++ (⟨s, .slice oD D cD⟩ : VC) :: C.drop K).length = N5 := ⟨_, rfl⟩
    rw [hN5] at ho5 ⊢
    generalize (WC.alloc (.cells #[.string (bs s), .slice oD D cD] 62)) = W4 at HX4 HU4 hg5
    have huw := HW0.out.trans HU4.out
    have hCu := own_up HC.out huw
    have hA4 := HA.out.up HU4.out
    have hZ4 := HZ.out.up HU4.out
    have hA5 := hA4.kept hg5 (own_apart hCu hA4 voState)
    have hZ5 := hZ4.kept hg5 (own_apart hCu hZ4 voState)
    have hST := ins_own (k := K) (s := s) (bl := bl) (own_up HB.out huw) hCu (hR.up huw) (own_up HD.out huw) HFR.out hg5 ho5
    have hBL : Below base w w5 := Below.grown (huw.mono hbase) hg5 (Nat.le_trans hbase huw.size) (fun k hk => (World.ownsRow.lt HC.out k hk).1)
    have hne : w.heap.size + 1 + 1 ≠ w.heap.size := by omega
    have hA6 := hA5.set 1 (.slice o5 N5 c5)
    have hZ6 := hZ5.other hne 1 (.slice o5 N5 c5)
    have hS6 := hST.setR1 (i := 1) (x := .slice o5 N5 c5) hA5
    have hB6 := hBL.setCell (p := ⟨w.heap.size, 1, none⟩) hbase (.slice o5 N5 c5)
    have a0 := hA5.cell (j := 0) rfl
    have a2 := hA5.cell (j := 1) rfl
    have a3 := hA5.frozen 1
    have a4 := hA6.cell (j := 0) rfl
    have a5 := hA6.cell (j := 1) rfl
    have z0 := hZ6.cell (j := 0) rfl
    have z1 := hZ6.cell (j := 1) rfl
    have z2 := hZ6.frozen 0
    have z3 := hZ6.frozen 1
    have HZ6 := Lib.hid hZ6
    have HS6 := Lib.hid hS6
    have HB6 := Lib.hid hB6
    clear hA4 hZ4 hA5 hZ5 hST hBL hA6 hZ6 hS6 hB6 huw hCu ho5 hg5 v0 v1 a1
    go_wp2_with fail
    have hz := (HZ6.out.set 0 (.slice oB M cB)).set 1 (.slice o5 N5 c5)
    have y0 := hz.cell (j := 0) rfl
    have y1 := hz.cell (j := 1) rfl
    have HOZ := Lib.hid (OSt.boxed HS6.out HZ6.out)
    have HUZ := Lib.hid ((HB6.out.setCell (p := ⟨w.heap.size + 1 + 1, 0, none⟩) (show base ≤ w.heap.size + 1 + 1 by omega) (.slice oB M cB)).setCell (p := ⟨w.heap.size + 1 + 1, 1, none⟩) (show base ≤ w.heap.size + 1 + 1 by omega) (.slice o5 N5 c5))
    generalize ((w5.setCell ⟨w.heap.size, 1, none⟩ (.slice o5 N5 c5)).setCell ⟨w.heap.size + 1 + 1, 0, none⟩ (.slice oB M cB)).setCell ⟨w.heap.size + 1 + 1, 1, none⟩ (.slice o5 N5 c5) = WZ at y0 y1 HOZ HUZ ⊢
    exact bodyPost_ret (v := .agg #[.slice oB M cB, .slice o5 N5 c5]) (by simp [results, Try.results42, go_sem, y0, y1]) rfl ⟨_, rfl, by rw [HVI.out]; exact HOZ.out, HUZ.out⟩

end Go.Proofs.Ytnmdfdkagkpcaaa
