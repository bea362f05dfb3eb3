/-
  The texts VolH, Bag8, Bag9, one behind the other; each says below what it holds and on what conditions.
-/
import Derived.Test.YtbeigaanlhaolaaGreatDoorJB13
import Derived.Laws.CopyOwn
import Derived.Deep.RegionLaw

/-
  What state.Clone returns: a state of the call's own. Condition: a valid state.
-/
namespace Go.Proofs.YtbeigaanlhaolaaGreatDoor
open Go.RowKit
open Go.Proofs
open WoolBag
open WoolVol

theorem vc_set : ∀ (C : List VC) (k : Nat) (_ : k < C.length) (s : List UInt8) (u : Value) (sp : List Value), ((fl vcC C ++ sp).set (k * 2) (.string (bs s))).set (k * 2 + 1) u = fl vcC (C.set k ⟨s, u⟩) ++ sp
  | [], k, h, _, _, _ => by simp at h
  | x :: r, 0, h, s, u, sp => rfl
  | x :: r, k + 1, h, s, u, sp => by
    have ih := vc_set r k (by simpa using h) s u sp
    show ((vcC x ++ fl vcC r ++ sp).set _ _).set _ _ = vcC x ++ fl vcC (r.set k ⟨s, u⟩) ++ sp
    rw [List.append_assoc, List.append_assoc, ← ih]
    unfold vcC
    rw [show (k + 1) * 2 = k * 2 + 1 + 1 by omega]
    simp only [List.cons_append, List.nil_append, List.set_cons_succ]

theorem grown_set (w : World) (g i : Nat) (x : Value) : w.grownBy (w.setCell ⟨g, i, none⟩ x) (some g) :=
  ⟨rfl, rfl, rfl, by simp, fun k _ hk => Below.heap_setCell w ⟨g, i, none⟩ x k (fun e => hk (by rw [e]))⟩

theorem own_set {w : World} {base T m n g i : Nat} {v x : Value} {L : List Value} (h : w.ownsRow base T m v n L) (hne : v.ownBlock ≠ some g) : (w.setCell ⟨g, i, none⟩ x).ownsRow base T m v n L :=
  World.ownsRow.kept h (grown_set w g i x) (.inr hne)

/-- a row of another type lies elsewhere -/
theorem own_apart {w : World} {base T m n g T' : Nat} {v : Value} {L L' : List Value} (h : w.ownsRow base T m v n L) (hr : RowC w g T' L') (hT : T ≠ T') : v.ownBlock ≠ some g := by
  rcases own_row h with ⟨rfl, _, _⟩ | ⟨g', cap, sp, rfl, _, h2, _⟩
  · intro e; cases e
  · intro e
    cases e
    exact (RowC.apart h2 hr hT) rfl

structure SCI (st : Sta) (C : List VC) (W0 : World) (g : Nat) (sp : List Value) (k : Nat) (C' : List VC) (wr : World) : Prop where
  len : C'.length = st.v.length
  row : RowC wr g 81 (fl vcC C' ++ sp)
  nm : ∀ j (h : j < st.v.length), j < k → (C'[j]'(by omega)).nm = st.v[j].nm
  bl : ∀ j (h : j < st.v.length), j < k → OIds wr W0.heap.size (C'[j]'(by omega)).sl st.v[j].bl
  apart : ∀ j i (hj : j < st.v.length) (hi : i < st.v.length) b, j < k → i < k → j ≠ i → (C'[j]'(by omega)).sl.ownBlock = some b → (C'[i]'(by omega)).sl.ownBlock ≠ some b
  rest : ∀ j, j < st.v.length → k ≤ j → C'[j]? = C[j]?
  up : Up W0 wr

theorem idVol : (86 : Nat) ≠ 81 := by decide

theorem SCI.step {st : Sta} {C : List VC} {W0 : World} {g : Nat} {sp : List Value} {k : Nat} {C' : List VC} {wr W5 wF : World} {u : Value} (h : SCI st C W0 g sp k C' wr) (hk : k < st.v.length) (hg : W0.heap.size ≤ g)
    (h5 : Up wr W5) (hF : Up W5 wF) (hu : OIds wF W5.heap.size u st.v[k].bl) :
    SCI st C W0 g sp (k + 1) (C'.set k ⟨st.v[k].nm, u⟩) ((wF.setCell ⟨g, k * 2, none⟩ (.string (bs st.v[k].nm))).setCell ⟨g, k * 2 + 1, none⟩ u) := by
  have hwF : Up wr wF := h5.trans hF
  have hrF := h.row.up hwF
  have hlen := h.len
  have hb0 : W0.heap.size ≤ W5.heap.size := Nat.le_trans h.up.size h5.size
  have hset : ∀ {base n : Nat} {v : Value} {L : List Value}, wF.ownsRow base 86 3 v n L → ((wF.setCell ⟨g, k * 2, none⟩ (.string (bs st.v[k].nm))).setCell ⟨g, k * 2 + 1, none⟩ u).ownsRow base 86 3 v n L := by
    intro base n v L ho
    have hne := own_apart ho hrF idVol
    exact own_set (own_set ho hne) hne
  refine ⟨by rw [List.length_set]; exact hlen, ?_, ?_, ?_, ?_, ?_, ?_⟩
  · have := (hrF.set (k * 2) (.string (bs st.v[k].nm))).set (k * 2 + 1) u
    rw [vc_set C' k (by omega)] at this
    exact this
  · intro j hj hjk
    by_cases e : j = k
    · subst e; rw [List.getElem_set_self]
    · rw [List.getElem_set_ne (Ne.symm e)]; exact h.nm j hj (by omega)
  · intro j hj hjk
    by_cases e : j = k
    · subst e
      rw [List.getElem_set_self]
      exact hset (own_base hu hb0)
    · rw [List.getElem_set_ne (Ne.symm e)]
      exact hset (own_up (h.bl j hj (by omega)) hwF)
  · intro j i hj hi b hjk hik hne hb
    by_cases e : j = k
    · subst e
      rw [List.getElem_set_self] at hb
      rw [List.getElem_set_ne hne]
      intro hb2
      have h1 := (World.ownsRow.lt hu b hb).1
      have h2 := (World.ownsRow.lt (h.bl i hi (by omega)) b hb2).2
      have := h5.size
      omega
    · rw [List.getElem_set_ne (Ne.symm e)] at hb
      by_cases e2 : i = k
      · subst e2
        rw [List.getElem_set_self]
        intro hb2
        have h1 := (World.ownsRow.lt hu b hb2).1
        have h2 := (World.ownsRow.lt (h.bl j hj (by omega)) b hb).2
        have := h5.size
        omega
      · rw [List.getElem_set_ne (Ne.symm e2)]
        exact h.apart j i hj hi b (by omega) (by omega) hne hb
  · intro j hj hjk
    rw [List.getElem?_set_ne (by omega)]
    exact h.rest j hj (by omega)
  · exact (Below.setCell (show Below W0.heap.size W0 wF from h.up.trans hwF) (p := ⟨g, k * 2, none⟩) hg _).setCell (p := ⟨g, k * 2 + 1, none⟩) hg _

/-- the row of volumes, as it lies -/
def SCRow (v1 : Value) (n base g cap : Nat) (sp : List Value) : Prop := v1 = .slice (some ⟨g, 0, none⟩) n cap ∧ base ≤ g ∧ n ≤ cap ∧ cap ≤ maxLen ∧ n * 2 + sp.length = cap * 2

theorem SCI.done {st : Sta} {C : List VC} {W0 : World} {g cap : Nat} {sp : List Value} {C' : List VC} {wr : World} {v1 : Value} (h : SCI st C W0 g sp st.v.length C' wr) (hr : SCRow v1 st.v.length W0.heap.size g cap sp) : OVols wr W0.heap.size v1 st.v := by
  obtain ⟨rfl, h2, h3, h4, h5⟩ := hr
  refine ⟨C', ?_, ⟨h.len, fun k hk => h.nm k hk hk, fun k hk => h.bl k hk hk, fun j k hj hk b hne => h.apart j k hj hk b hj hk hne⟩⟩
  have := own_mk (m := 2) (n := st.v.length) h2 h.row (by rw [fl_length vcC_len, h.len]) h3 h4 h5
  unfold OVC
  rw [h.len]
  exact this

def SCRel (st : Sta) (C : List VC) (W0 : World) (v1 i : Value) (wr : World) : Prop :=
  ∃ k : Nat, k ≤ st.v.length ∧ i = .int .i64 (k : Int) ∧ Up W0 wr ∧ (k = st.v.length → OVols wr W0.heap.size v1 st.v) ∧ (k < st.v.length → ∃ C' g cap sp, SCRow v1 st.v.length W0.heap.size g cap sp ∧ SCI st C W0 g sp k C' wr)

theorem SCRel.start {st : Sta} {C : List VC} {W0 w1 : World} {v1 : Value} (hl : C.length = st.v.length) (ho : OVC w1 W0.heap.size v1 C) (hu : Up W0 w1) : SCRel st C W0 v1 (.int .i64 ((0 : Nat) : Int)) w1 := by
  refine ⟨0, Nat.zero_le _, rfl, hu, fun h0 => ?_, fun hlt => ?_⟩
  · refine ⟨C, ho, ⟨hl, fun k hk => absurd hk (by omega), fun k hk => absurd hk (by omega), fun j k hj => absurd hj (by omega)⟩⟩
  · rcases own_row ho with ⟨_, h1, _⟩ | ⟨g, cap, sp, h1, h2, h3, h4, h5, h6⟩
    · omega
    · rw [hl] at h1 h4 h6
      exact ⟨C, g, cap, sp, ⟨h1, h2, h4, h5, h6⟩, ⟨hl, h3, fun j _ hj => absurd hj (by omega), fun j _ hj => absurd hj (by omega), fun j _ _ _ _ hj => absurd hj (by omega), fun _ _ _ => rfl, hu⟩⟩

theorem SCRel.next {st : Sta} {C : List VC} {W0 W5 wF wr : World} {v1 u : Value} {g cap k : Nat} {sp : List Value} {C' : List VC} (h : SCI st C W0 g sp k C' wr) (hr : SCRow v1 st.v.length W0.heap.size g cap sp) (hk : k < st.v.length)
    (h5 : Up wr W5) (hF : Up W5 wF) (hu : OIds wF W5.heap.size u st.v[k].bl) : SCRel st C W0 v1 (.int .i64 (((k + 1 : Nat)) : Int)) ((wF.setCell ⟨g, k * 2, none⟩ (.string (bs st.v[k].nm))).setCell ⟨g, k * 2 + 1, none⟩ u) := by
  have hs := h.step hk hr.2.1 h5 hF hu
  refine ⟨k + 1, by omega, rfl, hs.up, fun e => ?_, fun _ => ⟨_, g, cap, sp, hr, hs⟩⟩
  rw [e] at hs
  exact hs.done hr

/-- a result of two cells, in its box -/
theorem box_new (w : World) (X : Obj) (a b : Value) (T : TypeId) : RowC ((w.alloc X).alloc (.cells #[a, b] T)) (w.heap.size + 1) T [a, b] := by
  have h : (w.alloc X).heap.size = w.heap.size + 1 := by simp
  rw [← h]
  exact heap_alloc_new _ _

theorem itState : (89 : Nat) ≠ 36 := by decide
theorem voState : (81 : Nat) ≠ 36 := by decide
theorem idState : (86 : Nat) ≠ 36 := by decide

theorem OItems.setR {w : World} {base R i : Nat} {v x : Value} {l : List Itm} {L : List Value} (h : OItems w base v l) (hr : RowC w R 36 L) : OItems (w.setCell ⟨R, i, none⟩ x) base v l := own_set h (own_apart h hr itState)

theorem OVols.setR {w : World} {base R i : Nat} {v x : Value} {l : List Vo} {L : List Value} (h : OVols w base v l) (hr : RowC w R 36 L) : OVols (w.setCell ⟨R, i, none⟩ x) base v l := by
  obtain ⟨C, h1, h2⟩ := h
  exact ⟨C, own_set h1 (own_apart h1 hr voState), ⟨h2.len, h2.nm, fun k hk => own_set (h2.bl k hk) (own_apart (h2.bl k hk) hr idState), h2.apart⟩⟩

set_option maxRecDepth 100000 in
set_option maxHeartbeats 4000000 in
theorem stclone_any (v : Value) (st : Sta) (w : World) (h : Stat w v st) (hg : WoolVol.Good FP st) : Calls Tryz.prog 94 #[v] w (StPost w st) := by
  obtain ⟨vb, vv, rfl, hb, C, hvc, hrd⟩ := h
  have hlC := hrd.len
  have HCB := Lib.hid (fun W (hW : Up w W) => clone_any vb st.b W (hb.up hW) hg.bag.len (fun x hx => (hg.bag.ok x hx).1))
  have HCV := Lib.hid (fun W (hW : Up w W) => cloneV_any vv C W (Sl.up hvc hW) hrd.one (by rw [hlC]; exact hg.len))
  obtain ⟨oB, cB, rfl, _⟩ := hb.slice
  obtain ⟨oV, cV, rfl, _, _⟩ := Sl.slice hvc
  have HRD := Lib.hid hrd
  have HG := Lib.hid hg
  have hlv := hg.len
  clear hb hvc hrd hg
  obtain ⟨N, hN⟩ : ∃ N, C.length = N := ⟨_, rfl⟩
  rw [hN] at HCV hlC ⊢
  have HN : Hid (st.v.length = N) := hlC.symm
  have HCN := Lib.hid hN
  rw [HN.out] at hlv
  clear hN hlC
  generalize st.b.length = M at *
  go_enter Tryz.func94, Tryz.ntmps94
  go_wp2_with fail
  have HC : Hid (((w.alloc (.cells #[.slice oB M cB, .slice oV N cV] 36)).alloc (.cells #[.slice none 0 0, .slice none 0 0] 36)).cell? ⟨w.heap.size, 0, none⟩ = some (.slice oB M cB)) := Lib.cell?_alloc_some _ (World.cell?_alloc_new w _ _ 0)
  have HR : Hid (RowC ((w.alloc (.cells #[.slice oB M cB, .slice oV N cV] 36)).alloc (.cells #[.slice none 0 0, .slice none 0 0] 36)) (w.heap.size + 1) 36 [.slice none 0 0, .slice none 0 0]) := box_new w _ _ _ _
  have HW0 : Hid (Up w ((w.alloc (.cells #[.slice oB M cB, .slice oV N cV] 36)).alloc (.cells #[.slice none 0 0, .slice none 0 0] 36))) := (Up.alloc _ _).trans (Up.alloc _ _)
  have HSZ : Hid (w.heap.size < ((w.alloc (.cells #[.slice oB M cB, .slice oV N cV] 36)).alloc (.cells #[.slice none 0 0, .slice none 0 0] 36)).heap.size) := by show _ < _; simp; omega
  generalize (w.alloc (.cells #[.slice oB M cB, .slice oV N cV] 36)).alloc (.cells #[.slice none 0 0, .slice none 0 0] 36) = W0 at HC HR HW0 HSZ ⊢
  refine (HCV.out _ HW0.out).mono ?_
  rintro e w1 ⟨v1, rfl, ho1, u1⟩
  have HST := Lib.hid (SCRel.start (st := st) (by rw [HCN.out, HN.out]) ho1 u1)
  obtain ⟨o1, c1, hv1, hc1, hc2⟩ := Sl.slice ho1.vcs
  subst hv1
  rw [HCN.out] at HST hc1 ⊢
  unfold maxLen at hc2
  clear ho1 u1
  go_wp2_with fail
  go_loopw [11] (fun i wr => SCRel st C W0 (.slice o1 N c1) i wr) (fun i _ => N - (intOf i).toNat)
  case atStart => exact HST.out
  case round =>
    obtain ⟨k, hk, rfl, hu, hdone, hgo⟩ := hrel
    rw [HN.out] at hk
    have HU := Lib.hid hu
    by_cases hlt : k < N
    · have hkl : k < st.v.length := by rw [HN.out]; exact hlt
      obtain ⟨C', g, cap, sp, hrw, hsci⟩ := hgo hkl
      obtain ⟨hve, hgb, hr3, hr4, hr5⟩ := hrw
      rw [HN.out] at hve
      cases hve
      have HRW : Hid (SCRow (.slice (some ⟨g, 0, none⟩) N c1) st.v.length W0.heap.size g c1 sp) := ⟨by rw [HN.out], hgb, hr3, hr4, hr5⟩
      have HSC := Lib.hid hsci
      have hlC' : C'.length = N := by rw [hsci.len]; exact HN.out
      have hkC : k < C.length := by rw [HCN.out]; exact hlt
      have hCk : C'[k]'(by omega) = C[k] := by
        have := hsci.rest k hkl (Nat.le_refl _)
        rw [List.getElem?_eq_getElem (by omega), List.getElem?_eq_getElem hkC] at this
        exact Option.some.inj this
      have hnm := HRD.out.nm k hkl
      have hids := HRD.out.bl k hkl
      obtain ⟨hnb, hbl, _⟩ := HG.out.vol _ (List.getElem_mem hkl)
      have hn12 : st.v[k].nm.length ≤ 12 := by unfold nameB at hnb; simp at hnb; omega
      have HUw : Hid (Up w wr) := HW0.out.trans hu
      have hrow := hsci.row
      have hf := fl_get vcC_len C' k (by omega) 
      have e1 : wr.cell? ⟨g, k * 2, none⟩ = some (.string (bs st.v[k].nm)) := by
        refine hrow.cell ?_
        rw [List.getElem?_append_left (by rw [fl_length vcC_len]; omega)]
        have := hf 0 (by omega)
        rw [hCk] at this
        rw [Nat.add_zero] at this
        rw [this, ← hnm]; rfl
      have e2 : wr.cell? ⟨g, k * 2 + 1, none⟩ = some C[k].sl := by
        refine hrow.cell ?_
        rw [List.getElem?_append_left (by rw [fl_length vcC_len]; omega)]
        have := hf 1 (by omega)
        rw [hCk] at this
        rw [this]; rfl
      have HCD := Lib.hid (fun W (hW : Up w W) => cloneD_any C[k].sl st.v[k].bl W (hids.up hW) hbl)
      have HSS := Lib.hid (fun W => clone_str (bs st.v[k].nm) W (by rw [bs_size]; omega))
      obtain ⟨o', c', hsl, _, _⟩ := hids.slice
      rw [hsl] at e2 HCD
      have HNEXT : Hid (∀ W5 wF u, Up wr W5 → Up W5 wF → OIds wF W5.heap.size u st.v[k].bl → SCRel st C W0 (.slice (some ⟨g, 0, none⟩) N c1) (.int .i64 ((k + 1 : Nat) : Int)) ((wF.setCell ⟨g, k * 2, none⟩ (.string (bs st.v[k].nm))).setCell ⟨g, k * 2 + 1, none⟩ u)) := fun W5 wF u h5 hF hu => SCRel.next HSC.out HRW.out hkl h5 hF hu
      obtain ⟨nm, hnme⟩ : ∃ nm, st.v[k].nm = nm := ⟨_, rfl⟩
      obtain ⟨bl, hble⟩ : ∃ bl, st.v[k].bl = bl := ⟨_, rfl⟩
      rw [hnme] at e1 HSS HNEXT
      rw [hble] at e2 HCD HNEXT
      obtain ⟨L, hL⟩ : ∃ L, bl.length = L := ⟨_, rfl⟩
      rw [hL] at e2 HCD
      have hgl : g < wr.heap.size := hrow.lt
      have HROW := Lib.hid hrow
      have d1 : decide (k < N) = true := decide_eq_true hlt
      clear hgo hdone hsci hr3 hr4 hr5 hCk hnm hids hnb hbl hn12 hrow hf hsl hnme hble hu hgb
      go_wp2_with fail
      have q0 : (wr.alloc (.cells #[.string (bs nm), .slice o' L c'] 81)).cell? ⟨wr.heap.size, 0, none⟩ = some (.string (bs nm)) := World.cell?_alloc_new wr _ _ 0
      have q1 : (wr.alloc (.cells #[.string (bs nm), .slice o' L c'] 81)).cell? ⟨wr.heap.size, 1, none⟩ = some (.slice o' L c') := World.cell?_alloc_new wr _ _ 1
      have q4 : wr.heap.size < (wr.alloc (.cells #[.string (bs nm), .slice o' L c'] 81)).heap.size := by simp
      have HU5 : Hid (Up wr (wr.alloc (.cells #[.string (bs nm), .slice o' L c'] 81))) := Up.alloc _ _
      have hr5 := HROW.out.up HU5.out
      have r0 := hr5.frozen (k * 2)
      have r1 := hr5.frozen (k * 2 + 1)
      have r2 := Lib.cell?_alloc_some (.cells #[.string (bs nm), .slice o' L c'] 81) e1
      have r3 := Lib.cell?_alloc_some (.cells #[.string (bs nm), .slice o' L c'] 81) e2
      have hgl5 : g < (wr.alloc (.cells #[.string (bs nm), .slice o' L c'] 81)).heap.size := Nat.lt_of_lt_of_le hgl HU5.out.size
      have hne : g ≠ wr.heap.size := by omega
      clear hr5 e1 e2
      generalize (wr.alloc (.cells #[.string (bs nm), .slice o' L c'] 81)) = W5 at q0 q1 q4 HU5 r0 r1 r2 r3 hgl5 ⊢
      have HUw5 : Hid (Up w W5) := HUw.out.trans HU5.out
      go_region_held3 (fun U => U.cell? ⟨wr.heap.size, 0, none⟩ = some (.string (bs nm)) ∧ U.cell? ⟨wr.heap.size, 1, none⟩ = some (.slice o' L c')) (first | go_keep | (exact ⟨(World.cell?_setCell_far _ _ _ _ hne).trans ((World.cell?_setCell_far _ _ _ _ hne).trans y0), (World.cell?_setCell_far _ _ _ _ hne).trans ((World.cell?_setCell_far _ _ _ _ hne).trans y1)⟩))
        (first
          | (go_at_call 35; ((with_reducible refine (HSS.out _).mono ?_); rintro e wA ⟨rfl, uA⟩; have hA : Up W5 wA := (by first | exact (Up.drew _).trans uA | exact hB.trans uA); have y0 := (Below.cell hA (p := ⟨wr.heap.size, 0, none⟩) q4).trans q0; have y1 := (Below.cell hA (p := ⟨wr.heap.size, 1, none⟩) q4).trans q1; have z0 := (Below.frozen hA (p := ⟨g, k * 2, none⟩) hgl5).trans r0; have z1 := (Below.frozen hA (p := ⟨g, k * 2 + 1, none⟩) hgl5).trans r1; have z2 := (Below.cell hA (p := ⟨g, k * 2, none⟩) hgl5).trans r2; have z3 := (Below.cell hA (p := ⟨g, k * 2 + 1, none⟩) hgl5).trans r3))
          | (go_at_call 44; ((with_reducible refine (HCD.out _ (by first | exact HUw5.out.trans (Up.drew _) | exact HUw5.out.trans hA)).mono ?_); rintro e wB ⟨vB, rfl, hoB, uB⟩; have hB : Up W5 wB := (by first | exact (Up.drew _).trans uB | exact hA.trans uB); obtain ⟨oX, cX, hvX, _, _⟩ := hoB.ids.slice; rw [hL] at hvX; subst hvX; have y0 := (Below.cell hB (p := ⟨wr.heap.size, 0, none⟩) q4).trans q0; have y1 := (Below.cell hB (p := ⟨wr.heap.size, 1, none⟩) q4).trans q1; have z0 := (Below.frozen hB (p := ⟨g, k * 2, none⟩) hgl5).trans r0; have z1 := (Below.frozen hB (p := ⟨g, k * 2 + 1, none⟩) hgl5).trans r1; have z2 := (Below.cell hB (p := ⟨g, k * 2, none⟩) hgl5).trans r2; have z3 := (Below.cell hB (p := ⟨g, k * 2 + 1, none⟩) hgl5).trans r3)))
      all_goals
        first
        | (have hnx := HNEXT.out W5 wB (.slice oX L cX) HU5.out hB (own_base hoB (by first | exact Nat.le_refl _ | exact hA.size))
           generalize (wB.setCell ⟨g, k * 2, none⟩ (.string (bs nm))).setCell ⟨g, k * 2 + 1, none⟩ (.slice oX L cX) = W8 at hnx ⊢)
        | (have hnx := HNEXT.out W5 wA (.slice oX L cX) HU5.out hA (own_up (own_base hoB (Nat.le_refl _)) uA)
           generalize (wA.setCell ⟨g, k * 2, none⟩ (.string (bs nm))).setCell ⟨g, k * 2 + 1, none⟩ (.slice oX L cX) = W8 at hnx ⊢)
        have HNX := Lib.hid hnx
        clear hnx y0 y1 z0 z1 z2 z3 q0 q1 q4 r0 r1 r2 r3
        go_wp2_with fail
        go_roundw
        case rel => exact HNX.out
        case measure => simp only [intOf]; omega
    · have d1 : decide (k < N) = false := decide_eq_false hlt
      have hke : k = st.v.length := by rw [HN.out]; omega
      have HOV := Lib.hid (hdone hke)
      have c0 := (hu.cell (p := ⟨w.heap.size, 0, none⟩) HSZ.out).trans HC.out
      have HRr := Lib.hid (HR.out.up hu)
      clear hdone hgo hke hu
      go_wp2_with fail
      refine (HCB.out _ (HW0.out.trans HU.out)).mono ?_
      rintro e w7 ⟨v7, rfl, ho7, u7⟩
      obtain ⟨o7, c7, hv7, _⟩ := ho7.items.slice
      subst hv7
      have hr7 := HRr.out.up u7
      have r0 := hr7.frozen 0
      have r1 := hr7.frozen 1
      have r2 := hr7.cell (j := 0) rfl
      have r3 := hr7.cell (j := 1) rfl
      have HO7 := Lib.hid ho7
      have HU7 := Lib.hid u7
      have HR7 := Lib.hid hr7
      clear ho7 u7 hr7
      go_wp2_with fail
      have hz := (HR7.out.set 0 (.slice o7 st.b.length c7)).set 1 (.slice o1 N c1)
      have z0 := hz.cell (j := 0) rfl
      have z1 := hz.cell (j := 1) rfl
      have HOI : Hid (OItems ((w7.setCell ⟨w.heap.size + 1, 0, none⟩ (.slice o7 st.b.length c7)).setCell ⟨w.heap.size + 1, 1, none⟩ (.slice o1 N c1)) w.heap.size (.slice o7 st.b.length c7) st.b) := OItems.base (OItems.setR (OItems.setR HO7.out HR7.out) (HR7.out.set 0 _)) (HW0.out.trans HU.out).size
      have HOVs : Hid (OVols ((w7.setCell ⟨w.heap.size + 1, 0, none⟩ (.slice o7 st.b.length c7)).setCell ⟨w.heap.size + 1, 1, none⟩ (.slice o1 N c1)) w.heap.size (.slice o1 N c1) st.v) := OVols.base (OVols.setR (OVols.setR (HOV.out.up HU7.out) HR7.out) (HR7.out.set 0 _)) HW0.out.size
      have HUZ : Hid (Up w ((w7.setCell ⟨w.heap.size + 1, 0, none⟩ (.slice o7 st.b.length c7)).setCell ⟨w.heap.size + 1, 1, none⟩ (.slice o1 N c1))) := (Below.setCell (show Below w.heap.size w w7 from (HW0.out.trans HU.out).trans HU7.out) (p := ⟨w.heap.size + 1, 0, none⟩) (Nat.le_succ _) _).setCell (p := ⟨w.heap.size + 1, 1, none⟩) (Nat.le_succ _) _
      generalize (w7.setCell ⟨w.heap.size + 1, 0, none⟩ (.slice o7 st.b.length c7)).setCell ⟨w.heap.size + 1, 1, none⟩ (.slice o1 N c1) = WZ at z0 z1 HOI HOVs HUZ ⊢
      exact bodyPost_ret (v := .agg #[.slice o7 st.b.length c7, .slice o1 N c1]) (by simp [results, Tryz.results94, go_sem, z0, z1]) rfl ⟨_, rfl, ⟨_, _, rfl, HOI.out, HOVs.out⟩, HUZ.out⟩

end Go.Proofs.YtbeigaanlhaolaaGreatDoor

/-
  Stores into a row of items that is known whole; slices.Delete of one item of such a row. Conditions: as each says.
-/
namespace Go.Proofs.YtbeigaanlhaolaaGreatDoor
open Go.RowKit
open Go.Proofs
open WoolBag

theorem splice_cons {L : List Value} {s : Nat} {v : Value} {r : List Value} (h : s < L.length) : splice (L.set s v) (s + 1) r = splice L s (v :: r) := by
  unfold splice
  rw [List.take_set, List.drop_set, if_pos (by omega), List.length_cons, List.take_succ_eq_append_getElem (by omega), List.set_append_right _ _ (by rw [List.length_take]; omega)]
  have h0 : s - (L.take s).length = 0 := by rw [List.length_take]; omega
  rw [h0]
  simp [show s + (r.length + 1) = s + 1 + r.length by omega]

theorem RowI.setCells : ∀ (news : List Value) {w : World} {g : Nat} {L : List Value} (s : Nat), RowI w g L → s + news.length ≤ L.length → RowI (w.setCells g s news) g (splice L s news)
  | [], w, g, L, s, h, hl => by
    show RowI w g _
    unfold splice
    simpa using h
  | v :: r, w, g, L, s, h, hl => by
    have hs : s < L.length := by simp at hl; omega
    have ih := RowI.setCells r (s + 1) (h.set s v) (by simp at hl ⊢; omega)
    rw [splice_cons hs] at ih
    exact ih

theorem below_setCells : ∀ (news : List Value) {B g : Nat} {w0 w : World} (s : Nat), Below B w0 w → B ≤ g → Below B w0 (w.setCells g s news)
  | [], _, _, _, _, _, h, _ => h
  | v :: r, _, g, _, _, s, h, hg => below_setCells r (s + 1) (Below.setCell h (p := ⟨g, s, none⟩) hg v) hg

/-- the cells of the empty item -/
def zc : List Value := [.int .i64 0, .int .i64 0, .string ⟨#[]⟩, .int .i64 0]

theorem RowI.setRow {w : World} {g : Nat} {L : List Value} (h : RowI w g L) (L' : List Value) : RowI (w.setRow g L'.toArray) g L' := setRow_heap w g _ _ _ _ h

/-- clear of one item -/
theorem clear_one {w : World} {g s c : Nat} {L : List Value} (h : RowI w g L) (hs : s + 4 ≤ L.length) (ty : TypeId) :
    (Builtin.clear_ #[33] ty #[.slice (some ⟨g, s, none⟩) 1 c]).run Tryz.prog w = .ok (.tuple #[]) (w.setRow g (splice L s zc).toArray) := by
  have hst := run_storeCells_at Tryz.prog g s 89 zc 0 L.toArray w h (by simp [zc]; omega) (by intro u hu; simp [zc] at hu; rcases hu with rfl | rfl | rfl | rfl <;> rfl)
  have hz : (Builtin.zeroCells (Value.agg #[.int .i64 0, .int .i64 0, .string ⟨#[]⟩, .int .i64 0]).cells 1).toList = zc := by kernel_rfl
  simp only [Nat.add_zero] at hst
  simp [Builtin.clear_, run_underlying Tryz.underlying33, hz, hst, splice]

/-- the row behind the two steps of a Delete -/
theorem erase_row (l : List Itm) (k : Nat) (hk : k < l.length) (sp : List Value) :
    splice (splice (itL l ++ sp) (k * 4) (itL (l.drop (k + 1)))) ((l.length - 1) * 4) zc = itL (l.eraseIdx k) ++ (zc ++ sp) := by
  have e1 : splice (itL l ++ sp) (k * 4) (itL (l.drop (k + 1))) = itL (l.eraseIdx k) ++ ((itL l).drop ((l.length - 1) * 4) ++ sp) := by
    unfold splice
    rw [List.take_append_of_le_length (by rw [itL_length]; omega), ← itL_take, itL_length, List.length_drop, List.drop_append_of_le_length (by rw [itL_length]; omega), List.eraseIdx_eq_take_drop_succ, itL_append, List.append_assoc,
      show k * 4 + (l.length - (k + 1)) * 4 = (l.length - 1) * 4 by omega]
  rw [e1]
  have e2 : (itL (l.eraseIdx k)).length = (l.length - 1) * 4 := by rw [itL_length, List.length_eraseIdx_of_lt hk]
  have e3 : ((itL l).drop ((l.length - 1) * 4)).length = 4 := by rw [List.length_drop, itL_length]; omega
  have e4 : zc.length = 4 := rfl
  generalize (itL l).drop ((l.length - 1) * 4) = D at e3
  unfold splice
  rw [← e2, List.take_left, e4, List.drop_append, List.drop_of_length_le (by omega), List.nil_append, show (itL (l.eraseIdx k)).length + 4 - (itL (l.eraseIdx k)).length = 4 by omega, List.drop_append, List.drop_of_length_le (by omega), e3, List.nil_append]
  rfl

set_option maxRecDepth 100000 in
set_option maxHeartbeats 2000000 in
theorem delete_any (l : List Itm) (k j g cap : Nat) (sp : List Value) (w : World) (hj : j = k + 1) (hk : k < l.length) (hrow : RowI w g (itL l ++ sp)) (hc1 : l.length ≤ cap) (hc2 : cap ≤ maxLen) (hc3 : l.length * 4 + sp.length = cap * 4) :
    Calls Tryz.prog 170 #[.slice (some ⟨g, 0, none⟩) l.length cap, .int .i64 (k : Int), .int .i64 (j : Int)] w fun e w' => e = .returned (.slice (some ⟨g, 0, none⟩) (l.length - 1) cap) ∧ RowI w' g (itL (l.eraseIdx k) ++ (zc ++ sp)) ∧ Below g w w' := by
  obtain ⟨i0, hi0, hz0, hz1, hz2⟩ := itInfo'
  have hcm := hc2
  unfold maxLen at hcm
  clear hc2
  have HE := Lib.hid (erase_row l k hk sp)
  obtain ⟨news, hnews⟩ : ∃ news, itL (l.drop (k + 1)) = news := ⟨_, rfl⟩
  have hlen : news.length = (l.length - j) * 4 := by rw [← hnews, itL_length, List.length_drop, hj]
  have hget : ∀ t u, news[t]? = some u → w.cell? ⟨g, j * 4 + t, none⟩ = some u := by
    intro t u hu
    rw [← hnews, itL_drop, List.getElem?_drop] at hu
    rw [hj]
    exact hrow.cell (get_app hu)
  have hone : ∀ u ∈ news, u.oneCell' = true := by rw [← hnews]; exact itL_one _
  rw [hnews] at HE
  obtain ⟨A, hA, hsrc⟩ : ∃ A : Addr, (if cap = j then some (⟨g, 0, none⟩ : Addr) else some ⟨g, j * 4, none⟩) = some A ∧ Hid (∀ t u, news[t]? = some u → w.drew.cell? (A.add t) = some u) := by
    by_cases h : cap = j
    · refine ⟨⟨g, 0, none⟩, by simp [h], fun t u hu => ?_⟩
      have h0 : news.length = 0 := by rw [hlen]; omega
      rw [List.length_eq_zero_iff.1 h0] at hu
      simp at hu
    · refine ⟨⟨g, j * 4, none⟩, by simp [h], fun t u hu => ?_⟩
      rw [add_lit]
      exact hget t u hu
  have hLL : (itL l ++ sp).length = cap * 4 := by rw [List.length_append, itL_length]; exact hc3
  have s1 := Lib.hid hlen
  have s2 := Lib.hid hone
  have s3 : Hid (∀ t, t < news.length → (w.drew.cell? ⟨g, 0 + k * 4 + t, none⟩).isSome = true ∧ w.drew.frozen? ⟨g, 0 + k * 4 + t, none⟩ = false) := by
    intro t ht
    rw [hlen] at ht
    refine ⟨?_, hrow.frozen _⟩
    show (w.cell? _).isSome = true
    rw [hrow.at, List.getElem?_eq_getElem (by rw [hLL]; omega)]; rfl
  obtain ⟨W1, hW1⟩ : ∃ W1, W1 = w.drew.setCells g (0 + k * 4) news := ⟨_, rfl⟩
  have hrd : RowI w.drew g (itL l ++ sp) := hrow
  have hR1 : RowI W1 g (splice (itL l ++ sp) (k * 4) news) := by
    rw [hW1, Nat.zero_add]
    exact hrd.setCells news (k * 4) (by rw [hLL, hlen]; omega)
  have hB1 : Below g w W1 := by rw [hW1]; exact below_setCells news _ (Below.drew (Below.refl g w)) (Nat.le_refl _)
  have hspl : (splice (itL l ++ sp) (k * 4) news).length = cap * 4 := by rw [length_splice _ _ _ (by rw [hLL, hlen]; omega), hLL]
  have hcl := fun c ty => clear_one (c := c) hR1 (s := (l.length - 1) * 4) (by rw [hspl]; omega) ty
  have hR2 := hR1.setRow (splice (splice (itL l ++ sp) (k * 4) news) ((l.length - 1) * 4) zc)
  rw [HE.out] at hcl hR2
  have HW := Lib.hid hW1
  have HR2 := Lib.hid hR2
  have HB1 := Lib.hid hB1
  have HLN : Hid (k + (l.length - j) = l.length - 1) := by show _ = _; omega
  have HLN2 : Hid (l.length - (l.length - 1) = 1) := by show _ = _; omega
  have hkj : ((k : Int) == (j : Int)) = false := by simp; omega
  have hkc : k ≤ cap := by omega
  have hjc : j ≤ cap := by omega
  have hjl : j ≤ l.length := by omega
  have hkj' : k ≤ j := by omega
  obtain ⟨n, hn⟩ : ∃ n, l.length = n := ⟨_, rfl⟩
  rw [hn] at hc1 s1 hcl HLN HLN2 hjl hk ⊢
  have hnk : ¬ n = k := by omega
  have HJ := Lib.hid hj
  have HN1 : Hid (n - 1 ≤ cap) := by show _ ≤ _; omega
  have hnj : n - 1 = k + (n - j) := by omega
  rw [hnj] at hcl ⊢
  have hx1 : n - (k + (n - j)) = 1 := by omega
  have hx2 : k + (n - j) ≤ n := by omega
  have hx3 : k + (n - j) ≤ cap := by omega
  have hx4 : ¬ cap = k + (n - j) := by omega
  clear hW1 hR1 hB1 hspl hrow hrd hget hone hlen hnews hR2 hLL hn hc3 hj hnj HE
  go_enter Tryz.func170, Tryz.ntmps170
  go_wp2_with fail
  go_region_law (refine step_append_room rfl (.tmp 22) (.tmp 25) 33 rfl 89 i0 4 Tryz.underlying33 hi0 hz1 g 0 k cap (by simp [Act.eval, Act.put]) A (n - j) (cap - j) news (by simp [Act.eval, Act.put]) s1.out hsrc.out s2.out (by omega) s3.out ?_; rw [← HW.out])
  all_goals
    go_wp2_with fail
    go_ret
    exact ⟨rfl, HR2.out, below_setRow HB1.out (Nat.le_refl _) _⟩

end Go.Proofs.YtbeigaanlhaolaaGreatDoor

/-
  What Drop of package bag returns. Condition: the row can be read.
-/
namespace Go.Proofs.YtbeigaanlhaolaaGreatDoor
open Go.RowKit
open Go.Proofs
open WoolBag

/-- what Drop leaves: a new row and an error -/
def DropPost (w : World) (R : List Itm × Int) (e : Ending) (w' : World) : Prop :=
  ∃ v', e = .returned (.tuple #[v', .int .i64 R.2]) ∧ OItems w' w.heap.size v' R.1 ∧ Up w w'

theorem less_set (l : List Itm) (k : Nat) (h : k < l.length) : (l.set k (more l[k] (-1))).eraseIdx k = l.eraseIdx k := by
  rw [List.eraseIdx_set_eq]

set_option maxRecDepth 100000 in
set_option maxHeartbeats 1000000 in
theorem drop_any (v : Value) (l : List Itm) (i : Bool × Int × Int) (w : World) (h : Items w v l) :
    Calls Tryz.prog 127 #[v, idV i] w (DropPost w (WoolBag.drop FP l i)) := by
  obtain ⟨R, hR⟩ : ∃ R, WoolBag.drop FP l i = R := ⟨_, rfl⟩
  rw [hR]
  unfold WoolBag.drop at hR
  have hfi := Lib.hid (fun W (hW : Up w W) => find_any v l i W (h.up hW))
  unfold findR at hfi
  have HL := Lib.hid (find_lt (l := l) (i := i))
  obtain ⟨k, hK⟩ : ∃ K, (find FP l i).1 = K := ⟨_, rfl⟩
  obtain ⟨E, hE⟩ : ∃ E, (find FP l i).2 = E := ⟨_, rfl⟩
  rw [hK, hE] at hfi HL hR
  have HCL := Lib.hid (fun W (hW : Up w W) hb => clone_any v l W (h.up hW) (Bag.len hb) (fun x hx => (Bag.ok (F := FP) hb x hx).1))
  have HRR := Lib.hid hR
  obtain ⟨o, c, rfl, h3⟩ := h.slice
  unfold maxLen at h3
  unfold idV at hfi ⊢
  obtain ⟨ib, is, iN⟩ := i
  simp only at hfi ⊢
  clear hR hK hE h
  go_enter Tryz.func127, Tryz.ntmps127
  go_wp2_with fail
  refine (hfi.out _ (Up.alloc _ _)).mono ?_
  rintro e w1 ⟨rfl, u1⟩
  have HU1 : Hid (Up w w1) := Up.after _ _ _ u1
  clear u1
  by_cases h0 : E = 0
  · subst h0
    obtain ⟨hk, hbag, _⟩ := HL.out rfl
    have hl := hbag.len
    have hok := hbag.ok _ (List.getElem_mem hk)
    have r1 := hok.2.2.2.2.1
    have r2 := hok.2.2.2.2.2
    have hr := HRR.out
    rw [if_pos rfl] at hr
    unfold less at hr
    rw [getElem!_pos l k hk] at hr
    have HC := Lib.hid (HCL.out w1 HU1.out hbag)
    have hgets := (itL_get l k hk).2.2.2
    have hsetR := itL_setR l k hk (-1)
    obtain ⟨L', hL'⟩ : ∃ L', l.set k (more l[k] (-1)) = L' := ⟨_, rfl⟩
    have hLl : L'.length = l.length := by rw [← hL', List.length_set]
    have hgets' := (itL_get L' k (by omega)).2.2.2
    have hk' : L'[k]'(by omega) = more l[k] (-1) := by subst hL'; rw [List.getElem_set_self]
    have hera : L'.eraseIdx k = l.eraseIdx k := by rw [← hL']; exact less_set l k hk
    rw [hk'] at hgets'
    simp only [more] at hgets'
    rw [hL'] at hr hsetR
    obtain ⟨r, hrr⟩ : ∃ r, l[k].r = r := ⟨_, rfl⟩
    rw [hrr] at r1 r2 hr hgets hsetR hgets'
    have HG1 := Lib.hid hgets
    have HG2 := Lib.hid hgets'
    have HSR := Lib.hid hsetR
    have HLL := Lib.hid hLl
    have HER := Lib.hid hera
    have HRV := Lib.hid hr
    clear hgets hgets' hsetR hLl hk' hr hrr hok hbag hL' HL HRR HCL hera
    go_wp2_with fail
    refine HC.out.mono ?_
    rintro e w2 ⟨v', rfl, hown, u2⟩
    rcases hown.row with ⟨_, hnil⟩ | ⟨g, cap, sp, rfl, hg, hrow, hc1, hc2, hc3⟩
    · rw [hnil] at hk; simp at hk
    have hU2 := HU1.out.trans u2
    have hgw : w.heap.size ≤ g := Nat.le_trans HU1.out.size hg
    have c3 := hrow.cell (get_app (sp := sp) HG1.out)
    have fz := hrow.frozen (k * 4 + 3)
    obtain ⟨w3, hw3⟩ : ∃ w3, w2.setCell ⟨g, k * 4 + 3, none⟩ (.int .i64 (r + -1)) = w3 := ⟨_, rfl⟩
    have hrow3 := hrow.set (k * 4 + 3) (.int .i64 (r + -1))
    rw [List.set_append_left _ _ (by rw [itL_length]; omega), HSR.out, hw3] at hrow3
    have hU3 : Up w w3 := by rw [← hw3]; exact Below.setCell hU2 (p := ⟨g, k * 4 + 3, none⟩) hgw _
    have e3 := hrow3.cell (get_app (sp := sp) HG2.out)
    have hwr : IntKind.i64.wrap (r - 1) = r + -1 := by rw [Int.sub_eq_add_neg]; exact IntWalk.i64_in _ (by omega)
    have hm : r - 1 = r + -1 := Int.sub_eq_add_neg
    have HROW3 := Lib.hid hrow3
    have HU3 := Lib.hid hU3
    have HC3 := Lib.hid hc3
    have HW3 := Lib.hid hw3
    have HGW := Lib.hid hgw
    have HC2 := Lib.hid hc2
    unfold maxLen at hc2
    rw [← hw3, ← hm] at e3
    rw [← hm] at HW3
    clear hown hrow hg u2 hU2 hrow3 hU3 hw3 hc3 HG1 HG2 HSR hwr
    by_cases h1 : r = 1
    · have hr := HRV.out
      rw [if_pos h1] at hr
      subst h1
      have HRV2 := Lib.hid hr
      have HDEL := Lib.hid (delete_any L' k (k + 1) g cap sp w3 rfl (by rw [HLL.out]; exact hk) HROW3.out (by rw [HLL.out]; exact hc1) HC2.out (by rw [HLL.out]; exact HC3.out))
      rw [HLL.out, HER.out] at HDEL
      clear hr hm
      have hel : (l.eraseIdx k).length = l.length - 1 := List.length_eraseIdx_of_lt hk
      have HEL := Lib.hid hel
      clear hel
      go_wp2_with fail
      rw [show w2.setCell ⟨g, k * 4 + 3, none⟩ (.int .i64 0) = w3 from HW3.out]
      have hd := HDEL.out
      rw [show ((k + 1 : Nat) : Int) = (k : Int) + 1 by omega] at hd
      refine hd.mono ?_
      rintro e w4 ⟨rfl, hr4, hb4⟩
      have HR4 := Lib.hid hr4
      have HB4 := Lib.hid hb4
      clear hd hr4 hb4
      go_wp2_with fail
      go_ret2
      have hel := HEL.out
      refine ⟨_, by rw [← HRV2.out]; rfl, ?_, Below.trans HU3.out (HB4.out.mono hgw)⟩
      rw [← HRV2.out]
      show OItems w4 w.heap.size (.slice (some ⟨g, 0, none⟩) (l.length - 1) cap) (l.eraseIdx k)
      rw [← hel]
      have hz : zc.length = 4 := rfl
      exact OItems.mk hgw HR4.out (by omega) HC2.out (by rw [List.length_append, hz]; have := HC3.out; omega)
    · have hr := HRV.out
      rw [if_neg h1] at hr
      have HRV2 := Lib.hid hr
      have d0 : (r - 1 == 0) = false := by simp; omega
      clear hr hm
      go_wp2_with fail
      rw [HW3.out]
      go_ret2
      have hll := HLL.out
      refine ⟨_, by rw [← HRV2.out]; rfl, ?_, HU3.out⟩
      rw [← HRV2.out]
      show OItems w3 w.heap.size (.slice (some ⟨g, 0, none⟩) l.length cap) L'
      rw [← hll]
      exact OItems.mk hgw HROW3.out (by omega) HC2.out (by rw [hll]; exact HC3.out)
  · have hr := HRR.out
    rw [if_neg h0] at hr
    have HRV := Lib.hid hr
    have hne : (E != 0) = true := by rw [bne_iff_ne]; exact h0
    clear hr h0
    go_wp2_with fail
    go_ret2
    exact ⟨_, by rw [← HRV.out]; rfl, by rw [← HRV.out]; exact OItems.nil _ _, HU1.out⟩

end Go.Proofs.YtbeigaanlhaolaaGreatDoor
