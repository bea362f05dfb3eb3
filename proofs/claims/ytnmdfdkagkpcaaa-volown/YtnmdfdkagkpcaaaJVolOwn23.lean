/-
  What state.Clone returns: a state of the call's own. Condition: a valid state.
-/
import Derived.Test.YtnmdfdkagkpcaaaJVolOwn22
namespace Go.Proofs.Ytnmdfdkagkpcaaa
open Go.RowKit
open Go.Proofs
open WoolBag
open WoolVol

theorem vc_set : ∀ (C : List VC) (k : Nat) (_ : k < C.length) (s : List UInt8) (u : Value) (sp : List Value), ((fl vcC C ++ sp).set (k * 2) (.string (bs s))).set (k * 2 + 1) u = fl vcC (C.set k ⟨s, u⟩) ++ sp
  | [], k, h, _, _, _ => by simp at h
  | x :: r, 0, h, s, u, sp => rfl
  | x :: r, k + 1, h, s, u, sp => by
    have ih := vc_set r k (by simpa using h) s u sp
    show ((vcC x ++ fl vcC r ++ sp).set _ _).set _ _ = vcC x ++ fl vcC (r.set k ⟨s, u⟩) ++ sp
    rw [List.append_assoc, List.append_assoc, ← ih]
    unfold vcC
    rw [show (k + 1) * 2 = k * 2 + 1 + 1 by omega]
    simp only [List.cons_append, List.nil_append, List.set_cons_succ]

theorem grown_set (w : World) (g i : Nat) (x : Value) : w.grownBy (w.setCell ⟨g, i, none⟩ x) (some g) :=
  ⟨rfl, rfl, rfl, by simp, fun k _ hk => Below.heap_setCell w ⟨g, i, none⟩ x k (fun e => hk (by rw [e]))⟩

theorem own_set {w : World} {base T m n g i : Nat} {v x : Value} {L : List Value} (h : w.ownsRow base T m v n L) (hne : v.ownBlock ≠ some g) : (w.setCell ⟨g, i, none⟩ x).ownsRow base T m v n L :=
  World.ownsRow.kept h (grown_set w g i x) (.inr hne)

/-- a row of another type lies elsewhere -/
theorem own_apart {w : World} {base T m n g T' : Nat} {v : Value} {L L' : List Value} (h : w.ownsRow base T m v n L) (hr : RowC w g T' L') (hT : T ≠ T') : v.ownBlock ≠ some g := by
  rcases own_row h with ⟨rfl, _, _⟩ | ⟨g', cap, sp, rfl, _, h2, _⟩
  · intro e; cases e
  · intro e
    cases e
    exact (RowC.apart h2 hr hT) rfl

structure SCI (st : Sta) (C : List VC) (W0 : World) (g : Nat) (sp : List Value) (k : Nat) (C' : List VC) (wr : World) : Prop where
  len : C'.length = st.v.length
  row : RowC wr g 62 (fl vcC C' ++ sp)
  nm : ∀ j (h : j < st.v.length), j < k → (C'[j]'(by omega)).nm = st.v[j].nm
  bl : ∀ j (h : j < st.v.length), j < k → OIds wr W0.heap.size (C'[j]'(by omega)).sl st.v[j].bl
  apart : ∀ j i (hj : j < st.v.length) (hi : i < st.v.length) b, j < k → i < k → j ≠ i → (C'[j]'(by omega)).sl.ownBlock = some b → (C'[i]'(by omega)).sl.ownBlock ≠ some b
  rest : ∀ j, j < st.v.length → k ≤ j → C'[j]? = C[j]?
  up : Up W0 wr

theorem idVol : (51 : Nat) ≠ 62 := by decide

theorem SCI.step {st : Sta} {C : List VC} {W0 : World} {g : Nat} {sp : List Value} {k : Nat} {C' : List VC} {wr W5 wF : World} {u : Value} (h : SCI st C W0 g sp k C' wr) (hk : k < st.v.length) (hg : W0.heap.size ≤ g)
    (h5 : Up wr W5) (hF : Up W5 wF) (hu : OIds wF W5.heap.size u st.v[k].bl) :
    SCI st C W0 g sp (k + 1) (C'.set k ⟨st.v[k].nm, u⟩) ((wF.setCell ⟨g, k * 2, none⟩ (.string (bs st.v[k].nm))).setCell ⟨g, k * 2 + 1, none⟩ u) := by
  have hwF : Up wr wF := h5.trans hF
  have hrF := h.row.up hwF
  have hlen := h.len
  have hb0 : W0.heap.size ≤ W5.heap.size := Nat.le_trans h.up.size h5.size
  have hset : ∀ {base n : Nat} {v : Value} {L : List Value}, wF.ownsRow base 51 3 v n L → ((wF.setCell ⟨g, k * 2, none⟩ (.string (bs st.v[k].nm))).setCell ⟨g, k * 2 + 1, none⟩ u).ownsRow base 51 3 v n L := by
    intro base n v L ho
    have hne := own_apart ho hrF idVol
    exact own_set (own_set ho hne) hne
  refine ⟨by rw [List.length_set]; exact hlen, ?_, ?_, ?_, ?_, ?_, ?_⟩
  · have := (hrF.set (k * 2) (.string (bs st.v[k].nm))).set (k * 2 + 1) u
    rw [vc_set C' k (by omega)] at this
    exact this
  · intro j hj hjk
    by_cases e : j = k
    · subst e; rw [List.getElem_set_self]
    · rw [List.getElem_set_ne (Ne.symm e)]; exact h.nm j hj (by omega)
  · intro j hj hjk
    by_cases e : j = k
    · subst e
      rw [List.getElem_set_self]
      exact hset (own_base hu hb0)
    · rw [List.getElem_set_ne (Ne.symm e)]
      exact hset (own_up (h.bl j hj (by omega)) hwF)
  · intro j i hj hi b hjk hik hne hb
    by_cases e : j = k
    · subst e
      rw [List.getElem_set_self] at hb
      rw [List.getElem_set_ne hne]
      intro hb2
      have h1 := (World.ownsRow.lt hu b hb).1
      have h2 := (World.ownsRow.lt (h.bl i hi (by omega)) b hb2).2
      have := h5.size
      omega
    · rw [List.getElem_set_ne (Ne.symm e)] at hb
      by_cases e2 : i = k
      · subst e2
        rw [List.getElem_set_self]
        intro hb2
        have h1 := (World.ownsRow.lt hu b hb2).1
        have h2 := (World.ownsRow.lt (h.bl j hj (by omega)) b hb).2
        have := h5.size
        omega
      · rw [List.getElem_set_ne (Ne.symm e2)]
        exact h.apart j i hj hi b (by omega) (by omega) hne hb
  · intro j hj hjk
    rw [List.getElem?_set_ne (by omega)]
    exact h.rest j hj (by omega)
  · exact (Below.setCell (show Below W0.heap.size W0 wF from h.up.trans hwF) (p := ⟨g, k * 2, none⟩) hg _).setCell (p := ⟨g, k * 2 + 1, none⟩) hg _

/-- the row of volumes, as it lies -/
def SCRow (v1 : Value) (n base g cap : Nat) (sp : List Value) : Prop := v1 = .slice (some ⟨g, 0, none⟩) n cap ∧ base ≤ g ∧ n ≤ cap ∧ cap ≤ maxLen ∧ n * 2 + sp.length = cap * 2

theorem SCI.done {st : Sta} {C : List VC} {W0 : World} {g cap : Nat} {sp : List Value} {C' : List VC} {wr : World} {v1 : Value} (h : SCI st C W0 g sp st.v.length C' wr) (hr : SCRow v1 st.v.length W0.heap.size g cap sp) : OVols wr W0.heap.size v1 st.v := by
  obtain ⟨rfl, h2, h3, h4, h5⟩ := hr
  refine ⟨C', ?_, ⟨h.len, fun k hk => h.nm k hk hk, fun k hk => h.bl k hk hk, fun j k hj hk b hne => h.apart j k hj hk b hj hk hne⟩⟩
  have := own_mk (m := 2) (n := st.v.length) h2 h.row (by rw [fl_length vcC_len, h.len]) h3 h4 h5
  unfold OVC
  rw [h.len]
  exact this

def SCRel (st : Sta) (C : List VC) (W0 : World) (v1 i : Value) (wr : World) : Prop :=
  ∃ k : Nat, k ≤ st.v.length ∧ i = .int .i64 (k : Int) ∧ Up W0 wr ∧ (k = st.v.length → OVols wr W0.heap.size v1 st.v) ∧ (k < st.v.length → ∃ C' g cap sp, SCRow v1 st.v.length W0.heap.size g cap sp ∧ SCI st C W0 g sp k C' wr)

theorem SCRel.start {st : Sta} {C : List VC} {W0 w1 : World} {v1 : Value} (hl : C.length = st.v.length) (ho : OVC w1 W0.heap.size v1 C) (hu : Up W0 w1) : SCRel st C W0 v1 (.int .i64 ((0 : Nat) : Int)) w1 := by
  refine ⟨0, Nat.zero_le _, rfl, hu, fun h0 => ?_, fun hlt => ?_⟩
  · refine ⟨C, ho, ⟨hl, fun k hk => absurd hk (by omega), fun k hk => absurd hk (by omega), fun j k hj => absurd hj (by omega)⟩⟩
  · rcases own_row ho with ⟨_, h1, _⟩ | ⟨g, cap, sp, h1, h2, h3, h4, h5, h6⟩
    · omega
    · rw [hl] at h1 h4 h6
      exact ⟨C, g, cap, sp, ⟨h1, h2, h4, h5, h6⟩, ⟨hl, h3, fun j _ hj => absurd hj (by omega), fun j _ hj => absurd hj (by omega), fun j _ _ _ _ hj => absurd hj (by omega), fun _ _ _ => rfl, hu⟩⟩

theorem SCRel.next {st : Sta} {C : List VC} {W0 W5 wF wr : World} {v1 u : Value} {g cap k : Nat} {sp : List Value} {C' : List VC} (h : SCI st C W0 g sp k C' wr) (hr : SCRow v1 st.v.length W0.heap.size g cap sp) (hk : k < st.v.length)
    (h5 : Up wr W5) (hF : Up W5 wF) (hu : OIds wF W5.heap.size u st.v[k].bl) : SCRel st C W0 v1 (.int .i64 (((k + 1 : Nat)) : Int)) ((wF.setCell ⟨g, k * 2, none⟩ (.string (bs st.v[k].nm))).setCell ⟨g, k * 2 + 1, none⟩ u) := by
  have hs := h.step hk hr.2.1 h5 hF hu
  refine ⟨k + 1, by omega, rfl, hs.up, fun e => ?_, fun _ => ⟨_, g, cap, sp, hr, hs⟩⟩
  rw [e] at hs
  exact hs.done hr

/-- a result of two cells, in its box -/
theorem box_new (w : World) (X : Obj) (a b : Value) (T : TypeId) : RowC ((w.alloc X).alloc (.cells #[a, b] T)) (w.heap.size + 1) T [a, b] := by
  have h : (w.alloc X).heap.size = w.heap.size + 1 := by simp
  rw [← h]
  exact heap_alloc_new _ _

theorem itState : (60 : Nat) ≠ 31 := by decide
theorem voState : (62 : Nat) ≠ 31 := by decide
theorem idState : (51 : Nat) ≠ 31 := by decide

theorem OItems.setR {w : World} {base R i : Nat} {v x : Value} {l : List Itm} {L : List Value} (h : OItems w base v l) (hr : RowC w R 31 L) : OItems (w.setCell ⟨R, i, none⟩ x) base v l := own_set h (own_apart h hr itState)

theorem OVols.setR {w : World} {base R i : Nat} {v x : Value} {l : List Vo} {L : List Value} (h : OVols w base v l) (hr : RowC w R 31 L) : OVols (w.setCell ⟨R, i, none⟩ x) base v l := by
  obtain ⟨C, h1, h2⟩ := h
  exact ⟨C, own_set h1 (own_apart h1 hr voState), ⟨h2.len, h2.nm, fun k hk => own_set (h2.bl k hk) (own_apart (h2.bl k hk) hr idState), h2.apart⟩⟩

set_option maxRecDepth 100000 in
set_option maxHeartbeats 4000000 in
theorem stclone_any (v : Value) (st : Sta) (w : World) (h : Stat w v st) (hg : WoolVol.Good FP st) : Calls Try.prog 33 #[v] w (StPost w st) := by
  obtain ⟨vb, vv, rfl, hb, C, hvc, hrd⟩ := h
  have hlC := hrd.len
  have HCB := Lib.hid (fun W (hW : Up w W) => clone_any vb st.b W (hb.up hW) hg.bag.len (fun x hx => (hg.bag.ok x hx).1))
  have HCV := Lib.hid (fun W (hW : Up w W) => cloneV_any vv C W (Sl.up hvc hW) hrd.one (by rw [hlC]; exact hg.len))
  obtain ⟨oB, cB, rfl, _⟩ := hb.slice
  obtain ⟨oV, cV, rfl, _, _⟩ := Sl.slice hvc
  have HRD := Lib.hid hrd
  have HG := Lib.hid hg
  have hlv := hg.len
  clear hb hvc hrd hg
  obtain ⟨N, hN⟩ : ∃ N, C.length = N := ⟨_, rfl⟩
  rw [hN] at HCV hlC ⊢
  have HN : Hid (st.v.length = N) := hlC.symm
  have HCN := Lib.hid hN
  rw [HN.out] at hlv
  clear hN hlC
  generalize st.b.length = M at *
  go_enter Try.func33, Try.ntmps33
  go_wp2_with fail
  have HC : Hid (((w.alloc (.cells #[.slice oB M cB, .slice oV N cV] 31)).alloc (.cells #[.slice none 0 0, .slice none 0 0] 31)).cell? ⟨w.heap.size, 0, none⟩ = some (.slice oB M cB)) := Lib.cell?_alloc_some _ (World.cell?_alloc_new w _ _ 0)
  have HR : Hid (RowC ((w.alloc (.cells #[.slice oB M cB, .slice oV N cV] 31)).alloc (.cells #[.slice none 0 0, .slice none 0 0] 31)) (w.heap.size + 1) 31 [.slice none 0 0, .slice none 0 0]) := box_new w _ _ _ _
  have HW0 : Hid (Up w ((w.alloc (.cells #[.slice oB M cB, .slice oV N cV] 31)).alloc (.cells #[.slice none 0 0, .slice none 0 0] 31))) := (Up.alloc _ _).trans (Up.alloc _ _)
  have HSZ : Hid (w.heap.size < ((w.alloc (.cells #[.slice oB M cB, .slice oV N cV] 31)).alloc (.cells #[.slice none 0 0, .slice none 0 0] 31)).heap.size) := by show _ < _; simp; omega
  generalize (w.alloc (.cells #[.slice oB M cB, .slice oV N cV] 31)).alloc (.cells #[.slice none 0 0, .slice none 0 0] 31) = W0 at HC HR HW0 HSZ ⊢
  refine (HCV.out _ HW0.out).mono ?_
  rintro e w1 ⟨v1, rfl, ho1, u1⟩
  have HST := Lib.hid (SCRel.start (st := st) (by rw [HCN.out, HN.out]) ho1 u1)
  obtain ⟨o1, c1, hv1, hc1, hc2⟩ := Sl.slice ho1.vcs
  subst hv1
  rw [HCN.out] at HST hc1 ⊢
  unfold maxLen at hc2
  clear ho1 u1
  go_wp2_with fail
  go_loopw [11] (fun i wr => SCRel st C W0 (.slice o1 N c1) i wr) (fun i _ => N - (intOf i).toNat)
  case atStart => exact HST.out
  case round =>
    obtain ⟨k, hk, rfl, hu, hdone, hgo⟩ := hrel
    rw [HN.out] at hk
    have HU := Lib.hid hu
    by_cases hlt : k < N
    · have hkl : k < st.v.length := by rw [HN.out]; exact hlt
      obtain ⟨C', g, cap, sp, hrw, hsci⟩ := hgo hkl
      obtain ⟨hve, hgb, hr3, hr4, hr5⟩ := hrw
      rw [HN.out] at hve
      cases hve
      have HRW : Hid (SCRow (.slice (some ⟨g, 0, none⟩) N c1) st.v.length W0.heap.size g c1 sp) := ⟨by rw [HN.out], hgb, hr3, hr4, hr5⟩
      have HSC := Lib.hid hsci
      have hlC' : C'.length = N := by rw [hsci.len]; exact HN.out
      have hkC : k < C.length := by rw [HCN.out]; exact hlt
      have hCk : C'[k]'(by omega) = C[k] := by
        have := hsci.rest k hkl (Nat.le_refl _)
        rw [List.getElem?_eq_getElem (by omega), List.getElem?_eq_getElem hkC] at this
        exact Option.some.inj this
      have hnm := HRD.out.nm k hkl
      have hids := HRD.out.bl k hkl
      obtain ⟨hnb, hbl, _⟩ := HG.out.vol _ (List.getElem_mem hkl)
      have hn12 : st.v[k].nm.length ≤ 12 := by unfold nameB at hnb; simp at hnb; omega
      have HUw : Hid (Up w wr) := HW0.out.trans hu
      have hrow := hsci.row
      have hf := fl_get vcC_len C' k (by omega) 
      have e1 : wr.cell? ⟨g, k * 2, none⟩ = some (.string (bs st.v[k].nm)) := by
        refine hrow.cell ?_
        rw [List.getElem?_append_left (by rw [fl_length vcC_len]; omega)]
        have := hf 0 (by omega)
        rw [hCk] at this
        rw [Nat.add_zero] at this
        rw [this, ← hnm]; rfl
      have e2 : wr.cell? ⟨g, k * 2 + 1, none⟩ = some C[k].sl := by
        refine hrow.cell ?_
        rw [List.getElem?_append_left (by rw [fl_length vcC_len]; omega)]
        have := hf 1 (by omega)
        rw [hCk] at this
        rw [this]; rfl
      have HCD := Lib.hid (fun W (hW : Up w W) => cloneD_any C[k].sl st.v[k].bl W (hids.up hW) hbl)
      have HSS := Lib.hid (fun W => clone_str (bs st.v[k].nm) W (by rw [bs_size]; omega))
      obtain ⟨o', c', hsl, _, _⟩ := hids.slice
      rw [hsl] at e2 HCD
      have HNEXT : Hid (∀ W5 wF u, Up wr W5 → Up W5 wF → OIds wF W5.heap.size u st.v[k].bl → SCRel st C W0 (.slice (some ⟨g, 0, none⟩) N c1) (.int .i64 ((k + 1 : Nat) : Int)) ((wF.setCell ⟨g, k * 2, none⟩ (.string (bs st.v[k].nm))).setCell ⟨g, k * 2 + 1, none⟩ u)) := fun W5 wF u h5 hF hu => SCRel.next HSC.out HRW.out hkl h5 hF hu
      obtain ⟨nm, hnme⟩ : ∃ nm, st.v[k].nm = nm := ⟨_, rfl⟩
      obtain ⟨bl, hble⟩ : ∃ bl, st.v[k].bl = bl := ⟨_, rfl⟩
      rw [hnme] at e1 HSS HNEXT
      rw [hble] at e2 HCD HNEXT
      obtain ⟨L, hL⟩ : ∃ L, bl.length = L := ⟨_, rfl⟩
      rw [hL] at e2 HCD
      have hgl : g < wr.heap.size := hrow.lt
      have HROW := Lib.hid hrow
      have d1 : decide (k < N) = true := decide_eq_true hlt
      clear hgo hdone hsci hr3 hr4 hr5 hCk hnm hids hnb hbl hn12 hrow hf hsl hnme hble hu hgb
      go_wp2_with fail
      have q0 : (wr.alloc (.cells #[.string (bs nm), .slice o' L c'] 62)).cell? ⟨wr.heap.size, 0, none⟩ = some (.string (bs nm)) := World.cell?_alloc_new wr _ _ 0
      have q1 : (wr.alloc (.cells #[.string (bs nm), .slice o' L c'] 62)).cell? ⟨wr.heap.size, 1, none⟩ = some (.slice o' L c') := World.cell?_alloc_new wr _ _ 1
      have q4 : wr.heap.size < (wr.alloc (.cells #[.string (bs nm), .slice o' L c'] 62)).heap.size := by simp
      have HU5 : Hid (Up wr (wr.alloc (.cells #[.string (bs nm), .slice o' L c'] 62))) := Up.alloc _ _
      have hr5 := HROW.out.up HU5.out
      have r0 := hr5.frozen (k * 2)
      have r1 := hr5.frozen (k * 2 + 1)
      have r2 := Lib.cell?_alloc_some (.cells #[.string (bs nm), .slice o' L c'] 62) e1
      have r3 := Lib.cell?_alloc_some (.cells #[.string (bs nm), .slice o' L c'] 62) e2
      have hgl5 : g < (wr.alloc (.cells #[.string (bs nm), .slice o' L c'] 62)).heap.size := Nat.lt_of_lt_of_le hgl HU5.out.size
      have hne : g ≠ wr.heap.size := by omega
      clear hr5 e1 e2
      generalize (wr.alloc (.cells #[.string (bs nm), .slice o' L c'] 62)) = W5 at q0 q1 q4 HU5 r0 r1 r2 r3 hgl5 ⊢
      have HUw5 : Hid (Up w W5) := HUw.out.trans HU5.out
      go_region_held3 (fun U => U.cell? ⟨wr.heap.size, 0, none⟩ = some (.string (bs nm)) ∧ U.cell? ⟨wr.heap.size, 1, none⟩ = some (.slice o' L c')) (first | go_keep | (exact ⟨(World.cell?_setCell_far _ _ _ _ hne).trans ((World.cell?_setCell_far _ _ _ _ hne).trans y0), (World.cell?_setCell_far _ _ _ _ hne).trans ((World.cell?_setCell_far _ _ _ _ hne).trans y1)⟩))
        (first
          | (go_at_call 59; ((with_reducible refine (HSS.out _).mono ?_); rintro e wA ⟨rfl, uA⟩; have hA : Up W5 wA := (by first | exact (Up.drew _).trans uA | exact hB.trans uA); have y0 := (Below.cell hA (p := ⟨wr.heap.size, 0, none⟩) q4).trans q0; have y1 := (Below.cell hA (p := ⟨wr.heap.size, 1, none⟩) q4).trans q1; have z0 := (Below.frozen hA (p := ⟨g, k * 2, none⟩) hgl5).trans r0; have z1 := (Below.frozen hA (p := ⟨g, k * 2 + 1, none⟩) hgl5).trans r1; have z2 := (Below.cell hA (p := ⟨g, k * 2, none⟩) hgl5).trans r2; have z3 := (Below.cell hA (p := ⟨g, k * 2 + 1, none⟩) hgl5).trans r3))
          | (go_at_call 26; ((with_reducible refine (HCD.out _ (by first | exact HUw5.out.trans (Up.drew _) | exact HUw5.out.trans hA)).mono ?_); rintro e wB ⟨vB, rfl, hoB, uB⟩; have hB : Up W5 wB := (by first | exact (Up.drew _).trans uB | exact hA.trans uB); obtain ⟨oX, cX, hvX, _, _⟩ := hoB.ids.slice; rw [hL] at hvX; subst hvX; have y0 := (Below.cell hB (p := ⟨wr.heap.size, 0, none⟩) q4).trans q0; have y1 := (Below.cell hB (p := ⟨wr.heap.size, 1, none⟩) q4).trans q1; have z0 := (Below.frozen hB (p := ⟨g, k * 2, none⟩) hgl5).trans r0; have z1 := (Below.frozen hB (p := ⟨g, k * 2 + 1, none⟩) hgl5).trans r1; have z2 := (Below.cell hB (p := ⟨g, k * 2, none⟩) hgl5).trans r2; have z3 := (Below.cell hB (p := ⟨g, k * 2 + 1, none⟩) hgl5).trans r3)))
      all_goals
        first
        | (have hnx := HNEXT.out W5 wB (.slice oX L cX) HU5.out hB (own_base hoB (by first | exact Nat.le_refl _ | exact hA.size))
           generalize (wB.setCell ⟨g, k * 2, none⟩ (.string (bs nm))).setCell ⟨g, k * 2 + 1, none⟩ (.slice oX L cX) = W8 at hnx ⊢)
        | (have hnx := HNEXT.out W5 wA (.slice oX L cX) HU5.out hA (own_up (own_base hoB (Nat.le_refl _)) uA)
           generalize (wA.setCell ⟨g, k * 2, none⟩ (.string (bs nm))).setCell ⟨g, k * 2 + 1, none⟩ (.slice oX L cX) = W8 at hnx ⊢)
        have HNX := Lib.hid hnx
        clear hnx y0 y1 z0 z1 z2 z3 q0 q1 q4 r0 r1 r2 r3
        go_wp2_with fail
        go_roundw
        case rel => exact HNX.out
        case measure => simp only [intOf]; omega
    · have d1 : decide (k < N) = false := decide_eq_false hlt
      have hke : k = st.v.length := by rw [HN.out]; omega
      have HOV := Lib.hid (hdone hke)
      have c0 := (hu.cell (p := ⟨w.heap.size, 0, none⟩) HSZ.out).trans HC.out
      have HRr := Lib.hid (HR.out.up hu)
      clear hdone hgo hke hu
      go_wp2_with fail
      refine (HCB.out _ (HW0.out.trans HU.out)).mono ?_
      rintro e w7 ⟨v7, rfl, ho7, u7⟩
      obtain ⟨o7, c7, hv7, _⟩ := ho7.items.slice
      subst hv7
      have hr7 := HRr.out.up u7
      have r0 := hr7.frozen 0
      have r1 := hr7.frozen 1
      have r2 := hr7.cell (j := 0) rfl
      have r3 := hr7.cell (j := 1) rfl
      have HO7 := Lib.hid ho7
      have HU7 := Lib.hid u7
      have HR7 := Lib.hid hr7
      clear ho7 u7 hr7
      go_wp2_with fail
      have hz := (HR7.out.set 0 (.slice o7 st.b.length c7)).set 1 (.slice o1 N c1)
      have z0 := hz.cell (j := 0) rfl
      have z1 := hz.cell (j := 1) rfl
      have HOI : Hid (OItems ((w7.setCell ⟨w.heap.size + 1, 0, none⟩ (.slice o7 st.b.length c7)).setCell ⟨w.heap.size + 1, 1, none⟩ (.slice o1 N c1)) w.heap.size (.slice o7 st.b.length c7) st.b) := OItems.base (OItems.setR (OItems.setR HO7.out HR7.out) (HR7.out.set 0 _)) (HW0.out.trans HU.out).size
      have HOVs : Hid (OVols ((w7.setCell ⟨w.heap.size + 1, 0, none⟩ (.slice o7 st.b.length c7)).setCell ⟨w.heap.size + 1, 1, none⟩ (.slice o1 N c1)) w.heap.size (.slice o1 N c1) st.v) := OVols.base (OVols.setR (OVols.setR (HOV.out.up HU7.out) HR7.out) (HR7.out.set 0 _)) HW0.out.size
      have HUZ : Hid (Up w ((w7.setCell ⟨w.heap.size + 1, 0, none⟩ (.slice o7 st.b.length c7)).setCell ⟨w.heap.size + 1, 1, none⟩ (.slice o1 N c1))) := (Below.setCell (show Below w.heap.size w w7 from (HW0.out.trans HU.out).trans HU7.out) (p := ⟨w.heap.size + 1, 0, none⟩) (Nat.le_succ _) _).setCell (p := ⟨w.heap.size + 1, 1, none⟩) (Nat.le_succ _) _
      generalize (w7.setCell ⟨w.heap.size + 1, 0, none⟩ (.slice o7 st.b.length c7)).setCell ⟨w.heap.size + 1, 1, none⟩ (.slice o1 N c1) = WZ at z0 z1 HOI HOVs HUZ ⊢
      exact bodyPost_ret (v := .agg #[.slice o7 st.b.length c7, .slice o1 N c1]) (by simp [results, Try.results33, go_sem, z0, z1]) rfl ⟨_, rfl, ⟨_, _, rfl, HOI.out, HOVs.out⟩, HUZ.out⟩

end Go.Proofs.Ytnmdfdkagkpcaaa
