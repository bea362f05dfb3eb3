/-
  The reference's Compare. Conditions: as each says.
-/
import Derived.Test.YtacbhjjmbepngaaRefTree1
import Derived.Test.YtacbhjjmbepngaaLawTree4
namespace Go.Proofs.Ytacbhjjmbepngaa
open Go.RowKit
open Go.Proofs
open WoolTree

/-- a number of a row of the call's own, set -/
theorem Ints.store {w : World} {base n c : Nat} {o : Option Addr} {l : List Nat} (h : Ints w base (.slice o n c) l) (i x : Nat) (hi : i < l.length) :
    ∃ g, o = some ⟨g, 0, none⟩ ∧ base ≤ g ∧ n ≤ c ∧ c ≤ maxLen ∧ w.cell? ⟨g, i, none⟩ = some (.int .i64 ((l[i] : Nat) : Int)) ∧ w.frozen? ⟨g, i, none⟩ = false ∧ Ints (w.setCell ⟨g, i, none⟩ (.int .i64 (x : Int))) base (.slice o n c) (l.set i x) := by
  rcases own_row h with ⟨_, h0, _⟩ | ⟨g, cap, sp, e, hb, hr, h3, h4, h5⟩
  · omega
  · simp only [Value.slice.injEq] at e
    obtain ⟨rfl, rfl, rfl⟩ := e
    have hset : (intL l ++ sp).set i (.int .i64 (x : Int)) = intL (l.set i x) ++ sp := by
      rw [List.set_append_left _ _ (by rw [intL_length]; omega)]
      congr 1
      unfold intL
      rw [List.map_set]
    refine ⟨g, rfl, hb, h3, h4, hr.cell (by rw [List.getElem?_append_left (by rw [intL_length]; omega)]; exact intL_get l i hi), hr.frozen i, ?_⟩
    have hr2 := hr.set i (.int .i64 (x : Int))
    rw [hset] at hr2
    unfold Ints
    rw [List.length_set]
    exact own_mk hb hr2 (by rw [intL_length, List.length_set, Nat.mul_one]) h3 h4 h5

/-- the first j numbers moved -/
def mv (l : List Nat) (k j : Nat) : List Nat := l.mapIdx fun i x => if i < j then x + k else x
theorem mv_length (l : List Nat) (k j : Nat) : (mv l k j).length = l.length := List.length_mapIdx
theorem mv_at (l : List Nat) (k j i : Nat) (h : i < l.length) : (mv l k j)[i]'(by rw [mv_length]; exact h) = if i < j then l[i] + k else l[i] := List.getElem_mapIdx ..
theorem mv_zero (l : List Nat) (k : Nat) : mv l k 0 = l := by
  apply List.ext_getElem (mv_length l k 0)
  intro i h1 h2
  rw [mv_at l k 0 i h2, if_neg (by omega)]
theorem mv_all (l : List Nat) (k j : Nat) (h : l.length ≤ j) : mv l k j = l.map (· + k) := by
  apply List.ext_getElem (by rw [mv_length, List.length_map])
  intro i h1 h2
  rw [List.length_map] at h2
  rw [mv_at l k j i h2, if_pos (by omega), List.getElem_map]
theorem mv_get (l : List Nat) (k j : Nat) (h : j < l.length) : (mv l k j)[j]'(by rw [mv_length]; exact h) = l[j] := by
  rw [mv_at l k j j h, if_neg (by omega)]
theorem mv_next (l : List Nat) (k j : Nat) (h : j < l.length) : (mv l k j).set j (l[j] + k) = mv l k (j + 1) := by
  apply List.ext_getElem (by rw [List.length_set, mv_length, mv_length])
  intro i h1 h2
  rw [mv_length] at h2
  rw [List.getElem_set, mv_at l k (j + 1) i h2]
  by_cases e : j = i
  · subst e
    rw [if_pos rfl, if_pos (by omega)]
  · rw [if_neg e, mv_at l k j i h2]
    by_cases h3 : i < j
    · rw [if_pos h3, if_pos (by omega)]
    · rw [if_neg h3, if_neg (by omega)]

def RcPost (r : List Nat × Nat) (w : World) (e : Ending) (w' : World) : Prop := ∃ v, e = .returned (.tuple #[v, .int .i64 (r.2 : Int)]) ∧ Ints w' w.heap.size v r.1 ∧ Up w w'

def RaRel (l : List Nat) (k B : Nat) (v : Value) (w : World) (i : Value) (wr : World) : Prop := ∃ j : Nat, j ≤ l.length ∧ i = .int .i64 (j : Int) ∧ Ints wr B v (mv l k j) ∧ Up w wr

set_option maxRecDepth 100000 in
set_option maxHeartbeats 4000000 in
theorem refCompare_any : ∀ (n : Nat) (a b : List (List UInt8)) (v1 v2 : Value) (w : World), Txs w v1 a → Txs w v2 b → chkT a = 0 → chkT b = 0 → a.length = b.length → a.length ≤ n →
    Calls Try.prog 27 #[v1, v2] w (RcPost (cm TH n a b 0) w)
  | 0, a, b, v1, v2, w, h1, h2, ca, cb, hl, hn => by
    have := (chkT_ok ca).1
    omega
  | n + 1, a, b, v1, v2, w, h1, h2, ca, cb, hl, hn => by
    obtain ⟨a0, a32, _⟩ := chkT_ok ca
    have HR1 := Lib.hid (fun W (hW : Up w W) => refRoot_any a.length a v1 W (h1.up hW) ca (Nat.le_refl _))
    have HR2 := Lib.hid (fun W (hW : Up w W) => refRoot_any b.length b v2 W (h2.up hW) cb (Nat.le_refl _))
    obtain ⟨o1, c1, rfl, _, _⟩ := h1.slice
    obtain ⟨o2, c2, rfl, _, _⟩ := h2.slice
    rw [← hl] at HR2 h2 ⊢
    by_cases hr : rtx TH a = rtx TH b
    · rw [cm_same TH n a b 0 hr]
      rw [← hr] at HR2
      generalize rtx TH a = R at *
      have drr : ((R : Int) == (R : Int)) = true := by simp
      generalize a.length = m at *
      clear h1 h2 ca cb hl hn hr
      go_enter Try.func27, Try.ntmps27
      go_wp2_with fail
      refine (HR1.out _ (Up.refl _)).mono ?_
      rintro e w1 ⟨rfl, u1⟩
      have HU1 := Lib.hid u1
      clear u1
      go_wp2_with fail
      refine (HR2.out _ HU1.out).mono ?_
      rintro e w2 ⟨rfl, u2⟩
      go_wp2_with fail
      go_ret2
      exact ⟨_, rfl, Ints.nil _ _, HU1.out.trans u2⟩
    · have drr : ((rtx TH a : Int) == (rtx TH b : Int)) = false := by rw [beq_eq_false_iff_ne]; omega
      by_cases h1l : a.length ≤ 1
      · rw [cm_leaf TH n a b 0 hr h1l]
        have hm : a.length = 1 := by omega
        rw [hm] at HR1 HR2 ⊢
        generalize rtx TH a = RA at *
        generalize rtx TH b = RB at *
        clear h1 h2 ca cb hl hn hr a32 a0 h1l hm
        go_enter Try.func27, Try.ntmps27
        go_wp2_with fail
        refine (HR1.out _ (Up.refl _)).mono ?_
        rintro e w1 ⟨rfl, u1⟩
        have HU1 := Lib.hid u1
        clear u1
        go_wp2_with fail
        refine (HR2.out _ HU1.out).mono ?_
        rintro e w2 ⟨rfl, u2⟩
        have HU2 := Lib.hid (HU1.out.trans u2)
        clear u2
        go_wp2_with fail
        go_ret2
        refine ⟨_, rfl, ?_, HU2.out.trans (Up.alloc _ _)⟩
        exact World.ownsRow_lit w2 _ 1 HU2.out.size (by unfold maxLen; omega) rfl
      · have h2l : 2 ≤ a.length := by omega
        rw [cm_pair TH n a b 0 hr h2l, cm_shift TH n (a.drop (spn a.length)) (b.drop (spn a.length)) (spn a.length) 0]
        have s1 := spn_lt a.length h2l
        have s0 := spn_pos a.length
        have HLH := Lib.hid (fun W => refSpan_any a.length W h2l a32)
        obtain ⟨oA1, runA1, rdA1⟩ := h1.upto (spn a.length) (by omega)
        obtain ⟨oA2, runA2, rdA2⟩ := h2.upto (spn a.length) (by omega)
        obtain ⟨oB1, runB1, rdB1⟩ := h1.from (spn a.length) (by omega)
        obtain ⟨oB2, runB2, rdB2⟩ := h2.from (spn a.length) (by omega)
        rw [← hl] at runB2 rdB2
        have t1 : (a.take (spn a.length)).length = spn a.length := by rw [List.length_take]; omega
        have t2 : (b.take (spn a.length)).length = spn a.length := by rw [List.length_take]; omega
        have t3 : (a.drop (spn a.length)).length = a.length - spn a.length := List.length_drop
        have t4 : (b.drop (spn a.length)).length = a.length - spn a.length := by rw [List.length_drop, hl]
        have HA := Lib.hid (fun W (hW : Up w W) => refCompare_any n (a.take (spn a.length)) (b.take (spn a.length)) _ _ W (rdA1.up hW) (rdA2.up hW) (chkT_take ca _ s0 (by omega)) (chkT_take cb _ s0 (by omega)) (by omega) (by omega))
        have HB := Lib.hid (fun W (hW : Up w W) => refCompare_any n (a.drop (spn a.length)) (b.drop (spn a.length)) _ _ W (rdB1.up hW) (rdB2.up hW) (chkT_drop ca _ (by omega)) (chkT_drop cb _ (by omega)) (by omega) (by omega))
        have k1 := cm_short n (a.take (spn a.length)) (b.take (spn a.length)) 0 (by omega) (by omega)
        have k2 := cm_short n (a.drop (spn a.length)) (b.drop (spn a.length)) 0 (by omega) (by omega)
        have hrs := (cm_rise TH n (a.drop (spn a.length)) (b.drop (spn a.length)) 0 (by omega)).2
        rw [t1] at k1
        rw [t3] at k2 hrs
        generalize cm TH n (a.take (spn a.length)) (b.take (spn a.length)) 0 = r1 at *
        generalize cm TH n (a.drop (spn a.length)) (b.drop (spn a.length)) 0 = r2 at *
        obtain ⟨r1a, r1b⟩ := r1
        obtain ⟨r2a, r2b⟩ := r2
        simp only at k1 k2 hrs ⊢
        have HRS : Hid (∀ i ∈ r2a, i ≤ 64) := fun i hi => by have := hrs i hi; omega
        unfold RcPost at HA HB
        have dm : ((a.length : Int) == 1) = false := by rw [beq_eq_false_iff_ne]; omega
        generalize rtx TH a = RA at *
        generalize rtx TH b = RB at *
        generalize spn a.length = K at *
        generalize a.length = m at *
        obtain ⟨n2, hn2⟩ : ∃ n2, r2a.length = n2 := ⟨_, rfl⟩
        have HN2 := Lib.hid hn2
        rw [hn2] at k2
        clear h1 h2 ca cb hl hn hr h1l t1 t2 t3 t4 rdA1 rdA2 rdB1 rdB2 hrs
        go_enter Try.func27, Try.ntmps27
        go_wp2_with fail
        refine (HR1.out _ (Up.refl _)).mono ?_
        rintro e w1 ⟨rfl, u1⟩
        have HU1 := Lib.hid u1
        clear u1
        go_wp2_with fail
        refine (HR2.out _ HU1.out).mono ?_
        rintro e w2 ⟨rfl, u2⟩
        have HU2 := Lib.hid (HU1.out.trans u2)
        clear u2
        go_wp2_with fail
        refine (HLH.out _).mono ?_
        rintro e w3 ⟨rfl, rfl⟩
        go_wp2_with fail
        go_region_held3 (fun _ => True) (trivial) ((go_at_call 27; ((with_reducible refine (HA.out _ (HU2.out.trans (Up.drew _))).mono ?_); rintro e w4 ⟨v4, rfl, hi4, u4⟩; obtain ⟨o4, c4, hv4⟩ := hi4.shape; subst hv4; have HI4 := Lib.hid (show Ints w4 w.heap.size _ r1a from own_baseT hi4 (HU2.out.trans (Up.drew _)).size); have HU4 := Lib.hid (HU2.out.trans ((Up.drew _).trans u4)); clear hi4 u4)))
        all_goals
          go_wp2_with fail
          go_region_held3 (fun _ => True) (trivial) ((go_at_call 27; ((with_reducible refine (HB.out _ (HU4.out.trans (Up.drew _))).mono ?_); rintro e w5 ⟨v5, rfl, hi5, u5⟩; obtain ⟨o5, c5, hv5⟩ := hi5.shape; subst hv5; have HI5 := Lib.hid (show Ints w5 w4.heap.size _ r2a from own_baseT hi5 (Up.drew w4).size); have HU45 := Lib.hid ((Up.drew _).trans u5); clear hi5 u5)))
          all_goals
            rw [hn2] at HI5
            clear hn2
            have HI50 : Hid (Ints w5 w4.heap.size (.slice o5 n2 c5) (mv r2a K 0)) := by
              show Ints _ _ _ _
              rw [mv_zero]
              exact HI5.out
            go_wp2_with fail
            go_loopw [11, 46] (fun _ i wr => RaRel r2a K w4.heap.size (.slice o5 n2 c5) w4 i wr) (fun _ i _ => n2 - (intOf i).toNat)
            case atStart => exact ⟨0, Nat.zero_le _, rfl, HI50.out, HU45.out⟩
            case round =>
              obtain ⟨j, hj, rfl, hint, hu⟩ := hrel
              have HU := Lib.hid hu
              rw [HN2.out] at hj
              by_cases hlt : j < n2
              · have dj : decide (j < n2) = true := decide_eq_true hlt
                have hjl : j < r2a.length := by rw [HN2.out]; exact hlt
                have hg := mv_get r2a K j hjl
                have hnx := mv_next r2a K j hjl
                have hbd := HRS.out _ (List.getElem_mem hjl)
                obtain ⟨g, rfl, hgb, hc1, hc2, q1, q2, hst⟩ := hint.store j (r2a[j] + K) (by rw [mv_length]; exact hjl)
                rw [hg] at q1
                rw [hnx] at hst
                generalize r2a[j] = x at *
                have hxk : (x : Int) + (K : Int) = ((x + K : Nat) : Int) := by omega
                obtain ⟨xk, hxe⟩ : ∃ xk, x + K = xk := ⟨_, rfl⟩
                rw [hxe] at hst hxk
                have hxk64 : xk ≤ 128 := by omega
                have HST := Lib.hid hst
                clear hint hu hg hnx hst hxe
                go_wp2_with fail
                have HU5 : Hid (Up w4 (wr.setCell ⟨g, j, none⟩ (.int .i64 (xk : Int)))) := Below.setCell HU.out (p := ⟨g, j, none⟩) hgb _
                generalize wr.setCell ⟨g, j, none⟩ (.int .i64 (xk : Int)) = wc at HST HU5 ⊢
                go_roundw
                case rel => exact ⟨j + 1, hjl, by go_num, HST.out, HU5.out⟩
                case measure => simp only [intOf]; omega
              · have dj : decide (j < n2) = false := decide_eq_false hlt
                rw [mv_all r2a K j (by rw [HN2.out]; omega)] at hint
                have hsz := HU4.out.trans hu
                have hcat := run_ints_cat 45 (HI4.out.up hu) hint (by rw [List.length_map, HN2.out]; omega) hsz.size
                obtain ⟨v6, w6, hrun, hi6, hg6⟩ := hcat
                have HI6 := Lib.hid hi6
                have HU6 := Lib.hid (grown_upT hsz (HI4.out.up hu) hg6)
                clear hint hu hi6 hg6 hsz
                go_wp2_with (at_builtin; refine wpList_append_runT _ rfl _ _ #[45, 45] rfl _ _ _ _ rfl rfl hrun ?_)
                go_wp2_with fail
                go_ret2
                refine ⟨v6, ?_, HI6.out, HU6.out⟩
                have e1 : ((1 + r1b + r2b : Nat) : Int) = (r1b : Int) + (r2b : Int) + 1 := by omega
                simp only [e1]
                rfl

end Go.Proofs.Ytacbhjjmbepngaa
