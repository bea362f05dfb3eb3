/-
  The texts RefVol3, BagL, one behind the other; each says below what it holds and on what conditions.
-/
import Derived.Test.YtcbppfndlagodaaGreatDoorJDiffSays37
import Derived.Deep.OwnRows
import Derived.Laws.OwnMore
import Derived.StringKeys
import Derived.Test.YtcbppfndlagodaaGreatDoorJDiffSays27
import Derived.Test.YtcbppfndlagodaaGreatDoorJDiffSays03

/-
  slices.Equal of two rows of identifiers that read alike; what the reference's Vol and Texts return. Conditions: as each says.
-/
namespace Go.Proofs.YtcbppfndlagodaaGreatDoor
open Go.RowKit
open Go.Proofs
open WoolBag
open WoolVol

def EqDRel (N : Nat) (w : World) (i : Value) (wr : World) : Prop := ∃ k : Nat, k ≤ N ∧ i = .int .i64 k ∧ Up w wr

set_option maxRecDepth 100000 in
set_option maxHeartbeats 400000 in
theorem equalD_yes (v1 v2 : Value) (l : List Idn) (w : World) (h1 : Ids w v1 l) (h2 : Ids w v2 l) :
    Calls Tryz.prog 47 #[v1, v2] w fun e w' => e = .returned (.bool true) ∧ Up w w' := by
  obtain ⟨o1, c1, rfl, p1, p2⟩ := h1.slice
  obtain ⟨o2, c2, rfl, q1, q2⟩ := h2.slice
  have HP := Lib.hid h1
  have HQ := Lib.hid h2
  unfold maxLen at p2 q2
  clear h1 h2
  go_enter Tryz.func47, Tryz.ntmps47
  go_wp2_with fail
  go_loopw [13] (fun i wr => EqDRel l.length w i wr) (fun i _ => l.length - (intOf i).toNat)
  case atStart => exact ⟨0, Nat.zero_le _, rfl, Up.refl w⟩
  case round =>
    obtain ⟨k, hk, rfl, hu⟩ := hrel
    by_cases hlt : k < l.length
    · have hne : l ≠ [] := by intro e; rw [e] at hlt; simp at hlt
      obtain ⟨b, off, rfl, h5⟩ := HP.out.at hne
      obtain ⟨b', off', rfl, h6⟩ := HQ.out.at hne
      obtain ⟨e1, e2, e3⟩ := h5 k hlt
      rw [← hu.cell (World.block_lt_of_cell? w _ e1)] at e1
      rw [← hu.cell (World.block_lt_of_cell? w _ e2)] at e2
      rw [← hu.cell (World.block_lt_of_cell? w _ e3)] at e3
      obtain ⟨f1, f2, f3⟩ := h6 k hlt
      rw [← hu.cell (World.block_lt_of_cell? w _ f1)] at f1
      rw [← hu.cell (World.block_lt_of_cell? w _ f2)] at f2
      rw [← hu.cell (World.block_lt_of_cell? w _ f3)] at f3
      generalize l[k].1 = xs at e1 f1
      generalize l[k].2.1 = xn at e2 f2
      generalize l[k].2.2 = xr at e3 f3
      have HU := Lib.hid hu
      have d1 : decide (k < l.length) = true := decide_eq_true hlt
      clear h5 h6 hu hne
      go_wp2_with fail
      go_quiet (fail)
      go_wp2_with fail
      go_roundw
      case rel => exact ⟨k + 1, by omega, by go_num, HU.out.trans (Up.drewN _ _)⟩
      case measure => simp only [intOf]; omega
    · have d1 : decide (k < l.length) = false := decide_eq_false hlt
      go_wp2_with fail
      go_ret
      exact ⟨rfl, hu⟩

def RVRel (p : List UInt8 → Bool) (l : List Vo) (w : World) (i : Value) (wr : World) : Prop :=
  ∃ k : Nat, k ≤ l.length ∧ i = .int .i64 k ∧ Up w wr ∧ ∀ j (h : j < l.length), j < k → p l[j].nm = false

set_option maxRecDepth 100000 in
set_option maxHeartbeats 400000 in
theorem refVol_any (v : Value) (st : Sta) (s : List UInt8) (w : World) (h : Stat w v st) :
    Calls Tryz.prog 16 #[v, .string (bs s)] w fun e w' => e = .returned (.int .i64 (ixV (fun t => t == s) st.v)) ∧ Up w w' := by
  obtain ⟨vb, vv, rfl, hb, hv⟩ := h
  obtain ⟨oB, cB, rfl, _⟩ := hb.slice
  obtain ⟨oV, cV, rfl, h2, h3⟩ := hv.slice
  unfold maxLen at h3
  have H4 := Lib.hid hv
  clear hb hv
  generalize st.b.length = M at *
  obtain ⟨l, hl⟩ : ∃ l, st.v = l := ⟨_, rfl⟩
  rw [hl] at h2 H4 ⊢
  clear hl
  obtain ⟨R, hR⟩ : ∃ R, ixV (fun t => t == s) l = R := ⟨_, rfl⟩
  rw [hR]
  have HR := Lib.hid hR
  clear hR
  go_enter Tryz.func16, Tryz.ntmps16
  go_wp2_with fail
  go_loopw [5, 10] (fun _ i wr => RVRel (fun t => t == s) l w i wr) (fun _ i _ => l.length - (intOf i).toNat)
  case atStart => exact ⟨0, Nat.zero_le _, rfl, Up.alloc _ _, fun j _ hj => by omega⟩
  case round =>
    obtain ⟨k, hk, rfl, hu, hno⟩ := hrel
    by_cases hlt : k < l.length
    · obtain ⟨b, off, rfl, h5⟩ := H4.out.at (by intro e; rw [e] at hlt; simp at hlt)
      obtain ⟨a1, u, a2, hids⟩ := h5 k hlt
      rw [← hu.cell (World.block_lt_of_cell? w _ a1)] at a1
      rw [← hu.cell (World.block_lt_of_cell? w _ a2)] at a2
      obtain ⟨o', c', rfl, _, _⟩ := hids.slice
      have HU := Lib.hid hu
      have HN := Lib.hid hno
      have d1 : decide (k < l.length) = true := decide_eq_true hlt
      have hq := txt_eq l[k].nm s
      obtain ⟨P, hP⟩ : ∃ P, (l[k].nm == s) = P := ⟨_, rfl⟩
      have HPP := Lib.hid hP
      rw [hP] at hq
      generalize l[k].nm = xs at a1 hq
      generalize l[k].bl.length = xn at a2
      clear h5 hu hno hids hP
      cases P with
      | true =>
        go_wp2_with fail
        all_goals
          first
          | (exfalso; simp_all; done)
          | (go_ret
             refine ⟨?_, HU.out.trans (Up.alloc _ _)⟩
             rw [← HR.out]
             unfold ixV
             rw [vix_of hlt HPP.out (fun j hj => HN.out j (by omega) hj)]
             rfl)
      | false =>
        go_wp2_with fail
        go_roundw
        case rel =>
          refine ⟨k + 1, by omega, by go_num, HU.out.trans (Up.alloc _ _), fun j hj hjk => ?_⟩
          by_cases e : j = k
          · subst e; exact HPP.out
          · exact HN.out j hj (by omega)
        case measure => simp only [intOf]; omega
    · have d1 : decide (k < l.length) = false := decide_eq_false hlt
      have HN := Lib.hid hno
      clear hno
      go_wp2_with fail
      go_ret
      refine ⟨?_, hu⟩
      rw [← HR.out]
      unfold ixV
      rw [vix_none.2 (fun x hx => by obtain ⟨i, hi, rfl⟩ := List.getElem_of_mem hx; exact HN.out i hi (by omega))]
      rfl

/-- what stands at a place -/
def txt (l : List Itm) (i : Idn) : List UInt8 := if i.1 then 43 :: (l[(idx (idB i) l).getD 0]!).t else [45]

def txR (t : List UInt8) : List Value := [.string (bs t)]
theorem txR_len (t : List UInt8) : (txR t).length = 1 := rfl

/-- a slice that reads as texts, whole -/
def TxsR (w : World) (v : Value) (L : List (List UInt8)) : Prop := ∃ g, v = .slice (some ⟨g, 0, none⟩) L.length L.length ∧ RowC w g 9 (fl txR L)

theorem TxsR.up {w w' : World} {v : Value} {L : List (List UInt8)} (h : TxsR w v L) (hu : Up w w') : TxsR w' v L := by
  obtain ⟨g, h1, h2⟩ := h
  exact ⟨g, h1, h2.up hu⟩

/-- the elements of the map of texts, as they are -/
def Rh (v : Value) : Option (DataW Value × List MemPlace) := some (.held v, [])

/-- the map of the first k volumes' texts -/
def TMap (w : World) (B k : Nat) (st : Sta) : Prop := ∃ D : DataW Value, w.ownsMap Tryz.prog 9 Rh B k D ∧ ∀ j (hj : j < st.v.length), j < k → ∃ v, D.atKey (.string st.v[j].nm) (.held (.slice none 0 0)) = .held v ∧ TxsR w v (st.v[j].bl.map (txt st.b))

theorem strLaw : Go.Maps.Keyed Tryz.prog 9 := Go.Maps.string_keyed Tryz.underlying9
theorem strsZero (w : World) : (zeroValue 51).run Tryz.prog w = .ok (.slice none 0 0) w := by kernel_rfl

theorem key_nm {s : List UInt8} (h : s.length ≤ 12) : keyOf Tryz.prog 9 (.string (bs s)) = some (.string s) := by
  have := Go.WideMaps.keyOf_string_mk Tryz.underlying9 (s := bs s) (by rw [bs_size]; unfold maxLen; omega)
  rwa [bs_list] at this

theorem TMap.look {w : World} {B k : Nat} {st : Sta} (h : TMap w B k st) (j : Nat) (hj : j < st.v.length) (hk : j < k) (hn : st.v[j].nm.length ≤ 12) :
    ∃ v, (Instr.lookup 52 (.map (some B)) (.string (bs st.v[j].nm)) false).run Tryz.prog w = .ok v w ∧ TxsR w v (st.v[j].bl.map (txt st.b)) := by
  obtain ⟨D, h1, h2⟩ := h
  obtain ⟨v, hv, hv2⟩ := h2 j hj hk
  obtain ⟨u, ps, hr, hR⟩ := h1.lookup strLaw Tryz.underlying52 (strsZero _) (zd := .held (.slice none 0 0)) (zp := []) rfl (key_nm hn)
  rw [hv] at hR
  unfold Rh at hR
  simp only [Option.some.injEq, Prod.mk.injEq, DataW.held.injEq] at hR
  rw [hR.1] at hr
  exact ⟨v, hr, hv2⟩

end Go.Proofs.YtcbppfndlagodaaGreatDoor

/-
  What the helpers of the laws on bags return: two, refs, used, and slices.Equal of two rows of items that read alike. Conditions: as each says.
-/
namespace Go.Proofs.YtcbppfndlagodaaGreatDoor
open Go.RowKit
open Go.Proofs
open WoolBag

/-- the two blocks -/
def one1 : List Itm := (WoolBag.put FP [] [97]).1
def twoL : List Itm := (WoolBag.put FP one1 [98]).1

theorem one_put : ∃ i, WoolBag.put FP [] [97] = (one1, i, 0) ∧ ∀ x ∈ one1, x.t = [97] := by
  have h := put_new (F := FP) (l := []) (t := [97]) Bag.nil (by simp) (by simp) (by simp)
  refine ⟨idOf (new FP [] [97]), ?_, ?_⟩
  · unfold one1; rw [h]
  · unfold one1; rw [h]
    intro x hx
    rcases mem_ins.1 hx with rfl | hx
    · rfl
    · simp at hx

theorem one_len : one1.length = 1 := by
  obtain ⟨i, h, _⟩ := one_put
  rw [length_put h, if_neg (by simp)]; rfl

theorem two_put : ∃ i, WoolBag.put FP one1 [98] = (twoL, i, 0) := by
  obtain ⟨i, h, ht⟩ := one_put
  have h2 := put_new (F := FP) (l := one1) (t := [98]) (put_spec h).1 (by simp) (fun x hx e => by rw [ht x hx] at e; cases e) (by rw [one_len]; omega)
  exact ⟨idOf (new FP one1 [98]), by unfold twoL; rw [h2]⟩

theorem two_bag : Bag FP twoL := by
  obtain ⟨i, h⟩ := two_put
  exact (put_spec h).1

theorem two_len : twoL.length = 2 := by
  obtain ⟨i, h⟩ := two_put
  obtain ⟨j, h1, ht⟩ := one_put
  rw [length_put h, one_len, if_neg (by rintro ⟨x, hx, e⟩; rw [ht x hx] at e; cases e)]

def EqIRel (N : Nat) (w : World) (i : Value) (wr : World) : Prop := ∃ k : Nat, k ≤ N ∧ i = .int .i64 k ∧ Up w wr

set_option maxRecDepth 100000 in
set_option maxHeartbeats 400000 in
theorem equalI_yes (v1 v2 : Value) (l : List Itm) (w : World) (h1 : Items w v1 l) (h2 : Items w v2 l) :
    Calls Tryz.prog 44 #[v1, v2] w fun e w' => e = .returned (.bool true) ∧ Up w w' := by
  obtain ⟨o1, c1, rfl, p1, p2, p3⟩ := h1
  obtain ⟨o2, c2, rfl, q1, q2, q3⟩ := h2
  have HP := Lib.hid p3
  have HQ := Lib.hid q3
  unfold maxLen at p2 q2
  clear p3 q3
  go_enter Tryz.func44, Tryz.ntmps44
  go_wp2_with fail
  go_loopw [13] (fun i wr => EqIRel l.length w i wr) (fun i _ => l.length - (intOf i).toNat)
  case atStart => exact ⟨0, Nat.zero_le _, rfl, Up.refl w⟩
  case round =>
    obtain ⟨k, hk, rfl, hu⟩ := hrel
    by_cases hlt : k < l.length
    · rcases HP.out with h5 | ⟨b, off, rfl, h5⟩
      · rw [h5] at hlt; simp at hlt
      · rcases HQ.out with h6 | ⟨b', off', rfl, h6⟩
        · rw [h6] at hlt; simp at hlt
        · obtain ⟨e1, e2, e3, e4⟩ := h5 k hlt
          rw [← hu.cell (World.block_lt_of_cell? w _ e1)] at e1
          rw [← hu.cell (World.block_lt_of_cell? w _ e2)] at e2
          rw [← hu.cell (World.block_lt_of_cell? w _ e3)] at e3
          rw [← hu.cell (World.block_lt_of_cell? w _ e4)] at e4
          obtain ⟨f1, f2, f3, f4⟩ := h6 k hlt
          rw [← hu.cell (World.block_lt_of_cell? w _ f1)] at f1
          rw [← hu.cell (World.block_lt_of_cell? w _ f2)] at f2
          rw [← hu.cell (World.block_lt_of_cell? w _ f3)] at f3
          rw [← hu.cell (World.block_lt_of_cell? w _ f4)] at f4
          generalize l[k].s = xs at e1 f1
          generalize l[k].n = xn at e2 f2
          generalize bs l[k].t = xt at e3 f3
          generalize l[k].r = xr at e4 f4
          have HU := Lib.hid hu
          have d1 : decide (k < l.length) = true := decide_eq_true hlt
          clear h5 h6 hu
          go_wp2_with fail
          go_quiet (fail)
          go_wp2_with fail
          go_roundw
          case rel => exact ⟨k + 1, by omega, by go_num, HU.out.trans (Up.drewN _ _)⟩
          case measure => simp only [intOf]; omega
    · have d1 : decide (k < l.length) = false := decide_eq_false hlt
      go_wp2_with fail
      go_ret
      exact ⟨rfl, hu⟩

def RefsRel (l : List Itm) (w : World) (n i : Value) (wr : World) : Prop :=
  ∃ k : Nat, k ≤ l.length ∧ i = .int .i64 k ∧ n = .int .i64 (refs (l.take k)) ∧ Up w wr

def UsedRel (l : List Itm) (u : List UInt8) (w : World) (i : Value) (wr : World) : Prop :=
  ∃ k : Nat, k ≤ l.length ∧ i = .int .i64 k ∧ Up w wr ∧ ∀ j (h : j < l.length), j < k → txtB u l[j] = false

end Go.Proofs.YtcbppfndlagodaaGreatDoor
