/-
  What alive of the laws returns: the live records, sorted. Conditions: right segments, a bag that is one; the rows can be read.
-/
import Derived.Test.YtalbfhoffhhjmaaRSeg3
import Derived.Test.YtalbfhoffhhjmaaSegT
import Derived.Test.YtalbfhoffhhjmaaSegO
import Derived.Shelf.SlSortCmp.NoneTotal
import Derived.Laws.AppendOwnNone
namespace Go.Proofs.Ytalbfhoffhhjmaa
open Go.RowKit
open Go.Proofs
open WoolBag
open WoolSeg
open Go.Sort

theorem FP_small (t : List UInt8) : 0 ≤ FP t ∧ FP t < 1073741824 := by
  have := fp_le 65581 (by omega) (by omega) t
  unfold FP
  omega

/-- records that are live have small numbers -/
theorem alive_small {b : List Itm} {l : List (List Rc)} (hb : Bag FP b) : ∀ r ∈ (alive b l).flatten, Small r := by
  intro r hr
  obtain ⟨x, hx, e⟩ := used_iff.1 (alive_mem.1 hr).1
  have hok := hb.ok _ hx
  have hF := FP_small x.t
  subst e
  unfold Small rcOf idOf
  simp only
  have h1 := hok.2.1
  have h2 := hok.2.2.1
  have h3 := hok.2.2.2.1
  rw [h1]
  exact ⟨hF.1, hF.2, h2, by omega⟩

/-- a list of small records, as such -/
theorem lift_small : ∀ (d : List Rc), (∀ r ∈ d, Small r) → ∃ k : List Kr, k.map (·.1) = d
  | [], _ => ⟨[], rfl⟩
  | r :: d, h => by
    obtain ⟨k, hk⟩ := lift_small d fun x hx => h x (List.mem_cons_of_mem _ hx)
    exact ⟨(⟨r, h r (List.mem_cons_self ..)⟩ : Kr) :: k, congrArg (r :: ·) hk⟩

theorem none_sort (p : Option Addr) (cap : Nat) (fv : Value) (w : World) : Calls Try.prog 39 #[.slice p 0 cap, fv] w fun e w' => e = .returned (.tuple #[]) ∧ w' = w := by
  have h := AnyF.slices_SortFunc_none Try.sortRec p cap fv w
  change Calls Try.prog 39 _ _ _ at h
  exact h

/-- sorting a row of the call's own -/
theorem sort_own (base : Nat) (v : Value) (d : List Rc) (w : World) (h : ORecs w base v d) (hs : ∀ r ∈ d, Small r) (hd : d.length ≤ 100000) :
    Calls Try.prog 39 #[v, .func (.func 40) #[] #[]] w fun e w' => e = .returned (.tuple #[]) ∧ ∃ d' : List Rc, d'.Perm d ∧ d'.Pairwise (fun a x => ¬ behR x a) ∧ ORecs w' base v d' ∧ w.grownBy w' v.ownBlock := by
  rcases own_row h with ⟨rfl, h0, _⟩ | ⟨g, cap, sp, rfl, hg, hrow, hc1, hc2, hc3⟩
  · have hd0 : d = [] := List.eq_nil_of_length_eq_zero h0
    subst hd0
    refine (none_sort none 0 _ w).mono ?_
    rintro e w' ⟨rfl, rfl⟩
    exact ⟨rfl, [], List.Perm.refl _, List.Pairwise.nil, ORecs.nil _ _, ⟨rfl, rfl, rfl, Nat.le_refl _, fun _ _ _ => rfl⟩⟩
  · obtain ⟨k, rfl⟩ := lift_small d hs
    rw [List.length_map] at hd hc1 hc3 ⊢
    refine (sortR g cap k sp w hrow hd).mono ?_
    rintro e w' ⟨rfl, d', sp', hp, hso, hrow', hsp, hgr⟩
    have hl : d'.length = k.length := hp.length_eq
    refine ⟨rfl, d'.map (·.1), hp.map _, ?_, ?_, hgr⟩
    · rw [List.pairwise_map]
      refine hso.imp fun {a x} hax => ?_
      rw [ltK_no] at hax
      intro hbe
      exact hax (hbe.imp id fun h => ⟨h.1.symm, h.2⟩)
    · have := own_mk (m := 4) (n := k.length) hg hrow' (by rw [fl_length rcC_len, List.length_map, hl]) hc1 hc2 (by rw [hsp]; exact hc3)
      unfold ORecs
      rw [List.length_map, hl]
      exact this

def AlvRel (G : List (List Rc)) (w : World) (out i : Value) (wr : World) : Prop :=
  ∃ k : Nat, k ≤ G.length ∧ i = .int .i64 (k : Int) ∧ ORecs wr w.heap.size out (G.take k).flatten ∧ Up w wr

theorem OSgs.at {w : World} {base n c : Nat} {o : Option Addr} {G : List (List Rc)} (h : OSgs w base (.slice o n c) G) (hne : G ≠ []) : ∃ b off, o = some ⟨b, off, none⟩ ∧ ∀ k (hk : k < G.length), ∃ u, w.cell? ⟨b, off + k, none⟩ = some u ∧ Recs w u G[k] ∧ ((u = .slice none 0 0 ∧ G[k] = []) ∨ ∃ g c, u = .slice (some ⟨g, 0, none⟩) G[k].length c) := by
  obtain ⟨C, h1, h2⟩ := h
  have hl := h2.len
  obtain ⟨b, off, e, h3⟩ := Sl.cells h1.sl (by intro e; exact hne (List.eq_nil_of_length_eq_zero (by omega)))
  refine ⟨b, off, e, fun k hk => ⟨C[k]'(by omega), h3 k _ (List.getElem?_eq_getElem _), (h2.own k hk).recs, ?_⟩⟩
  rcases own_row (h2.own k hk) with ⟨e1, e2, _⟩ | ⟨g, cap, sp, e1, _⟩
  · exact .inl ⟨e1, List.eq_nil_of_length_eq_zero e2⟩
  · exact .inr ⟨g, cap, e1⟩

set_option maxRecDepth 100000 in
set_option maxHeartbeats 4000000 in
theorem alive_any (v vb : Value) (l : List (List Rc)) (b : List Itm) (w : World) (h : Sgs w v l) (hb : Items w vb b) (hr : Right l) (hbag : Bag FP b) :
    Calls Try.prog 16 #[v, vb] w (RsPost w (held b l)) := by
  have HA := Lib.hid (refAlive_any v vb l b w h hb hr hbag)
  have HSM := Lib.hid (alive_small (l := l) hbag)
  have HHE : Hid (∀ d : List Rc, d.Perm (alive b l).flatten → d.Pairwise (fun a x => ¬ behR x a) → d = held b l) := fun d h1 h2 => sorted_held hbag h1 h2
  obtain ⟨o, c, rfl, _, _⟩ := h.slice
  obtain ⟨ob, cb, rfl, _⟩ := hb.slice
  have hal := alive_length b l
  have hl16 := hr.len
  have h25 : ∀ k (h : k < (alive b l).length), (alive b l)[k].length ≤ 25 := fun k hk => by
    have h1 := alive_takes hr _ (List.getElem_mem hk)
    have h2 := takes_len (alive b l)[k]
    omega
  have H25 := Lib.hid h25
  obtain ⟨G, hG⟩ : ∃ G, alive b l = G := ⟨_, rfl⟩
  rw [hG] at HA HSM HHE hal H25
  generalize held b l = R at HHE ⊢
  have hGl : G.length ≤ 16 := by omega
  have HTOT : Hid (∀ k, k ≤ 16 → (G.take k).flatten.length ≤ k * 25) := fun k _ => by
    clear HHE
    induction k with
    | zero => simp
    | succ k ih =>
      by_cases hk : k < G.length
      · rw [flat_step hk, List.length_append]
        have := H25.out k hk
        have := ih (by omega)
        omega
      · rw [List.take_of_length_le (by omega)]
        rw [List.take_of_length_le (by omega)] at ih
        have := ih (by omega)
        omega
  generalize l.length = n at HA ⊢
  generalize b.length = nb at HA ⊢
  clear h hb hr hbag hal h25 hG hl16
  obtain ⟨i0, hi, hz0, hz1, hz2⟩ := rcInfo'
  have HI := Lib.hid hi
  have HZ0 := Lib.hid hz0
  have HZ1 := Lib.hid hz1
  have HZ2 := Lib.hid hz2
  clear hi hz0 hz1 hz2
  go_enter Try.func16, Try.ntmps16
  go_wp2_with fail
  refine HA.out.mono ?_
  rintro e w1 ⟨v1, rfl, ho1, u1⟩
  have HS1 := Lib.hid ho1
  have HU1 := Lib.hid u1
  obtain ⟨o1, c1, hv1, _, _⟩ := ho1.sgs.slice
  obtain ⟨m, hm⟩ : ∃ m, G.length = m := ⟨_, rfl⟩
  have HM := Lib.hid hm
  rw [hm] at hv1 hGl
  subst hv1
  clear ho1 u1 hm
  go_wp2_with fail
  go_loopw [5, 12] (fun out i wr => AlvRel G w1 out i wr) (fun _ i _ => m - (intOf i).toNat)
  case atStart => exact ⟨0, Nat.zero_le _, rfl, ORecs.nil _ _, Up.refl _⟩
  case round =>
    obtain ⟨k, hk, rfl, ho, hu⟩ := hrel
    rw [HM.out] at hk
    have HU := Lib.hid hu
    have HO := Lib.hid ho
    by_cases hlt : k < m
    · have hkG : k < G.length := by rw [HM.out]; exact hlt
      obtain ⟨bA, offA, hoA, hat⟩ := HS1.out.at (by intro e; rw [e] at hkG; simp at hkG)
      obtain ⟨x, a0, hx, hsh⟩ := hat k hkG
      subst hoA
      rw [← hu.cell (World.block_lt_of_cell? _ _ a0)] at a0
      have hxr := hx.up hu
      have hst := flat_step hkG
      have h25 := H25.out k hkG
      have htot := HTOT.out k (by omega)
      obtain ⟨s, hs⟩ : ∃ s, G[k] = s := ⟨_, rfl⟩
      rw [hs] at hxr hst h25 hsh
      obtain ⟨D, hD⟩ : ∃ D, (G.take k).flatten = D := ⟨_, rfl⟩
      rw [hD] at HO hst htot
      have HNX : Hid (∀ out wF, ORecs wF w1.heap.size out (D ++ s) → Up w1 wF → AlvRel G w1 out (.int .i64 ((k + 1 : Nat) : Int)) wF) := fun out wF hO hF => ⟨k + 1, by omega, rfl, by rw [hst]; exact hO, hF⟩
      have d1 : decide (k < m) = true := decide_eq_true hlt
      have HXR := Lib.hid hxr
      clear hat hst ho hu hs hx hxr hD
      rcases hsh with ⟨rfl, hs0⟩ | ⟨gX, cX, rfl⟩
      · have HF := Lib.hid (HNX.out u5 wr (by rw [hs0, List.append_nil]; exact HO.out) HU.out)
        go_wp2_with (at_builtin; refine wpList_append_own_none rfl _ _ 22 rfl w1.heap.size 30 i0 4 Try.underlying22 HI.out _ _ _ rfl HO.out rfl ?_)
        go_roundw
        case rel => have := HF.out; simpa using this
        case measure => simp only [intOf]; omega
      · have hcl : Hid (∀ j u, (fl rcC s)[j]? = some u → wr.cell? ((⟨gX, 0, none⟩ : Addr).add j) = some u) := by
          intro j u hj
          have hne : s.length ≠ 0 := by
            intro e
            have e2 := List.eq_nil_of_length_eq_zero e
            subst e2
            simp [fl] at hj
          obtain ⟨b', off', e, hc⟩ := Sl.cells (show Sl wr 4 (.slice (some ⟨gX, 0, none⟩) s.length cX) s.length (fl rcC s) from HXR.out) hne
          cases e
          rw [add_offS]
          exact hc j u hj
        have hlen := fl_length (f := rcC) rcC_len s
        go_wp2_with (at_builtin; refine wpList_append_own _ rfl _ _ 22 rfl w1.heap.size 30 i0 _ 4 40 Try.underlying22 HI.out HZ0.out HZ1.out HZ2.out rfl (by decide) _ _ _ rfl HO.out ⟨gX, 0, none⟩ s.length cX (fl rcC s) rfl ?qc1 ?qc2 ?qc3 ?qc4 ?qc5 ?qc6 ?_)
        case qc1 => exact hlen
        case qc2 => exact hcl.out
        case qc3 => exact fl_one rcC_one s
        case qc4 => unfold maxLen; omega
        case qc5 => omega
        case qc6 => exact HU.out.size
        intro v' w4 hown hgrow hnil
        have HF := Lib.hid (HNX.out v' w4 (by
          unfold ORecs
          rw [List.length_append, fl_append]
          exact hown) (Below.grown HU.out hgrow HU.out.size (fun q hq => (World.ownsRow.lt HO.out q hq).1)))
        clear hown hgrow hnil
        go_wp2_with fail
        go_roundw
        case rel => have := HF.out; simpa using this
        case measure => simp only [intOf]; omega
    · have d1 : decide (k < m) = false := decide_eq_false hlt
      have htot := HTOT.out k (by omega)
      rw [List.take_of_length_le (by rw [HM.out]; omega)] at ho htot
      have HSO := Lib.hid (sort_own w1.heap.size u5 G.flatten wr ho HSM.out (by omega))
      obtain ⟨oO, cO, hvO, _, _⟩ := ho.recs.slice
      generalize G.flatten.length = nO at hvO
      have HLT : Hid (∀ q, u5.ownBlock = some q → w1.heap.size ≤ q) := fun q hq => (World.ownsRow.lt ho q hq).1
      subst hvO
      clear ho hu htot HO
      go_wp2_with fail
      refine HSO.out.mono ?_
      rintro e w8 ⟨rfl, d', hp, hso, ho8, hg8⟩
      have hd' := HHE.out d' hp hso
      subst hd'
      have HO8 : Hid (ORecs w8 w.heap.size (.slice oO nO cO) d') := ho8.base HU1.out.size
      have HU8 : Hid (Up w w8) := HU1.out.trans (Below.grown HU.out hg8 HU.out.size HLT.out)
      clear hp hso ho8 hg8
      go_wp2_with fail
      go_ret
      exact ⟨_, rfl, HO8.out, HU8.out⟩

end Go.Proofs.Ytalbfhoffhhjmaa
