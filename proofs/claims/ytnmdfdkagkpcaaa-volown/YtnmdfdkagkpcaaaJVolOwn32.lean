/-
  The texts CpyV, CpyW, one behind the other; each says below what it holds and on what conditions.
-/
import Derived.Test.YtnmdfdkagkpcaaaJVolOwn29
import Derived.Test.YtnmdfdkagkpcaaaJVolOwn30
import Derived.Test.YtnmdfdkagkpcaaaJVolOwn31
import Derived.Deep.RegionLaw
import Derived.Deep.AppendLies
import Derived.Deep.DeepCutAuto

/-
  What copied (of the law on memory) makes of a state: another that reads so, with marks behind its rows. Conditions: a valid state's sizes.
-/
namespace Go.Proofs.Ytnmdfdkagkpcaaa
open Go.RowKit
open Go.Proofs
open WoolBag
open WoolVol

/-- the mark behind items, and behind identifiers -/
def mkI : Itm := ⟨0, 77, [], 0⟩
def mkN : Idn := (false, 0, 78)

/-- a block of one type is not that of a row of another -/
theorem RowC.notOwnC {w : World} {Q T T' base m n : Nat} {v : Value} {L L' : List Value} (hr : RowC w Q T' L') (ho : w.ownsRow base T m v n L) (hne : T ≠ T') : v.ownBlock ≠ some Q := by
  rcases own_row ho with ⟨rfl, _, _⟩ | ⟨g, cap, sp, rfl, _, hrow, _⟩
  · intro h; cases h
  · intro h
    have e : g = Q := Option.some.inj h
    subst e
    unfold RowC at hr hrow
    rw [hr] at hrow
    simp only [Option.some.injEq, Obj.cells.injEq] at hrow
    exact hne hrow.2.1.symm

/-- volumes whose blocks lie in rows with marks behind, each in another -/
structure CVs (w : World) (lo : Nat) (C : List VC) (l : List Vo) : Prop where
  len : C.length = l.length
  nm : ∀ k (h : k < l.length) (h' : k < C.length), C[k].nm = l[k].nm
  bl : ∀ k (h : k < l.length) (h' : k < C.length), ∃ g, C[k].sl = .slice (some ⟨g, 0, none⟩) l[k].bl.length (l[k].bl.length + 3) ∧ lo ≤ g ∧ RowD w g (fl idC l[k].bl ++ mkCD mkN 3)
  apart : ∀ j k (hj : j < C.length) (hk : k < C.length) b, j ≠ k → C[j].sl.ownBlock = some b → C[k].sl.ownBlock ≠ some b

theorem CVs.nil (w : World) (lo : Nat) : CVs w lo [] [] := ⟨rfl, fun k h => absurd h (by simp), fun k h => absurd h (by simp), fun j k h => absurd h (by simp)⟩
theorem CVs.up {w w' : World} {lo : Nat} {C : List VC} {l : List Vo} (h : CVs w lo C l) (hu : Up w w') : CVs w' lo C l :=
  ⟨h.len, h.nm, fun k h1 h2 => by obtain ⟨g, a, b, c⟩ := h.bl k h1 h2; exact ⟨g, a, b, c.up hu⟩, h.apart⟩
/-- kept where a row of volumes grows -/
theorem CVs.grow {w w' : World} {lo base n : Nat} {C : List VC} {l : List Vo} {v : Value} {L : List Value} (h : CVs w lo C l) (ho : w.ownsRow base 62 2 v n L) (hg : w.grownBy w' v.ownBlock) : CVs w' lo C l := by
  refine ⟨h.len, h.nm, fun k h1 h2 => ?_, h.apart⟩
  obtain ⟨g, a, b, c⟩ := h.bl k h1 h2
  refine ⟨g, a, b, RowC.growK c hg (fun e => ?_)⟩
  exact RowC.notOwnC c ho (by decide) e

theorem CVs.snoc {w : World} {lo g : Nat} {C : List VC} {l : List Vo} {x : Vo} (h : CVs w lo C l) (hg : lo ≤ g) (hr : RowD w g (fl idC x.bl ++ mkCD mkN 3)) (hf : ∀ k (hk : k < C.length), C[k].sl.ownBlock ≠ some g) :
    CVs w lo (C ++ [⟨x.nm, .slice (some ⟨g, 0, none⟩) x.bl.length (x.bl.length + 3)⟩]) (l ++ [x]) := by
  have hl := h.len
  obtain ⟨Y, hY⟩ : ∃ Y : VC, Y = ⟨x.nm, .slice (some ⟨g, 0, none⟩) x.bl.length (x.bl.length + 3)⟩ := ⟨_, rfl⟩
  have hYn : Y.nm = x.nm := by rw [hY]
  have hYs : Y.sl = .slice (some ⟨g, 0, none⟩) x.bl.length (x.bl.length + 3) := by rw [hY]
  rw [← hY]
  clear hY
  have key : ∀ k (h' : k < (C ++ [Y]).length), (∃ h1 : k < C.length, (C ++ [Y])[k] = C[k]) ∨ (k = C.length ∧ (C ++ [Y])[k] = Y) := by
    intro k h'
    rw [List.length_append, List.length_singleton] at h'
    by_cases hk : k < C.length
    · exact .inl ⟨hk, List.getElem_append_left hk⟩
    · have e : k = C.length := by omega
      subst e
      exact .inr ⟨rfl, by simp⟩
  refine ⟨by rw [List.length_append, List.length_append, hl]; rfl, fun k h1 h2 => ?_, fun k h1 h2 => ?_, fun j k hj hk b hne hb => ?_⟩
  · rcases key k h2 with ⟨h3, e⟩ | ⟨rfl, e⟩
    · rw [e, List.getElem_append_left (by omega)]
      exact h.nm k (by omega) h3
    · rw [e, hYn]
      have : (l ++ [x])[C.length] = x := by simp [hl]
      rw [this]
  · rcases key k h2 with ⟨h3, e⟩ | ⟨rfl, e⟩
    · rw [e, List.getElem_append_left (by omega)]
      exact h.bl k (by omega) h3
    · rw [e]
      have : (l ++ [x])[C.length] = x := by simp [hl]
      rw [this]
      exact ⟨g, hYs, hg, hr⟩
  · rcases key j hj with ⟨h3, e⟩ | ⟨rfl, e⟩
    · rw [e] at hb
      rcases key k hk with ⟨h4, e2⟩ | ⟨rfl, e2⟩
      · rw [e2]; exact h.apart j k h3 h4 b hne hb
      · rw [e2, hYs]
        intro e3
        have e4 : g = b := Option.some.inj e3
        subst e4
        exact hf j h3 hb
    · rw [e, hYs] at hb
      have e4 : g = b := Option.some.inj hb
      subst e4
      rcases key k hk with ⟨h4, e2⟩ | ⟨rfl, e2⟩
      · rw [e2]; exact hf k h4
      · exact absurd rfl hne

/-- a state with marks behind its rows -/
def CpS (w : World) (lo : Nat) (v : Value) (st : Sta) : Prop :=
  ∃ gB vv C, v = .agg #[.slice (some ⟨gB, 0, none⟩) st.b.length (st.b.length + 3), vv] ∧ lo ≤ gB ∧ RowI w gB (itL st.b ++ mkC mkI 3) ∧ OVC w lo vv C ∧ CVs w lo C st.v

def CpPost (st : Sta) (w : World) (e : Ending) (w' : World) : Prop := ∃ v', e = .returned v' ∧ CpS w' w.heap.size v' st ∧ Up w w'

theorem cell_two_newO (w : World) (x y : Value) (t : TypeId) : ∀ j u, [x, y][j]? = some u → (w.alloc (.cells #[x, y] t)).cell? ((⟨w.heap.size, 0, none⟩ : Addr).add j) = some u := by
  intro j u hj
  rw [add_off]
  simp only [Nat.zero_add]
  exact RowC.cell (heap_alloc_new w (.cells #[x, y] t) : RowC _ _ t [x, y]) hj

/-- a row of the call's own off a block -/
theorem own_ofRow {w : World} {g T m n k lo : Nat} {L sp : List Value} (h : RowC w g T (L ++ sp)) (hL : L.length = n * m) (hs : sp.length = k * m) (hg : lo ≤ g) (hm : n + k ≤ maxLen) : w.ownsRow lo T m (.slice (some ⟨g, 0, none⟩) n (n + k)) n L := by
  refine ⟨hL, .inr ⟨g, n + k, (L ++ sp).toArray, rfl, hg, h, Nat.le_add_right _ _, hm, ?_, ?_⟩⟩
  · rw [List.size_toArray, List.length_append, hL, hs, Nat.add_mul]
  · simp [hL]

theorem CpS.ost {w : World} {lo : Nat} {v : Value} {st : Sta} (h : CpS w lo v st) (h64 : st.b.length ≤ 64) (h32 : ∀ x ∈ st.v, x.bl.length ≤ 32) : OSt w lo v st := by
  obtain ⟨gB, vv, C, rfl, h1, h2, h3, h4⟩ := h
  have hl := h4.len
  refine ⟨_, _, rfl, own_ofRow (k := 3) h2 (itL_length _) (mkC_length _ _) h1 (by unfold maxLen; omega), C, h3, ⟨h4.len, fun k hk => h4.nm k hk (by omega), fun k hk => ?_, fun j k hj hk b hne hb => h4.apart j k (by omega) (by omega) b hne hb⟩⟩
  obtain ⟨g, a, b, c⟩ := h4.bl k hk (by omega)
  have h9 := h32 st.v[k] (List.getElem_mem hk)
  show w.ownsRow lo 51 3 _ _ _
  rw [a]
  exact own_ofRow (k := 3) c (fl_length idC_len _) (mkC_lengthD _ _) b (by unfold maxLen; omega)

end Go.Proofs.Ytnmdfdkagkpcaaa

/-
  What copied (of the law on memory) returns: a state that reads so, with marks behind its rows, all of them the call's own. Conditions: a valid state's sizes.
-/
namespace Go.Proofs.Ytnmdfdkagkpcaaa
open Go.RowKit
open Go.Proofs
open WoolBag
open WoolVol

structure CyI (st : Sta) (X R Z gB : Nat) (xb xv bv : Value) (w : World) (j : Nat) (vv : Value) (C : List VC) (wr : World) : Prop where
  bx : RowC wr X 31 [xb, xv]
  rx : RowC wr R 31 [.slice none 0 0, .slice none 0 0]
  zx : RowC wr Z 31 [bv, vv]
  bag : RowI wr gB (itL st.b ++ mkC mkI 3)
  vols : OVC wr w.heap.size vv C
  cvs : CVs wr w.heap.size C (st.v.take j)
  up : Up w wr

def CyRel (st : Sta) (X R Z gB n : Nat) (xb xv bv : Value) (w : World) (i : Value) (wr : World) : Prop :=
  ∃ j vv C, j ≤ n ∧ i = .int .i64 ((j : Nat) : Int) ∧ CyI st X R Z gB xb xv bv w j vv C wr

theorem rowNe {w : World} {a b T1 T2 : Nat} {L1 L2 : List Value} (h1 : RowC w a T1 L1) (h2 : RowC w b T2 L2) (hne : T1 ≠ T2) : a ≠ b := by
  intro e
  subst e
  unfold RowC at h1 h2
  rw [h1] at h2
  simp only [Option.some.injEq, Obj.cells.injEq] at h2
  exact hne h2.2.1

theorem grown_set1 (w : World) (g j : Nat) (v : Value) : w.grownBy (w.setCell ⟨g, j, none⟩ v) (some g) :=
  ⟨rfl, rfl, rfl, by simp [World.setCell], fun k hk hne => by
    have hkg : g ≠ k := fun e => hne (by rw [e])
    simp [World.setCell, Array.getElem?_modify, hkg]⟩

theorem CVs.growZ {w w' : World} {lo Z : Nat} {C : List VC} {l : List Vo} {L : List Value} (h : CVs w lo C l) (hz : RowC w Z 31 L) (hg : w.grownBy w' (some Z)) : CVs w' lo C l := by
  refine ⟨h.len, h.nm, fun k h1 h2 => ?_, h.apart⟩
  obtain ⟨g, a, b, c⟩ := h.bl k h1 h2
  refine ⟨g, a, b, RowC.growK c hg (fun e => ?_)⟩
  exact rowNe c hz (by decide) (Option.some.inj e).symm

theorem CyI.upW {st : Sta} {X R Z gB j : Nat} {xb xv bv vv : Value} {w wr w' : World} {C : List VC} (h : CyI st X R Z gB xb xv bv w j vv C wr) (hu : Up wr w') : CyI st X R Z gB xb xv bv w j vv C w' :=
  ⟨h.bx.up hu, h.rx.up hu, h.zx.up hu, RowI.up h.bag hu, own_up h.vols hu, h.cvs.up hu, h.up.trans hu⟩

theorem CyI.step {st : Sta} {X R Z gB j g gA cA : Nat} {xb xv bv : Value} {oP : Option Addr} {cP : Nat} {w w4 wA : World} {C : List VC} {VJ : Vo} (h : CyI st X R Z gB xb xv bv w j (.slice oP j cP) C w4) (hC : C.length = j)
    (hg : w.heap.size ≤ g) (hrd : RowD w4 g (fl idC VJ.bl ++ mkCD mkN 3)) (hf : ∀ k (hk : k < C.length), C[k].sl.ownBlock ≠ some g) (hT : st.v.take (j + 1) = st.v.take j ++ [VJ])
    (hA : wA.ownsRow w.heap.size 62 2 (.slice (some ⟨gA, 0, none⟩) (j + 1) cA) (j + 1) (fl vcC C ++ [.string (bs VJ.nm), .slice (some ⟨g, 0, none⟩) VJ.bl.length (VJ.bl.length + 3)]))
    (hgA : w4.grownBy wA (Value.slice oP j cP).ownBlock) (hXZ : X ≠ Z) (hRZ : R ≠ Z) (hZW : w.heap.size ≤ Z) :
    CyI st X R Z gB xb xv bv w (j + 1) (.slice (some ⟨gA, 0, none⟩) (j + 1) cA) (C ++ [⟨VJ.nm, .slice (some ⟨g, 0, none⟩) VJ.bl.length (VJ.bl.length + 3)⟩]) (wA.setCell ⟨Z, 1, none⟩ (.slice (some ⟨gA, 0, none⟩) (j + 1) cA)) := by
  have ho : w4.ownsRow w.heap.size 62 2 (.slice oP j cP) C.length (fl vcC C) := h.vols
  have hzA : RowC wA Z 31 [bv, .slice oP j cP] := h.zx.growK hgA (RowC.notOwnC h.zx ho (by decide))
  have hbA : RowC wA X 31 [xb, xv] := h.bx.growK hgA (RowC.notOwnC h.bx ho (by decide))
  have hrA : RowC wA R 31 [.slice none 0 0, .slice none 0 0] := h.rx.growK hgA (RowC.notOwnC h.rx ho (by decide))
  have hgI : RowC wA gB 60 (itL st.b ++ mkC mkI 3) := RowC.growK h.bag hgA (RowC.notOwnC h.bag ho (by decide))
  have hgD : RowC wA g 51 (fl idC VJ.bl ++ mkCD mkN 3) := RowC.growK hrd hgA (RowC.notOwnC hrd ho (by decide))
  have hs := grown_set1 wA Z 1 (.slice (some ⟨gA, 0, none⟩) (j + 1) cA)
  have hcv := (h.cvs.grow ho hgA).growZ hzA hs
  refine ⟨hbA.other hXZ 1 _, hrA.other hRZ 1 _, hzA.set 1 _, RowC.growK hgI hs (fun e => rowNe hgI hzA (by decide) (Option.some.inj e).symm), ?_, ?_, ?_⟩
  · have h9 := own_growK hA hs (fun b hb e => RowC.notOwnC hzA hA (by decide) (by rw [hb, e]))
    unfold OVC
    rw [List.length_append, List.length_singleton, hC, fl_append]
    exact h9
  · rw [hT]
    exact hcv.snoc (x := VJ) hg (RowC.growK hgD hs (fun e => rowNe hgD hzA (by decide) (Option.some.inj e).symm)) hf
  · have h9 : Up w wA := Below.grown (show Below w.heap.size w w4 from h.up) hgA h.up.size (fun k hk => (World.ownsRow.lt ho k hk).1)
    exact Below.setCell h9 (p := ⟨Z, 1, none⟩) hZW _

theorem CyI.fin {st : Sta} {X R Z gB n : Nat} {xb xv vv a b : Value} {w wr : World} {C : List VC} (h : CyI st X R Z gB xb xv (.slice (some ⟨gB, 0, none⟩) st.b.length (st.b.length + 3)) w n vv C wr) (hn : st.v.take n = st.v) (hG : w.heap.size ≤ gB) (hR : w.heap.size ≤ R) :
    CpS ((wr.setCell ⟨R, 0, none⟩ a).setCell ⟨R, 1, none⟩ b) w.heap.size (.agg #[.slice (some ⟨gB, 0, none⟩) st.b.length (st.b.length + 3), vv]) st ∧ Up w ((wr.setCell ⟨R, 0, none⟩ a).setCell ⟨R, 1, none⟩ b) := by
  have h0 := grown_set1 wr R 0 a
  have h1 := grown_set1 (wr.setCell ⟨R, 0, none⟩ a) R 1 b
  have r1 := h.rx.set 0 a
  have hb : RowC wr gB 60 (itL st.b ++ mkC mkI 3) := h.bag
  have hb1 := RowC.growK hb h0 (fun e => rowNe hb h.rx (by decide) (Option.some.inj e).symm)
  have hb2 := RowC.growK hb1 h1 (fun e => rowNe hb1 r1 (by decide) (Option.some.inj e).symm)
  have hv : wr.ownsRow w.heap.size 62 2 vv C.length (fl vcC C) := h.vols
  have hv1 := own_growK hv h0 (fun q hq e => RowC.notOwnC h.rx hv (by decide) (by rw [hq, e]))
  have hv2 := own_growK hv1 h1 (fun q hq e => RowC.notOwnC r1 hv1 (by decide) (by rw [hq, e]))
  have hc := (h.cvs.growZ h.rx h0).growZ r1 h1
  rw [hn] at hc
  exact ⟨⟨gB, vv, C, rfl, hG, hb2, hv2, hc⟩, up2 h.up hR⟩

set_option maxRecDepth 100000 in
set_option maxHeartbeats 4000000 in
theorem copied_any (v : Value) (st : Sta) (w : World) (h : Stat w v st) (h64 : st.b.length ≤ 64) (h6 : st.v.length ≤ 6) (h32 : ∀ x ∈ st.v, x.bl.length ≤ 32) :
    Calls Try.prog 18 #[v] w (CpPost st w) := by
  obtain ⟨vb, vv, rfl, hb, hv⟩ := h
  obtain ⟨oB, cB, rfl, _⟩ := hb.slice
  obtain ⟨oV, cV, rfl, hcn, hcm⟩ := hv.slice
  have HVS := Lib.hid hv
  obtain ⟨M, hM⟩ : ∃ M, st.b.length = M := ⟨_, rfl⟩
  obtain ⟨n, hn⟩ : ∃ n, st.v.length = n := ⟨_, rfl⟩
  have HRI := Lib.hid (fun W (hW : Up w W) => roomy_any oB st.b.length cB st.b mkI W (hb.up hW) (by omega))
  unfold itV mkI RoomPost at HRI
  simp only at HRI
  have HEM : Hid (bs [] = ⟨#[]⟩) := rfl
  rw [HEM.out] at HRI
  rw [hM] at HRI h64 ⊢
  rw [hn] at h6 HVS ⊢
  have HM := Lib.hid hM
  have HN := Lib.hid hn
  have H32 := Lib.hid h32
  unfold maxLen at hcm
  clear hb hv hM hn h32 hcn
  have HX : Hid (RowC ((w.alloc (.cells #[.slice oB M cB, .slice oV n cV] 31)).alloc (.cells #[.slice none 0 0, .slice none 0 0] 31)) w.heap.size 31 [.slice oB M cB, .slice oV n cV]) := RowC.up (heap_alloc_new w _) (Up.alloc _ _)
  have HR : Hid (RowC ((w.alloc (.cells #[.slice oB M cB, .slice oV n cV] 31)).alloc (.cells #[.slice none 0 0, .slice none 0 0] 31)) (w.alloc (.cells #[.slice oB M cB, .slice oV n cV] 31)).heap.size 31 [.slice none 0 0, .slice none 0 0]) := heap_alloc_new _ _
  have HU : Hid (Up w ((w.alloc (.cells #[.slice oB M cB, .slice oV n cV] 31)).alloc (.cells #[.slice none 0 0, .slice none 0 0] 31))) := (Up.alloc _ _).trans (Up.alloc _ _)
  obtain ⟨R, hR⟩ : ∃ R, w.heap.size + 1 = R := ⟨_, rfl⟩
  have HRW : Hid (w.heap.size ≤ R) := by show _ ≤ _; omega
  have hR2 : (w.alloc (.cells #[.slice oB M cB, .slice oV n cV] 31)).heap.size = R := by rw [← hR]; simp
  rw [hR2] at HR
  clear hR2
  go_enter Try.func18, Try.ntmps18
  go_upto_region 1 with (fail)
  clear hR
  generalize ((w.alloc (.cells #[.slice oB M cB, .slice oV n cV] 31)).alloc (.cells #[.slice none 0 0, .slice none 0 0] 31)) = W0 at HX HR HU ⊢
  obtain ⟨X, hX⟩ : ∃ X, w.heap.size = X := ⟨_, rfl⟩
  rw [hX] at HX ⊢
  have HXW : Hid (w.heap.size = X) := hX
  clear hX
  have k0 := HX.out.cell (j := 0) rfl
  go_wp2_with fail
  refine (HRI.out _ HU.out).mono ?_
  rintro e w2 ⟨gB, he, hgB, hrB, u2⟩
  subst he
  have HGB : Hid (w.heap.size ≤ gB) := Nat.le_trans HU.out.size hgB
  have hv := u2.trans (Up.alloc w2 (.cells #[.slice (some ⟨gB, 0, none⟩) M (M + 3), .slice none 0 0] 31))
  have HZ : Hid (RowC (w2.alloc (.cells #[.slice (some ⟨gB, 0, none⟩) M (M + 3), .slice none 0 0] 31)) w2.heap.size 31 [.slice (some ⟨gB, 0, none⟩) M (M + 3), .slice none 0 0]) := heap_alloc_new w2 _
  have HBG : Hid (RowI (w2.alloc (.cells #[.slice (some ⟨gB, 0, none⟩) M (M + 3), .slice none 0 0] 31)) gB (itL st.b ++ mkC mkI 3)) := RowI.up hrB (Up.alloc _ _)
  have hx0 := HX.out.lt
  have hr0 := HR.out.lt
  have hs0 := u2.size
  replace HX := Lib.hid (HX.out.up hv)
  replace HR := Lib.hid (HR.out.up hv)
  have HZW : Hid (w.heap.size ≤ w2.heap.size) := (HU.out.trans u2).size
  replace HU := Lib.hid (HU.out.trans hv)
  have HXZ : Hid (X ≠ w2.heap.size) := by show _ ≠ _; omega
  have HRZ : Hid (R ≠ w2.heap.size) := by show _ ≠ _; omega
  clear hr0 hx0 hs0 hv u2 hrB hgB k0 HRI
  go_upto_region 2 with (fail)
  generalize w2.alloc (.cells #[.slice (some ⟨gB, 0, none⟩) M (M + 3), .slice none 0 0] 31) = W1 at HX HR HZ HBG HU ⊢
  generalize w2.heap.size = Z at HZ HXZ HRZ HZW ⊢
  have HST : Hid (CyRel st X R Z gB n (.slice oB M cB) (.slice oV n cV) (.slice (some ⟨gB, 0, none⟩) M (M + 3)) w (.int .i64 0) W1) := ⟨0, .slice none 0 0, [], Nat.zero_le _, rfl, ⟨HX.out, HR.out, HZ.out, HBG.out, World.ownsRow_nil _ _ _ _, CVs.nil _ _, HU.out⟩⟩
  have k1 := HX.out.cell (j := 1) rfl
  obtain ⟨i0, hi', hz0, hz1, hz2⟩ := volInfo'
  have HI0 := Lib.hid hi'
  have HZ0 := Lib.hid hz0
  have HZ1 := Lib.hid hz1
  have HZ2 := Lib.hid hz2
  clear hi' hz0 hz1 hz2 HR HZ HBG
  go_wp2_with fail
  clear HX HU k1
  go_loopw [14] (CyRel st X R Z gB n (.slice oB M cB) (.slice oV n cV) (.slice (some ⟨gB, 0, none⟩) M (M + 3)) w) (fun i _ => n - (intOf i).toNat)
  case atStart => exact HST.out
  case round =>
    clear HST
    obtain ⟨j, vv, C, hj, rfl, hI⟩ := hrel
    have HI := Lib.hid hI
    have hCl : C.length = j := by rw [hI.cvs.len, List.length_take, HN.out]; omega
    have HCL := Lib.hid hCl
    obtain ⟨oP, cP, hvp, _, hcP⟩ := Sl.slice hI.vols.vcs
    rw [hCl] at hvp
    subst hvp
    clear hI hCl
    by_cases hlt : j < n
    · have dz : decide (j < n) = true := decide_eq_true hlt
      have hjS : j < st.v.length := by rw [HN.out]; exact hlt
      obtain ⟨b, off, hpo, hat⟩ := (HVS.out.up HI.out.up).at (fun e => by rw [e] at hjS; simp at hjS)
      subst hpo
      obtain ⟨e1, u, e2, e3⟩ := hat j hjS
      obtain ⟨oU, cU, hu1, hu2, hu3⟩ := e3.slice
      subst hu1
      have hL := H32.out st.v[j] (List.getElem_mem hjS)
      have HRD := Lib.hid (fun W (hW : Up wr W) => roomy_anyD oU st.v[j].bl.length cU st.v[j].bl mkN W (e3.up hW) (by omega))
      unfold idV mkN RoomPostD at HRD
      simp only at HRD
      have HTK : Hid (st.v.take (j + 1) = st.v.take j ++ [st.v[j]]) := List.take_succ_eq_append_getElem hjS
      obtain ⟨VJ, hVJ⟩ : ∃ VJ, st.v[j] = VJ := ⟨_, rfl⟩
      rw [hVJ] at e1 e2 e3 hL HRD HTK
      have HSN := Lib.hid (fun W g (hc : CVs W w.heap.size C (st.v.take j)) (hg : w.heap.size ≤ g) (hr : RowD W g (fl idC VJ.bl ++ mkCD mkN 3)) (hf : ∀ k (hk : k < C.length), C[k].sl.ownBlock ≠ some g) => hc.snoc (x := VJ) hg hr hf)
      generalize hNM : bs VJ.nm = NM at e1
      have HNM := Lib.hid hNM
      obtain ⟨L, hLL⟩ : ∃ L, VJ.bl.length = L := ⟨_, rfl⟩
      rw [hLL] at e2 hL HRD HSN
      have HLL := Lib.hid hLL
      clear hat hu2 hu3 e3 hVJ hNM hLL
      go_upto_region 5 with (fail)
      have HUP := Lib.hid (Up.alloc wr (.cells #[.string NM, .slice oU L cU] 62))
      have HQ : Hid (RowC (wr.alloc (.cells #[.string NM, .slice oU L cU] 62)) wr.heap.size 62 [.string NM, .slice oU L cU]) := heap_alloc_new wr _
      generalize wr.alloc (.cells #[.string NM, .slice oU L cU] 62) = W5 at HUP HQ ⊢
      generalize wr.heap.size = Q at HQ ⊢
      have hwr := HUP.out.size
      have HFR : Hid (∀ g, W5.drew.heap.size ≤ g → ∀ k (hk : k < C.length), C[k].sl.ownBlock ≠ some g) := by
        intro g hg k hk e
        obtain ⟨gk, a, _, c⟩ := HI.out.cvs.bl k (by rw [← HI.out.cvs.len]; exact hk) hk
        rw [a] at e
        have e4 : gk = g := Option.some.inj e
        have h9 := RowD.lt c
        have h8 : W5.heap.size ≤ g := hg
        omega
      clear hwr
      have HZ5 := Lib.hid (HI.out.zx.up HUP.out)
      have HV5 := Lib.hid (own_up HI.out.vols HUP.out)
      have HU5 := Lib.hid (HI.out.up.trans HUP.out)
      have HO1 : Hid (∀ g, ∀ u ∈ [Value.string NM, .slice (some ⟨g, 0, none⟩) L (L + 3)], u.oneCell' = true) := by
        intro g u hu
        simp at hu
        rcases hu with rfl | rfl <;> rfl
      have hz1 := HZ5.out.cell (j := 1) rfl
      have hq0 := HQ.out.cell (j := 0) rfl
      have hq1 := HQ.out.cell (j := 1) rfl
      have hz1d : W5.drew.cell? ⟨Z, 1, none⟩ = some (.slice oP j cP) := hz1
      have hq0d : W5.drew.cell? ⟨Q, 0, none⟩ = some (.string NM) := hq0
      have hq1d : W5.drew.cell? ⟨Q, 1, none⟩ = some (.slice oU L cU) := hq1
      clear e1 e2
      go_region_law (first
        | (go_simp; go_at_call 47; ((with_reducible refine (HRD.out _ (HUP.out.trans (Up.drew _))).mono ?_); rintro e w4 ⟨g, rfl, hge, hrd, u4⟩; have h5 : Up W5 w4 := (Up.drew _).trans u4; have hu4 : Up w w4 := HU5.out.trans h5; have hz4 := HZ5.out.up h5; have hv4 : w4.ownsRow w.heap.size 62 2 (.slice oP j cP) j (fl vcC C) := (by have h9 := own_up HV5.out h5; rw [HCL.out] at h9; exact h9); have a1 := own_up hv4 (Up.alloc w4 (.cells #[.string NM, .slice (some ⟨g, 0, none⟩) L (L + 3)] 62)); have a2 := cell_two_newO w4 (.string NM) (.slice (some ⟨g, 0, none⟩) L (L + 3)) 62; have a3 := HO1.out g; have a4 := (hu4.trans (Up.alloc w4 (.cells #[.string NM, .slice (some ⟨g, 0, none⟩) L (L + 3)] 62))).size; have a5 := hz4.up (Up.alloc w4 (.cells #[.string NM, .slice (some ⟨g, 0, none⟩) L (L + 3)] 62)); have z4 := hz4.cell (j := 1) rfl; have q4 := (HQ.out.up h5).cell (j := 0) rfl; have z5 := (hz4.up (Up.alloc w4 (.cells #[.string NM, .slice (some ⟨g, 0, none⟩) L (L + 3)] 62))).cell (j := 1) rfl))
        | (refine step_append_lies _ rfl (.tmp 19) (.tmp 27) 29 rfl w.heap.size 62 i0 (.agg #[.string ⟨#[]⟩, .slice none 0 0]) 2 40 Try.underlying29 HI0.out HZ0.out HZ1.out HZ2.out rfl (by decide) (.slice oP j cP) j (fl vcC C) (by simp [Act.eval]) a1 ⟨w4.heap.size, 0, none⟩ 1 1 [.string NM, .slice (some ⟨g, 0, none⟩) L (L + 3)] (by simp [Act.eval]) rfl a2 a3 (by omega) (by unfold maxLen; omega) (by omega) a4 _ rfl ?_; intro gA cA wA hA hgA hatA hltA; have hzA : RowC wA Z 31 [.slice (some ⟨gB, 0, none⟩) M (M + 3), .slice oP j cP] := a5.growK hgA (RowC.notOwnC a5 a1 (by decide)); have zA := hzA.cell (j := 1) rfl; have zF := hzA.frozen 1))
      all_goals
        have hst := CyI.step (VJ := VJ) (g := g) ((HI.out.upW (HUP.out.trans h5)).upW (Up.alloc w4 (.cells #[.string NM, .slice (some ⟨g, 0, none⟩) L (L + 3)] 62))) HCL.out (Nat.le_trans HU5.out.size hge) (RowD.up hrd (Up.alloc _ _)) (HFR.out g hge) HTK.out (by rw [HNM.out, HLL.out]; exact hA) hgA HXZ.out HRZ.out HZW.out
        rw [HLL.out] at hst
        have HST := Lib.hid hst
        clear hst hA hgA hatA hltA hzA zA zF a1 a2 a3 a4 a5 z4 q4 z5 hz4 hv4 hu4 h5 u4 hrd
        go_wp2_with fail
        go_roundw
        case rel => exact ⟨j + 1, _, _, by omega, by go_num, HST.out⟩
        case measure => simp only [intOf]; omega
    · have dz : decide (j < n) = false := decide_eq_false hlt
      have hjn : j = n := by omega
      subst hjn
      have r0 := HI.out.rx.frozen 0
      have r1 := HI.out.rx.frozen 1
      have r2 := HI.out.rx.cell (j := 0) rfl
      have r3 := HI.out.rx.cell (j := 1) rfl
      have z0 := HI.out.zx.cell (j := 0) rfl
      have z1 := HI.out.zx.cell (j := 1) rfl
      go_wp2_with fail
      have hz := (HI.out.rx.set 0 (.slice (some ⟨gB, 0, none⟩) M (M + 3))).set 1 (.slice oP j cP)
      have z5 := hz.cell (j := 0) rfl
      have z6 := hz.cell (j := 1) rfl
      have hI2 := HI.out
      rw [← HM.out] at hI2
      have hfin := hI2.fin (a := .slice (some ⟨gB, 0, none⟩) M (M + 3)) (b := .slice oP j cP) (by rw [List.take_of_length_le (by rw [HN.out]; omega)]) HGB.out HRW.out
      rw [HM.out] at hfin
      have HF := Lib.hid hfin
      clear hfin hI2 hz
      generalize (wr.setCell ⟨R, 0, none⟩ (.slice (some ⟨gB, 0, none⟩) M (M + 3))).setCell ⟨R, 1, none⟩ (.slice oP j cP) = WZ at z5 z6 HF ⊢
      exact bodyPost_ret (v := .agg #[.slice (some ⟨gB, 0, none⟩) M (M + 3), .slice oP j cP]) (by simp [results, Try.results18, go_sem, z5, z6]) rfl ⟨_, rfl, HF.out.1, HF.out.2⟩

end Go.Proofs.Ytnmdfdkagkpcaaa
