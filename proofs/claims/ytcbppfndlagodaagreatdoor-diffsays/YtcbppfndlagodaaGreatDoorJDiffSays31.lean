/-
  The texts SetS, Diff2, one behind the other; each says below what it holds and on what conditions.
-/
import Derived.Test.YtcbppfndlagodaaGreatDoorJDiffSays20
import Derived.Test.YtcbppfndlagodaaGreatDoorJDiffSays29
import Derived.Test.YtcbppfndlagodaaGreatDoorJDiffSays30
import Derived.Test.YtcbppfndlagodaaGreatDoorJDiffSays24
import Derived.Deep.QuietTactic
import Derived.BigQuiet

/-
  States laid into boxes of two slices: what reads as a state before reads so behind. Conditions: as each says.
-/
namespace Go.Proofs.YtcbppfndlagodaaGreatDoor
open Go.RowKit
open Go.Proofs
open WoolBag
open WoolVol

theorem own_slice {w : World} {base n m : Nat} {T : TypeId} {v : Value} {L : List Value} (h : w.ownsRow base T m v n L) : ∃ o c, v = .slice o n c := by
  obtain ⟨o, c, e, _, _⟩ := Sl.slice (Sl.of_own h)
  exact ⟨o, c, e⟩

theorem Up.trans' {a b c : World} (h : Up a b) (k : Below a.heap.size b c) : Up a c := Below.trans h k

def RdEPost (w : World) (r : Sta × Int) (e : Ending) (w' : World) : Prop := ∃ v', e = .returned (.tuple #[v', .int .i64 r.2]) ∧ Stat w' v' r.1 ∧ Up w w'

/-- is it a slice? -/
def isSl : Value → Bool
  | .slice .. => true
  | _ => false

theorem cell_sl {w : World} {X T off : Nat} {a b u : Value} (hr : RowC w X T [a, b]) (ha : isSl a = true) (hb : isSl b = true) (hc : w.cell? ⟨X, off, none⟩ = some u) : isSl u = true := by
  rw [hr.at] at hc
  match off, hc with
  | 0, hc => simp at hc; rw [← hc]; exact ha
  | 1, hc => simp at hc; rw [← hc]; exact hb
  | n + 2, hc => simp at hc

theorem cell_apart {w : World} {X T i bb off : Nat} {a b u u0 y : Value} {o0 : Nat} (hr : RowC w X T [a, b]) (ha : isSl a = true) (hb : isSl b = true) (h0 : w.cell? ⟨bb, o0, none⟩ = some u0) (hu : isSl u0 = false) (hc : w.cell? ⟨bb, off, none⟩ = some u) : (w.setCell ⟨X, i, none⟩ y).cell? ⟨bb, off, none⟩ = some u := by
  have hne : bb ≠ X := by
    rintro rfl
    have := cell_sl hr ha hb h0
    rw [hu] at this; cases this
  exact (World.cell?_setCell_far _ _ _ _ (fun e => hne e.symm)).trans hc

theorem Sl.setS {w : World} {m n X T i : Nat} {v y a b : Value} {L : List Value} (h : Sl w m v n L) (hr : RowC w X T [a, b]) (ha : isSl a = true) (hb : isSl b = true) (h0 : ∀ u, L[0]? = some u → isSl u = false) : Sl (w.setCell ⟨X, i, none⟩ y) m v n L := by
  obtain ⟨e, o, c, rfl, h2, h3, h4⟩ := h
  refine ⟨e, o, c, rfl, h2, h3, ?_⟩
  rcases h4 with h4 | ⟨bb, off, rfl, h6⟩
  · exact .inl h4
  · refine .inr ⟨bb, off, rfl, fun j u hj => ?_⟩
    have hl : 0 < L.length := Nat.lt_of_le_of_lt (Nat.zero_le _) (List.getElem?_eq_some_iff.1 hj).1
    have hu0 : L[0]? = some L[0] := List.getElem?_eq_getElem hl
    exact cell_apart hr ha hb (h6 0 _ hu0) (h0 _ hu0) (h6 j u hj)

theorem Ids.setS {w : World} {X T i : Nat} {v y a b : Value} {l : List Idn} (h : Ids w v l) (hr : RowC w X T [a, b]) (ha : isSl a = true) (hb : isSl b = true) : Ids (w.setCell ⟨X, i, none⟩ y) v l := by
  refine Sl.setS h hr ha hb ?_
  intro u hu
  cases l with
  | nil => simp [fl] at hu
  | cons x r => simp [fl, idC] at hu; rw [← hu]; rfl

theorem Vols.setS {w : World} {X T i : Nat} {v y a b : Value} {l : List Vo} (h : Vols w v l) (hr : RowC w X T [a, b]) (ha : isSl a = true) (hb : isSl b = true) : Vols (w.setCell ⟨X, i, none⟩ y) v l := by
  obtain ⟨C, h1, h2⟩ := h
  refine ⟨C, Sl.setS h1 hr ha hb ?_, ⟨h2.len, h2.nm, fun k hk => (h2.bl k hk).setS hr ha hb⟩⟩
  intro u hu
  cases C with
  | nil => simp [fl] at hu
  | cons x r => simp [fl, vcC] at hu; rw [← hu]; rfl

theorem Items.setS {w : World} {X T i : Nat} {v y a b : Value} {l : List Itm} (h : Items w v l) (hr : RowC w X T [a, b]) (ha : isSl a = true) (hb : isSl b = true) : Items (w.setCell ⟨X, i, none⟩ y) v l := by
  obtain ⟨o, c, h1, h2, h3, h4⟩ := h
  refine ⟨o, c, h1, h2, h3, ?_⟩
  rcases h4 with h4 | ⟨bb, off, h5, h6⟩
  · exact .inl h4
  · refine .inr ⟨bb, off, h5, fun k hk => ?_⟩
    obtain ⟨a1, a2, a3, a4⟩ := h6 k hk
    exact ⟨cell_apart hr ha hb a1 rfl a1, cell_apart hr ha hb a1 rfl a2, cell_apart hr ha hb a1 rfl a3, cell_apart hr ha hb a1 rfl a4⟩

theorem Stat.setS {w : World} {X T i : Nat} {v y a b : Value} {st : Sta} (h : Stat w v st) (hr : RowC w X T [a, b]) (ha : isSl a = true) (hb : isSl b = true) : Stat (w.setCell ⟨X, i, none⟩ y) v st := by
  obtain ⟨vb, vv, h1, h2, h3⟩ := h
  exact ⟨vb, vv, h1, h2.setS hr ha hb, h3.setS hr ha hb⟩

/-- a state laid into a box of two slices -/
theorem Stat.boxed {w : World} {R T : Nat} {v x y a b : Value} {st : Sta} (h : Stat w v st) (hr : RowC w R T [a, b]) (ha : isSl a = true) (hb : isSl b = true) (hx : isSl x = true) : Stat ((w.setCell ⟨R, 0, none⟩ x).setCell ⟨R, 1, none⟩ y) v st :=
  (h.setS hr ha hb).setS (show RowC _ R T [x, b] from hr.set 0 x) hx hb

theorem up2 {w W : World} {R : Nat} {x y : Value} (h : Up w W) (hR : w.heap.size ≤ R) : Up w ((W.setCell ⟨R, 0, none⟩ x).setCell ⟨R, 1, none⟩ y) :=
  (Below.setCell (show Below w.heap.size w W from h) (p := ⟨R, 0, none⟩) hR _).setCell (p := ⟨R, 1, none⟩) hR _

end Go.Proofs.YtcbppfndlagodaaGreatDoor

/-
  What diff's copyBlock and Copy return. Conditions: a state that can be read.
-/
namespace Go.Proofs.YtcbppfndlagodaaGreatDoor
open Go.RowKit
open Go.Proofs
open WoolBag
open WoolVol

set_option maxRecDepth 100000 in
set_option maxHeartbeats 1000000 in
theorem copyBlock_any (v : Value) (st0 cur : Sta) (kf j : Nat) (a b : List UInt8) (w : World) (h : Stat w v cur) (hI : CpI st0 kf cur) (g0 : WoolVol.Good FP st0) (hx : vix (nmB a) st0.v = some kf) (hk : kf < st0.v.length) (hj : j < st0.v[kf].bl.length) :
    Calls Tryz.prog 41 #[v, .string (bs a), .string (bs b), .int .i64 (j : Int), .bool st0.v[kf].bl[j].1] w (RdEPost w (cpStep st0 kf b cur (j : Int))) := by
  have hwf := good_wf hI.good
  have HRD := Lib.hid (fun W (hW : Up w W) => read_any v cur a (j : Int) W (h.up hW) hwf)
  have HTR := Lib.hid (fun W (hW : Up w W) => trim_any v cur b (j : Int) W (h.up hW) hwf)
  have HWR := Lib.hid (fun t W (hW : Up w W) => write_any v cur b t (j : Int) W (h.up hW) hwf)
  unfold readVR at HRD
  rw [hI.read hx hk hj] at HRD
  have his := tx_is g0 hk hj
  obtain ⟨RS, hRS⟩ : ∃ RS, cpStep st0 kf b cur (j : Int) = RS := ⟨_, rfl⟩
  rw [hRS]
  unfold cpStep at hRS
  rw [Int.toNat_natCast] at hRS
  unfold StEPost at HTR HWR
  obtain ⟨vb, vv, rfl, hb, hv⟩ := h
  obtain ⟨oB, cB, rfl, _⟩ := hb.slice
  obtain ⟨oV, cV, rfl, _, _⟩ := hv.slice
  clear hb hv hwf hI g0 hx
  generalize cur.b.length = M at *
  generalize cur.v.length = N at *
  have HR : Hid (RowC ((w.alloc (.cells #[.slice oB M cB, .slice oV N cV] 25)).alloc (.cells #[.slice none 0 0, .slice none 0 0] 25)) (w.heap.size + 1) 25 [.slice none 0 0, .slice none 0 0]) := box_new w _ _ _ _
  have HA : Hid (RowC ((w.alloc (.cells #[.slice oB M cB, .slice oV N cV] 25)).alloc (.cells #[.slice none 0 0, .slice none 0 0] 25)) w.heap.size 25 [.slice oB M cB, .slice oV N cV]) := RowC.up (heap_alloc_new w _) (Up.alloc _ _)
  have HW0 : Hid (Up w ((w.alloc (.cells #[.slice oB M cB, .slice oV N cV] 25)).alloc (.cells #[.slice none 0 0, .slice none 0 0] 25))) := (Up.alloc _ _).trans (Up.alloc _ _)
  cases ht : txAt st0 kf j with
  | none =>
    rw [ht] at his hRS
    have hfalse : st0.v[kf].bl[j].1 = false := his.symm
    rw [hfalse]
    simp only at hRS
    rw [hRS] at HTR
    clear hRS his ht hfalse HRD HWR
    go_enter Tryz.func41, Tryz.ntmps41
    go_wp2_with fail
    generalize ((w.alloc (.cells #[.slice oB M cB, .slice oV N cV] 25)).alloc (.cells #[.slice none 0 0, .slice none 0 0] 25)) = W0 at HR HA HW0 ⊢
    refine (HTR.out _ HW0.out).mono ?_
    rintro e w5 ⟨v5, rfl, ho5, u5⟩
    have HS5 := Lib.hid ho5.stat
    obtain ⟨o5, c5, o6, c6, rfl, _, _, _⟩ := ho5.slices
    have HR5 := Lib.hid (HR.out.up u5)
    have HU5 := Lib.hid (HW0.out.trans u5)
    have r0 := HR5.out.frozen 0
    have r1 := HR5.out.frozen 1
    have r2 := HR5.out.cell (j := 0) rfl
    have r3 := HR5.out.cell (j := 1) rfl
    clear u5 ho5
    go_wp2_with fail
    have hz := (HR5.out.set 0 (.slice o5 RS.1.b.length c5)).set 1 (.slice o6 RS.1.v.length c6)
    have z0 := hz.cell (j := 0) rfl
    have z1 := hz.cell (j := 1) rfl
    have HSZ := Lib.hid (Stat.boxed (x := .slice o5 RS.1.b.length c5) (y := .slice o6 RS.1.v.length c6) HS5.out HR5.out rfl rfl rfl)
    have HUZ : Hid (Up w ((w5.setCell ⟨w.heap.size + 1, 0, none⟩ (.slice o5 RS.1.b.length c5)).setCell ⟨w.heap.size + 1, 1, none⟩ (.slice o6 RS.1.v.length c6))) := up2 HU5.out (by omega)
    generalize (w5.setCell ⟨w.heap.size + 1, 0, none⟩ (.slice o5 RS.1.b.length c5)).setCell ⟨w.heap.size + 1, 1, none⟩ (.slice o6 RS.1.v.length c6) = WZ at z0 z1 HSZ HUZ ⊢
    exact bodyPost_ret (v := .tuple #[.agg #[.slice o5 RS.1.b.length c5, .slice o6 RS.1.v.length c6], .int .i64 RS.2]) (by simp [results, Tryz.results41, go_sem, z0, z1]) rfl ⟨_, rfl, HSZ.out, HUZ.out⟩
  | some t =>
    rw [ht] at his hRS HRD
    have htrue : st0.v[kf].bl[j].1 = true := his.symm
    rw [htrue]
    simp only [Option.getD_some] at hRS HRD
    have HWT := Lib.hid (HWR.out t)
    rw [hRS] at HWT
    clear hRS his ht htrue HTR HWR
    go_enter Tryz.func41, Tryz.ntmps41
    go_wp2_with fail
    generalize ((w.alloc (.cells #[.slice oB M cB, .slice oV N cV] 25)).alloc (.cells #[.slice none 0 0, .slice none 0 0] 25)) = W0 at HR HA HW0 ⊢
    refine (HRD.out _ HW0.out).mono ?_
    rintro e w1 ⟨rfl, u1⟩
    have HA1 := Lib.hid (HA.out.up u1)
    have HR1 := Lib.hid (HR.out.up u1)
    have HU1 := Lib.hid (HW0.out.trans u1)
    have q0 := HA1.out.cell (j := 0) rfl
    have q1 := HA1.out.cell (j := 1) rfl
    clear u1
    go_wp2_with fail
    refine (HWT.out _ HU1.out).mono ?_
    rintro e w5 ⟨v5, rfl, ho5, u5⟩
    have HS5 := Lib.hid ho5.stat
    obtain ⟨o5, c5, o6, c6, rfl, _, _, _⟩ := ho5.slices
    have HR5 := Lib.hid (HR1.out.up u5)
    have HU5 := Lib.hid (HU1.out.trans u5)
    have r0 := HR5.out.frozen 0
    have r1 := HR5.out.frozen 1
    have r2 := HR5.out.cell (j := 0) rfl
    have r3 := HR5.out.cell (j := 1) rfl
    clear u5 ho5 q0 q1
    go_wp2_with fail
    have hz := (HR5.out.set 0 (.slice o5 RS.1.b.length c5)).set 1 (.slice o6 RS.1.v.length c6)
    have z0 := hz.cell (j := 0) rfl
    have z1 := hz.cell (j := 1) rfl
    have HSZ := Lib.hid (Stat.boxed (x := .slice o5 RS.1.b.length c5) (y := .slice o6 RS.1.v.length c6) HS5.out HR5.out rfl rfl rfl)
    have HUZ : Hid (Up w ((w5.setCell ⟨w.heap.size + 1, 0, none⟩ (.slice o5 RS.1.b.length c5)).setCell ⟨w.heap.size + 1, 1, none⟩ (.slice o6 RS.1.v.length c6))) := up2 HU5.out (by omega)
    generalize (w5.setCell ⟨w.heap.size + 1, 0, none⟩ (.slice o5 RS.1.b.length c5)).setCell ⟨w.heap.size + 1, 1, none⟩ (.slice o6 RS.1.v.length c6) = WZ at z0 z1 HSZ HUZ ⊢
    exact bodyPost_ret (v := .tuple #[.agg #[.slice o5 RS.1.b.length c5, .slice o6 RS.1.v.length c6], .int .i64 RS.2]) (by simp [results, Tryz.results41, go_sem, z0, z1]) rfl ⟨_, rfl, HSZ.out, HUZ.out⟩

end Go.Proofs.YtcbppfndlagodaaGreatDoor
