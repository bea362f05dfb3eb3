/-
  What diff's copyBlock and Copy return. Conditions: a state that can be read.
-/
import Derived.Test.YtjmmifanaffegaaGreatDoorJ29
import Derived.Test.YtjmmifanaffegaaGreatDoorDiff1
import Derived.Test.YtjmmifanaffegaaGreatDoorRefVolA
namespace Go.Proofs.YtjmmifanaffegaaGreatDoor
open Go.RowKit
open Go.Proofs
open WoolBag
open WoolVol

set_option maxRecDepth 100000 in
set_option maxHeartbeats 1000000 in
theorem copyBlock_any (v : Value) (st0 cur : Sta) (kf j : Nat) (a b : List UInt8) (w : World) (h : Stat w v cur) (hI : CpI st0 kf cur) (g0 : WoolVol.Good FP st0) (hx : vix (nmB a) st0.v = some kf) (hk : kf < st0.v.length) (hj : j < st0.v[kf].bl.length) :
    Calls Tryz.prog 41 #[v, .string (bs a), .string (bs b), .int .i64 (j : Int), .bool st0.v[kf].bl[j].1] w (RdEPost w (cpStep st0 kf b cur (j : Int))) := by
  have hwf := good_wf hI.good
  have HRD := Lib.hid (fun W (hW : Up w W) => read_any v cur a (j : Int) W (h.up hW) hwf)
  have HTR := Lib.hid (fun W (hW : Up w W) => trim_any v cur b (j : Int) W (h.up hW) hwf)
  have HWR := Lib.hid (fun t W (hW : Up w W) => write_any v cur b t (j : Int) W (h.up hW) hwf)
  unfold readVR at HRD
  rw [hI.read hx hk hj] at HRD
  have his := tx_is g0 hk hj
  obtain ⟨RS, hRS⟩ : ∃ RS, cpStep st0 kf b cur (j : Int) = RS := ⟨_, rfl⟩
  rw [hRS]
  unfold cpStep at hRS
  rw [Int.toNat_natCast] at hRS
  unfold StEPost at HTR HWR
  obtain ⟨vb, vv, rfl, hb, hv⟩ := h
  obtain ⟨oB, cB, rfl, _⟩ := hb.slice
  obtain ⟨oV, cV, rfl, _, _⟩ := hv.slice
  clear hb hv hwf hI g0 hx
  generalize cur.b.length = M at *
  generalize cur.v.length = N at *
  have HR : Hid (RowC ((w.alloc (.cells #[.slice oB M cB, .slice oV N cV] 25)).alloc (.cells #[.slice none 0 0, .slice none 0 0] 25)) (w.heap.size + 1) 25 [.slice none 0 0, .slice none 0 0]) := box_new w _ _ _ _
  have HA : Hid (RowC ((w.alloc (.cells #[.slice oB M cB, .slice oV N cV] 25)).alloc (.cells #[.slice none 0 0, .slice none 0 0] 25)) w.heap.size 25 [.slice oB M cB, .slice oV N cV]) := RowC.up (heap_alloc_new w _) (Up.alloc _ _)
  have HW0 : Hid (Up w ((w.alloc (.cells #[.slice oB M cB, .slice oV N cV] 25)).alloc (.cells #[.slice none 0 0, .slice none 0 0] 25))) := (Up.alloc _ _).trans (Up.alloc _ _)
  cases ht : txAt st0 kf j with
  | none =>
    rw [ht] at his hRS
    have hfalse : st0.v[kf].bl[j].1 = false := his.symm
    rw [hfalse]
    simp only at hRS
    rw [hRS] at HTR
    clear hRS his ht hfalse HRD HWR
    go_enter Tryz.func41, Tryz.ntmps41
    go_wp2_with fail
    generalize ((w.alloc (.cells #[.slice oB M cB, .slice oV N cV] 25)).alloc (.cells #[.slice none 0 0, .slice none 0 0] 25)) = W0 at HR HA HW0 ⊢
    refine (HTR.out _ HW0.out).mono ?_
    rintro e w5 ⟨v5, rfl, ho5, u5⟩
    have HS5 := Lib.hid ho5.stat
    obtain ⟨o5, c5, o6, c6, rfl, _, _, _⟩ := ho5.slices
    have HR5 := Lib.hid (HR.out.up u5)
    have HU5 := Lib.hid (HW0.out.trans u5)
    have r0 := HR5.out.frozen 0
    have r1 := HR5.out.frozen 1
    have r2 := HR5.out.cell (j := 0) rfl
    have r3 := HR5.out.cell (j := 1) rfl
    clear u5 ho5
    go_wp2_with fail
    have hz := (HR5.out.set 0 (.slice o5 RS.1.b.length c5)).set 1 (.slice o6 RS.1.v.length c6)
    have z0 := hz.cell (j := 0) rfl
    have z1 := hz.cell (j := 1) rfl
    have HSZ := Lib.hid (Stat.boxed (x := .slice o5 RS.1.b.length c5) (y := .slice o6 RS.1.v.length c6) HS5.out HR5.out rfl rfl rfl)
    have HUZ : Hid (Up w ((w5.setCell ⟨w.heap.size + 1, 0, none⟩ (.slice o5 RS.1.b.length c5)).setCell ⟨w.heap.size + 1, 1, none⟩ (.slice o6 RS.1.v.length c6))) := up2 HU5.out (by omega)
    generalize (w5.setCell ⟨w.heap.size + 1, 0, none⟩ (.slice o5 RS.1.b.length c5)).setCell ⟨w.heap.size + 1, 1, none⟩ (.slice o6 RS.1.v.length c6) = WZ at z0 z1 HSZ HUZ ⊢
    exact bodyPost_ret (v := .tuple #[.agg #[.slice o5 RS.1.b.length c5, .slice o6 RS.1.v.length c6], .int .i64 RS.2]) (by simp [results, Tryz.results41, go_sem, z0, z1]) rfl ⟨_, rfl, HSZ.out, HUZ.out⟩
  | some t =>
    rw [ht] at his hRS HRD
    have htrue : st0.v[kf].bl[j].1 = true := his.symm
    rw [htrue]
    simp only [Option.getD_some] at hRS HRD
    have HWT := Lib.hid (HWR.out t)
    rw [hRS] at HWT
    clear hRS his ht htrue HTR HWR
    go_enter Tryz.func41, Tryz.ntmps41
    go_wp2_with fail
    generalize ((w.alloc (.cells #[.slice oB M cB, .slice oV N cV] 25)).alloc (.cells #[.slice none 0 0, .slice none 0 0] 25)) = W0 at HR HA HW0 ⊢
    refine (HRD.out _ HW0.out).mono ?_
    rintro e w1 ⟨rfl, u1⟩
    have HA1 := Lib.hid (HA.out.up u1)
    have HR1 := Lib.hid (HR.out.up u1)
    have HU1 := Lib.hid (HW0.out.trans u1)
    have q0 := HA1.out.cell (j := 0) rfl
    have q1 := HA1.out.cell (j := 1) rfl
    clear u1
    go_wp2_with fail
    refine (HWT.out _ HU1.out).mono ?_
    rintro e w5 ⟨v5, rfl, ho5, u5⟩
    have HS5 := Lib.hid ho5.stat
    obtain ⟨o5, c5, o6, c6, rfl, _, _, _⟩ := ho5.slices
    have HR5 := Lib.hid (HR1.out.up u5)
    have HU5 := Lib.hid (HU1.out.trans u5)
    have r0 := HR5.out.frozen 0
    have r1 := HR5.out.frozen 1
    have r2 := HR5.out.cell (j := 0) rfl
    have r3 := HR5.out.cell (j := 1) rfl
    clear u5 ho5 q0 q1
    go_wp2_with fail
    have hz := (HR5.out.set 0 (.slice o5 RS.1.b.length c5)).set 1 (.slice o6 RS.1.v.length c6)
    have z0 := hz.cell (j := 0) rfl
    have z1 := hz.cell (j := 1) rfl
    have HSZ := Lib.hid (Stat.boxed (x := .slice o5 RS.1.b.length c5) (y := .slice o6 RS.1.v.length c6) HS5.out HR5.out rfl rfl rfl)
    have HUZ : Hid (Up w ((w5.setCell ⟨w.heap.size + 1, 0, none⟩ (.slice o5 RS.1.b.length c5)).setCell ⟨w.heap.size + 1, 1, none⟩ (.slice o6 RS.1.v.length c6))) := up2 HU5.out (by omega)
    generalize (w5.setCell ⟨w.heap.size + 1, 0, none⟩ (.slice o5 RS.1.b.length c5)).setCell ⟨w.heap.size + 1, 1, none⟩ (.slice o6 RS.1.v.length c6) = WZ at z0 z1 HSZ HUZ ⊢
    exact bodyPost_ret (v := .tuple #[.agg #[.slice o5 RS.1.b.length c5, .slice o6 RS.1.v.length c6], .int .i64 RS.2]) (by simp [results, Tryz.results41, go_sem, z0, z1]) rfl ⟨_, rfl, HSZ.out, HUZ.out⟩

end Go.Proofs.YtjmmifanaffegaaGreatDoor
