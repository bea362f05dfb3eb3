/-
  What vol's Blocks and Read return. Conditions: as each says.
-/
import Derived.Test.YtjmmifanaffegaaVolE
import Derived.Test.YtjmmifanaffegaaVolP
namespace Go.Proofs.Ytjmmifanaffegaa
open Go.RowKit
open Go.Proofs
open WoolBag
open WoolVol

theorem vfind_no {st : Sta} {s : List UInt8} (h0 : (vfind FP st s).2 ≠ 0) : (vfind FP st s).1 = 0 := by
  unfold vfind at h0 ⊢
  by_cases h1 : chkS FP st ≠ 0
  · rw [if_pos h1]
  · rw [if_neg h1] at h0 ⊢
    cases hx : vix (nmB s) st.v with
    | none => rfl
    | some k => rw [hx] at h0; simp at h0

def BlPost (st : Sta) (s : List UInt8) (w : World) (e : Ending) (w' : World) : Prop := ∃ v', e = .returned (.tuple #[v', .int .i64 (blocks FP st s).2]) ∧ Ids w' v' (blocks FP st s).1 ∧ Up w w'

theorem vloc_ok {st : Sta} {s : List UInt8} {a : Int} (h : (vloc FP st s a).2 = 0) : WoolVol.Good FP st ∧ ∃ k, ∃ hk : k < st.v.length, ∃ j : Nat, a = (j : Int) ∧ j < st.v[k].bl.length ∧ vloc FP st s a = (k, 0) ∧ st.v[k].nm = s ∧ vix (nmB s) st.v = some k := by
  unfold vloc at h ⊢
  by_cases h0 : (vfind FP st s).2 ≠ 0
  · rw [if_pos h0] at h; exact absurd h h0
  rw [if_neg h0] at h ⊢
  obtain ⟨h1, k, hk, hf, hn, hx⟩ := vfind_ok (by omega : (vfind FP st s).2 = 0)
  rw [hf] at h ⊢
  simp only at h ⊢
  rw [getElem!_pos st.v k hk] at h ⊢
  by_cases h2 : a < 0 ∨ (st.v[k].bl.length : Int) ≤ a
  · rw [if_pos h2] at h; simp at h
  · rw [if_neg h2]
    exact ⟨chkS_zero.1 h1, k, hk, a.toNat, by omega, by omega, rfl, hn, hx⟩

theorem vloc_no {st : Sta} {s : List UInt8} {a : Int} (h0 : (vloc FP st s a).2 ≠ 0) : (vloc FP st s a).1 = 0 := by
  unfold vloc at h0 ⊢
  split
  · rfl
  · rename_i h1
    rw [if_neg h1] at h0
    split
    · rfl
    · rename_i h2
      rw [if_neg h2] at h0
      exact absurd rfl h0

def readVR (st : Sta) (s : List UInt8) (a : Int) : Value := .tuple #[.string (bs (WoolVol.read FP st s a).1), .int .i64 (WoolVol.read FP st s a).2]

set_option maxRecDepth 100000 in
set_option maxHeartbeats 1000000 in
theorem read_any (v : Value) (st : Sta) (s : List UInt8) (a : Int) (w : World) (h : Stat w v st) (hwf : WfS st) :
    Calls Try.prog 13 #[v, .string (bs s), .int .i64 a] w fun e w' => e = .returned (readVR st s a) ∧ Up w w' := by
  have HF := Lib.hid (fun W (hW : Up w W) => vloc_any v st s a W (h.up hW) hwf)
  obtain ⟨vb, vv, rfl, hb, hv⟩ := h
  have HV := Lib.hid hv
  have HG := Lib.hid (fun i W (hW : Up w W) => get_any vb st.b i W (hb.up hW))
  obtain ⟨oB, cB, rfl, _⟩ := hb.slice
  obtain ⟨oV, cV, rfl, hV1, hV2⟩ := hv.slice
  unfold maxLen at hV2
  obtain ⟨E, hE⟩ : ∃ E, readVR st s a = E := ⟨_, rfl⟩
  rw [hE]
  unfold readVR WoolVol.read at hE
  have HE := Lib.hid hE
  clear hE hb hv hwf
  by_cases h0 : (vloc FP st s a).2 = 0
  · obtain ⟨hgood, k, hk, j, rfl, hj, hf, _, _⟩ := vloc_ok h0
    have hE := HE.out
    rw [hf, if_neg (by simp)] at hE
    unfold blk at hE
    simp only [Int.toNat_natCast] at hE
    rw [getElem!_pos st.v k hk, getElem!_pos st.v[k].bl j hj] at hE
    have HE2 := Lib.hid hE
    unfold locVR at HF
    rw [hf] at HF
    obtain ⟨b, off, rfl, h5⟩ := HV.out.at (by intro e; rw [e] at hk; simp at hk)
    obtain ⟨_, u, a2, hids⟩ := h5 k hk
    have hlen := (hgood.vol _ (List.getElem_mem hk)).2.1
    obtain ⟨o', c', rfl, hc1, hc2⟩ := hids.slice
    unfold maxLen at hc2
    obtain ⟨b', off', rfl, h6⟩ := hids.at (by intro e; rw [e] at hj; simp at hj)
    obtain ⟨d1, d2, d3⟩ := h6 j hj
    have hblk := World.block_lt_of_cell? w _ a2
    have hblk' := World.block_lt_of_cell? w _ d1
    have A2 := Lib.hid a2
    have DD := Lib.hid (And.intro d1 (And.intro d2 d3))
    have HG2 : Hid (∀ W, Up w W → Calls Try.prog 31 #[.slice oB st.b.length cB, .agg #[.bool st.v[k].bl[j].1, .int .i64 st.v[k].bl[j].2.1, .int .i64 st.v[k].bl[j].2.2]] W fun e w' => e = .returned (getBR st.b st.v[k].bl[j]) ∧ Up W w') := HG.out st.v[k].bl[j]
    unfold getBR at HG2
    clear h5 h6 hids HV a2 d1 d2 d3 h0 hf hgood HE hE HG
    simp only at HF
    obtain ⟨L, hL⟩ : ∃ L, st.v[k].bl.length = L := ⟨_, rfl⟩
    rw [hL] at hj hlen hc1 A2
    generalize WoolBag.get FP st.b st.v[k].bl[j] = G at *
    generalize st.v[k].bl[j].1 = xb at *
    generalize st.v[k].bl[j].2.1 = xs at *
    generalize st.v[k].bl[j].2.2 = xn at *
    generalize st.b.length = M at *
    obtain ⟨N, hN⟩ : ∃ N, st.v.length = N := ⟨_, rfl⟩
    have hkN : k < N := by omega
    rw [hN] at hV1 HF ⊢
    clear hN hL
    go_enter Try.func13, Try.ntmps13
    go_wp2_with fail
    refine (HF.out _ (Up.alloc _ _)).mono ?_
    rintro e w1 ⟨rfl, u1⟩
    have hsz : w.heap.size < (w.alloc (.cells #[.slice oB M cB, .slice (some ⟨b, off, none⟩) N cV] 26)).heap.size := by simp
    have b0 : w1.cell? ⟨w.heap.size, 0, none⟩ = some (.slice oB M cB) := (Below.cell u1 (p := ⟨w.heap.size, 0, none⟩) hsz).trans (World.cell?_alloc_new w #[.slice oB M cB, .slice (some ⟨b, off, none⟩) N cV] 26 0)
    have b1 := (Below.cell u1 (p := ⟨w.heap.size, 1, none⟩) hsz).trans (World.cell?_alloc_new w #[.slice oB M cB, .slice (some ⟨b, off, none⟩) N cV] 26 1)
    have HU1 : Hid (Up w w1) := (Up.alloc _ _).trans u1
    have a2 := (HU1.out.cell hblk).trans A2.out
    have d1 := (HU1.out.cell (p := ⟨b', _, none⟩) hblk').trans DD.out.1
    have d2 := (HU1.out.cell (p := ⟨b', _, none⟩) hblk').trans DD.out.2.1
    have d3 := (HU1.out.cell (p := ⟨b', _, none⟩) hblk').trans DD.out.2.2
    have hne : w.heap.size ≠ w1.heap.size := by have := u1.size; omega
    clear u1 hsz
    cases xb with
    | false =>
      have HE3 : Hid (E = .tuple #[.string (bs []), .int .i64 0]) := by
        have := HE2.out
        rw [if_neg (by simp)] at this
        exact this.symm
      clear HE2
      go_wp2_with fail
      go_ret2
      exact ⟨by rw [HE3.out]; rfl, HU1.out.trans (Up.alloc _ _)⟩
    | true =>
      have HE3 : Hid (E = .tuple #[.string (bs G.1), .int .i64 G.2]) := by
        have := HE2.out
        rw [if_pos rfl] at this
        exact this.symm
      clear HE2
      have b0' := Lib.cell?_alloc_some (.cells #[.bool true, .int .i64 xs, .int .i64 xn] 65) b0
      clear b0
      go_wp2_with fail
      refine (HG2.out _ (HU1.out.trans (Up.alloc _ _))).mono ?_
      rintro e w2 ⟨rfl, u2⟩
      have HU2 : Hid (Up w w2) := (HU1.out.trans (Up.alloc _ _)).trans u2
      clear u2
      go_wp2_with fail
      go_ret2
      exact ⟨by rw [HE3.out]; rfl, HU2.out⟩
  · obtain ⟨R, hR⟩ : ∃ R, (vloc FP st s a).2 = R := ⟨_, rfl⟩
    have hz := vloc_no h0
    have HE3 : Hid (E = .tuple #[.string (bs []), .int .i64 R]) := by
      have := HE.out
      rw [if_pos h0, hR] at this
      exact this.symm
    unfold locVR at HF
    rw [hR, hz] at HF
    rw [hR] at h0
    have hne : (R != 0) = true := by rw [bne_iff_ne]; exact h0
    clear hR hz h0 HV HE HG
    generalize st.b.length = M at *
    generalize st.v.length = N at *
    go_enter Try.func13, Try.ntmps13
    go_wp2_with fail
    refine (HF.out _ (Up.alloc _ _)).mono ?_
    rintro e w1 ⟨rfl, u1⟩
    have HU1 : Hid (Up w w1) := (Up.alloc _ _).trans u1
    clear u1
    go_wp2_with fail
    go_ret2
    exact ⟨by rw [HE3.out]; rfl, HU1.out⟩

end Go.Proofs.Ytjmmifanaffegaa
