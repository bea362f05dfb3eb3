/-
  The texts VolP, VolF, one behind the other; each says below what it holds and on what conditions.
-/
import Derived.Test.YtcbppfndlagodaaGreatDoorJVolWrites04
import Derived.Test.YtcbppfndlagodaaGreatDoorJVolWrites05
import Derived.Test.YtcbppfndlagodaaGreatDoorJVolWrites18

/-
  Valid states, in plain words: what Check's zero says. Conditions: as each says.
-/
namespace WoolVol
open WoolBag

variable {F : List UInt8 → Int}

/-- a valid state -/
structure Good (F : List UInt8 → Int) (st : Sta) : Prop where
  bag : Bag F st.b
  len : st.v.length ≤ 6
  vol : ∀ v ∈ st.v, nameB v.nm = true ∧ v.bl.length ≤ 32 ∧ ∀ i ∈ v.bl, errB st.b i = 0
  ord : st.v.Pairwise (fun a b => slt a.nm b.nm = true)
  refs : ∀ x ∈ st.b, x.r = cnt (ids st.v) (idOf x)

theorem chkV_zero {l : List Itm} {p : List UInt8} {x : Vo} : chkV l p x = 0 ↔ (nameB x.nm = true ∧ x.bl.length ≤ 32 ∧ ∀ i ∈ x.bl, errB l i = 0) ∧ slt p x.nm = true := by
  unfold chkV
  rw [← sle_not]
  cases hn : nameB x.nm with
  | false => simp
  | true =>
    cases hs : sle x.nm p with
    | true => simp
    | false =>
      simp only [Bool.not_true, Bool.or_self, Bool.false_eq_true, if_false, Bool.not_false, and_true, true_and]
      by_cases h2 : 32 < x.bl.length
      · rw [if_pos h2]
        constructor
        · intro h; omega
        · intro h; omega
      · rw [if_neg h2, chkB_zero]
        constructor
        · intro h; exact ⟨by omega, h⟩
        · intro h; exact h.2

theorem chkVs_zero {l : List Itm} : ∀ {vs : List Vo} {p : List UInt8}, chkVs l p vs = 0 ↔ (∀ v ∈ vs, nameB v.nm = true ∧ v.bl.length ≤ 32 ∧ ∀ i ∈ v.bl, errB l i = 0) ∧ (∀ v ∈ vs, slt p v.nm = true) ∧ vs.Pairwise (fun a b => slt a.nm b.nm = true)
  | [], p => by simp [chkVs]
  | v :: r, p => by
    have e : chkVs l p (v :: r) = 0 ↔ chkV l p v = 0 ∧ chkVs l v.nm r = 0 := by
      have e2 : chkVs l p (v :: r) = if chkV l p v = 0 then chkVs l v.nm r else chkV l p v := rfl
      rw [e2]
      by_cases h : chkV l p v = 0
      · rw [if_pos h]; simp [h]
      · rw [if_neg h]; simp [h]
    rw [e, chkV_zero, chkVs_zero (vs := r)]
    constructor
    · rintro ⟨⟨h1, h2⟩, h3, h4, h5⟩
      refine ⟨?_, ?_, List.pairwise_cons.2 ⟨h4, h5⟩⟩
      · intro x hx
        rcases List.mem_cons.1 hx with rfl | hx
        · exact h1
        · exact h3 x hx
      · intro x hx
        rcases List.mem_cons.1 hx with rfl | hx
        · exact h2
        · exact slt_trans h2 (h4 x hx)
    · rintro ⟨h1, h2, h3⟩
      obtain ⟨h4, h5⟩ := List.pairwise_cons.1 h3
      exact ⟨⟨h1 v (by simp), h2 v (by simp)⟩, fun x hx => h1 x (by simp [hx]), h4, h5⟩

theorem slt_nil {s : List UInt8} (h : nameB s = true) : slt [] s = true := by
  cases s with
  | nil => simp [nameB] at h
  | cons a r => rfl

theorem chkS_zero {st : Sta} : chkS F st = 0 ↔ Good F st := by
  unfold chkS
  constructor
  · intro h
    by_cases h0 : chk F st.b ≠ 0
    · rw [if_pos h0] at h; exact absurd h h0
    rw [if_neg h0] at h
    by_cases h1 : 6 < st.v.length
    · rw [if_pos h1] at h; omega
    rw [if_neg h1] at h
    by_cases h2 : chkVs st.b [] st.v ≠ 0
    · rw [if_pos h2] at h; exact absurd h h2
    rw [if_neg h2] at h
    have h2' : chkVs st.b [] st.v = 0 := by omega
    obtain ⟨a1, _, a3⟩ := chkVs_zero.1 h2'
    refine ⟨(chk_zero F).1 (by omega), by omega, a1, a3, ?_⟩
    cases hr : refsB st.b (ids st.v) with
    | false => rw [hr] at h; simp at h
    | true =>
      unfold refsB at hr
      rw [List.all_eq_true] at hr
      intro x hx
      exact by simpa using hr x hx
  · intro g
    rw [if_neg (by rw [(chk_zero F).2 g.bag]; simp), if_neg (by have := g.len; omega), if_neg (by rw [chkVs_zero.2 ⟨g.vol, fun v hv => slt_nil (g.vol v hv).1, g.ord⟩]; simp), if_pos]
    unfold refsB
    rw [List.all_eq_true]
    intro x hx
    simpa using g.refs x hx

theorem Good.nm_inj {st : Sta} (g : Good F st) {i j : Nat} (hi : i < st.v.length) (hj : j < st.v.length) (e : st.v[i].nm = st.v[j].nm) : i = j := by
  have h := List.pairwise_iff_getElem.1 g.ord
  rcases Nat.lt_trichotomy i j with h1 | h1 | h1
  · have := h i j hi hj h1; rw [e, slt_irrefl] at this; cases this
  · exact h1
  · have := h j i hj hi h1; rw [e, slt_irrefl] at this; cases this

theorem errB_in {l : List Itm} {i : Idn} (h : errB l i = 0) (hi : i.1 = true) : ∃ x ∈ l, i = idOf x := by
  unfold errB at h
  rw [if_neg (by simp [hi])] at h
  cases hh : l.any (idB i) with
  | true =>
    rw [List.any_eq_true] at hh
    obtain ⟨x, hx, hx2⟩ := hh
    exact ⟨x, hx, idB_iff.1 hx2⟩
  | false => rw [hi, hh] at h; simp at h

theorem errB_hole {l : List Itm} {i : Idn} (h : errB l i = 0) (hi : i.1 = false) : i = noId := by
  unfold errB at h
  rw [hi] at h
  cases hh : (i == noId) with
  | true => simpa using hh
  | false => rw [hh] at h; simp at h

end WoolVol

/-
  What vol's Blocks and Read return. Conditions: as each says.
-/
namespace Go.Proofs.YtcbppfndlagodaaGreatDoor
open Go.RowKit
open Go.Proofs
open WoolBag
open WoolVol

theorem vfind_no {st : Sta} {s : List UInt8} (h0 : (vfind FP st s).2 ≠ 0) : (vfind FP st s).1 = 0 := by
  unfold vfind at h0 ⊢
  by_cases h1 : chkS FP st ≠ 0
  · rw [if_pos h1]
  · rw [if_neg h1] at h0 ⊢
    cases hx : vix (nmB s) st.v with
    | none => rfl
    | some k => rw [hx] at h0; simp at h0

def BlPost (st : Sta) (s : List UInt8) (w : World) (e : Ending) (w' : World) : Prop := ∃ v', e = .returned (.tuple #[v', .int .i64 (blocks FP st s).2]) ∧ Ids w' v' (blocks FP st s).1 ∧ Up w w'

set_option maxRecDepth 100000 in
set_option maxHeartbeats 1000000 in
theorem blocks_any (v : Value) (st : Sta) (s : List UInt8) (w : World) (h : Stat w v st) (hwf : WfS st) :
    Calls Tryz.prog 73 #[v, .string (bs s)] w (BlPost st s w) := by
  have HF := Lib.hid (fun W (hW : Up w W) => vfind_any v st s W (h.up hW) hwf)
  obtain ⟨vb, vv, rfl, hb, hv⟩ := h
  have HV := Lib.hid hv
  obtain ⟨oB, cB, rfl, _⟩ := hb.slice
  obtain ⟨oV, cV, rfl, hV1, hV2⟩ := hv.slice
  unfold maxLen at hV2
  clear hb hv hwf
  by_cases h0 : (vfind FP st s).2 = 0
  · obtain ⟨hck, k, hk, hf, _, _⟩ := vfind_ok h0
    have hgood := chkS_zero.1 hck
    have HB : Hid (blocks FP st s = (st.v[k].bl, 0)) := by
      show _ = _
      unfold blocks
      rw [hf, if_neg (by simp), getElem!_pos st.v k hk]
    unfold findVR at HF
    rw [hf] at HF
    obtain ⟨b, off, rfl, h5⟩ := HV.out.at (by intro e; rw [e] at hk; simp at hk)
    obtain ⟨_, u, a2, hids⟩ := h5 k hk
    have hlen := (hgood.vol _ (List.getElem_mem hk)).2.1
    have HCL := Lib.hid (fun W (hW : Up w W) => cloneD_any u st.v[k].bl W (hids.up hW) hlen)
    obtain ⟨o', c', rfl, _, _⟩ := hids.slice
    have hblk := World.block_lt_of_cell? w _ a2
    have A2 := Lib.hid a2
    clear h5 hids HV a2 h0 hf hck hgood hlen
    simp only at HF
    generalize st.b.length = M at *
    obtain ⟨N, hN⟩ : ∃ N, st.v.length = N := ⟨_, rfl⟩
    have hkN : k < N := by omega
    rw [hN] at hV1 HF ⊢
    clear hN
    go_enter Tryz.func73, Tryz.ntmps73
    go_wp2_with fail
    refine (HF.out _ (Up.alloc _ _)).mono ?_
    rintro e w1 ⟨rfl, u1⟩
    have hsz : w.heap.size < (w.alloc (.cells #[.slice oB M cB, .slice (some ⟨b, off, none⟩) N cV] 25)).heap.size := by simp
    have b1 := (Below.cell u1 (p := ⟨w.heap.size, 1, none⟩) hsz).trans (World.cell?_alloc_new w #[.slice oB M cB, .slice (some ⟨b, off, none⟩) N cV] 25 1)
    have HU1 : Hid (Up w w1) := (Up.alloc _ _).trans u1
    have a2 := (HU1.out.cell hblk).trans A2.out
    clear u1 hsz
    go_wp2_with fail
    refine (HCL.out _ HU1.out).mono ?_
    rintro e w2 ⟨v2, rfl, ho2, u2⟩
    have HI2 := Lib.hid ho2.ids
    have HU2 : Hid (Up w w2) := HU1.out.trans u2
    clear ho2 u2
    go_wp2_with fail
    go_ret2
    exact ⟨v2, by rw [HB.out]; rfl, by rw [HB.out]; exact HI2.out, HU2.out⟩
  · obtain ⟨R, hR⟩ : ∃ R, (vfind FP st s).2 = R := ⟨_, rfl⟩
    have hz := vfind_no h0
    have HB : Hid (blocks FP st s = ([], R)) := by
      show _ = _
      unfold blocks
      rw [if_pos h0, hR]
    unfold findVR at HF
    rw [hR, hz] at HF
    rw [hR] at h0
    have hne : (R != 0) = true := by rw [bne_iff_ne]; exact h0
    clear hR hz h0 HV
    generalize st.b.length = M at *
    generalize st.v.length = N at *
    go_enter Tryz.func73, Tryz.ntmps73
    go_wp2_with fail
    refine (HF.out _ (Up.alloc _ _)).mono ?_
    rintro e w1 ⟨rfl, u1⟩
    have HU1 : Hid (Up w w1) := (Up.alloc _ _).trans u1
    clear u1
    go_wp2_with fail
    go_ret2
    exact ⟨_, by rw [HB.out]; rfl, by rw [HB.out]; exact Ids.nil _, HU1.out⟩

theorem vloc_ok {st : Sta} {s : List UInt8} {a : Int} (h : (vloc FP st s a).2 = 0) : WoolVol.Good FP st ∧ ∃ k, ∃ hk : k < st.v.length, ∃ j : Nat, a = (j : Int) ∧ j < st.v[k].bl.length ∧ vloc FP st s a = (k, 0) ∧ st.v[k].nm = s ∧ vix (nmB s) st.v = some k := by
  unfold vloc at h ⊢
  by_cases h0 : (vfind FP st s).2 ≠ 0
  · rw [if_pos h0] at h; exact absurd h h0
  rw [if_neg h0] at h ⊢
  obtain ⟨h1, k, hk, hf, hn, hx⟩ := vfind_ok (by omega : (vfind FP st s).2 = 0)
  rw [hf] at h ⊢
  simp only at h ⊢
  rw [getElem!_pos st.v k hk] at h ⊢
  by_cases h2 : a < 0 ∨ (st.v[k].bl.length : Int) ≤ a
  · rw [if_pos h2] at h; simp at h
  · rw [if_neg h2]
    exact ⟨chkS_zero.1 h1, k, hk, a.toNat, by omega, by omega, rfl, hn, hx⟩

theorem vloc_no {st : Sta} {s : List UInt8} {a : Int} (h0 : (vloc FP st s a).2 ≠ 0) : (vloc FP st s a).1 = 0 := by
  unfold vloc at h0 ⊢
  split
  · rfl
  · rename_i h1
    rw [if_neg h1] at h0
    split
    · rfl
    · rename_i h2
      rw [if_neg h2] at h0
      exact absurd rfl h0

def readVR (st : Sta) (s : List UInt8) (a : Int) : Value := .tuple #[.string (bs (WoolVol.read FP st s a).1), .int .i64 (WoolVol.read FP st s a).2]

set_option maxRecDepth 100000 in
set_option maxHeartbeats 1000000 in
theorem read_any (v : Value) (st : Sta) (s : List UInt8) (a : Int) (w : World) (h : Stat w v st) (hwf : WfS st) :
    Calls Tryz.prog 74 #[v, .string (bs s), .int .i64 a] w fun e w' => e = .returned (readVR st s a) ∧ Up w w' := by
  have HF := Lib.hid (fun W (hW : Up w W) => vloc_any v st s a W (h.up hW) hwf)
  obtain ⟨vb, vv, rfl, hb, hv⟩ := h
  have HV := Lib.hid hv
  have HG := Lib.hid (fun i W (hW : Up w W) => get_any vb st.b i W (hb.up hW))
  obtain ⟨oB, cB, rfl, _⟩ := hb.slice
  obtain ⟨oV, cV, rfl, hV1, hV2⟩ := hv.slice
  unfold maxLen at hV2
  obtain ⟨E, hE⟩ : ∃ E, readVR st s a = E := ⟨_, rfl⟩
  rw [hE]
  unfold readVR WoolVol.read at hE
  have HE := Lib.hid hE
  clear hE hb hv hwf
  by_cases h0 : (vloc FP st s a).2 = 0
  · obtain ⟨hgood, k, hk, j, rfl, hj, hf, _, _⟩ := vloc_ok h0
    have hE := HE.out
    rw [hf, if_neg (by simp)] at hE
    unfold blk at hE
    simp only [Int.toNat_natCast] at hE
    rw [getElem!_pos st.v k hk, getElem!_pos st.v[k].bl j hj] at hE
    have HE2 := Lib.hid hE
    unfold locVR at HF
    rw [hf] at HF
    obtain ⟨b, off, rfl, h5⟩ := HV.out.at (by intro e; rw [e] at hk; simp at hk)
    obtain ⟨_, u, a2, hids⟩ := h5 k hk
    have hlen := (hgood.vol _ (List.getElem_mem hk)).2.1
    obtain ⟨o', c', rfl, hc1, hc2⟩ := hids.slice
    unfold maxLen at hc2
    obtain ⟨b', off', rfl, h6⟩ := hids.at (by intro e; rw [e] at hj; simp at hj)
    obtain ⟨d1, d2, d3⟩ := h6 j hj
    have hblk := World.block_lt_of_cell? w _ a2
    have hblk' := World.block_lt_of_cell? w _ d1
    have A2 := Lib.hid a2
    have DD := Lib.hid (And.intro d1 (And.intro d2 d3))
    have HG2 : Hid (∀ W, Up w W → Calls Tryz.prog 102 #[.slice oB st.b.length cB, .agg #[.bool st.v[k].bl[j].1, .int .i64 st.v[k].bl[j].2.1, .int .i64 st.v[k].bl[j].2.2]] W fun e w' => e = .returned (getBR st.b st.v[k].bl[j]) ∧ Up W w') := HG.out st.v[k].bl[j]
    unfold getBR at HG2
    clear h5 h6 hids HV a2 d1 d2 d3 h0 hf hgood HE hE HG
    simp only at HF
    obtain ⟨L, hL⟩ : ∃ L, st.v[k].bl.length = L := ⟨_, rfl⟩
    rw [hL] at hj hlen hc1 A2
    generalize WoolBag.get FP st.b st.v[k].bl[j] = G at *
    generalize st.v[k].bl[j].1 = xb at *
    generalize st.v[k].bl[j].2.1 = xs at *
    generalize st.v[k].bl[j].2.2 = xn at *
    generalize st.b.length = M at *
    obtain ⟨N, hN⟩ : ∃ N, st.v.length = N := ⟨_, rfl⟩
    have hkN : k < N := by omega
    rw [hN] at hV1 HF ⊢
    clear hN hL
    go_enter Tryz.func74, Tryz.ntmps74
    go_wp2_with fail
    refine (HF.out _ (Up.alloc _ _)).mono ?_
    rintro e w1 ⟨rfl, u1⟩
    have hsz : w.heap.size < (w.alloc (.cells #[.slice oB M cB, .slice (some ⟨b, off, none⟩) N cV] 25)).heap.size := by simp
    have b0 : w1.cell? ⟨w.heap.size, 0, none⟩ = some (.slice oB M cB) := (Below.cell u1 (p := ⟨w.heap.size, 0, none⟩) hsz).trans (World.cell?_alloc_new w #[.slice oB M cB, .slice (some ⟨b, off, none⟩) N cV] 25 0)
    have b1 := (Below.cell u1 (p := ⟨w.heap.size, 1, none⟩) hsz).trans (World.cell?_alloc_new w #[.slice oB M cB, .slice (some ⟨b, off, none⟩) N cV] 25 1)
    have HU1 : Hid (Up w w1) := (Up.alloc _ _).trans u1
    have a2 := (HU1.out.cell hblk).trans A2.out
    have d1 := (HU1.out.cell (p := ⟨b', _, none⟩) hblk').trans DD.out.1
    have d2 := (HU1.out.cell (p := ⟨b', _, none⟩) hblk').trans DD.out.2.1
    have d3 := (HU1.out.cell (p := ⟨b', _, none⟩) hblk').trans DD.out.2.2
    have hne : w.heap.size ≠ w1.heap.size := by have := u1.size; omega
    clear u1 hsz
    cases xb with
    | false =>
      have HE3 : Hid (E = .tuple #[.string (bs []), .int .i64 0]) := by
        have := HE2.out
        rw [if_neg (by simp)] at this
        exact this.symm
      clear HE2
      go_wp2_with fail
      go_ret2
      exact ⟨by rw [HE3.out]; rfl, HU1.out.trans (Up.alloc _ _)⟩
    | true =>
      have HE3 : Hid (E = .tuple #[.string (bs G.1), .int .i64 G.2]) := by
        have := HE2.out
        rw [if_pos rfl] at this
        exact this.symm
      clear HE2
      have b0' := Lib.cell?_alloc_some (.cells #[.bool true, .int .i64 xs, .int .i64 xn] 49) b0
      clear b0
      go_wp2_with fail
      refine (HG2.out _ (HU1.out.trans (Up.alloc _ _))).mono ?_
      rintro e w2 ⟨rfl, u2⟩
      have HU2 : Hid (Up w w2) := (HU1.out.trans (Up.alloc _ _)).trans u2
      clear u2
      go_wp2_with fail
      go_ret2
      exact ⟨by rw [HE3.out]; rfl, HU2.out⟩
  · obtain ⟨R, hR⟩ : ∃ R, (vloc FP st s a).2 = R := ⟨_, rfl⟩
    have hz := vloc_no h0
    have HE3 : Hid (E = .tuple #[.string (bs []), .int .i64 R]) := by
      have := HE.out
      rw [if_pos h0, hR] at this
      exact this.symm
    unfold locVR at HF
    rw [hR, hz] at HF
    rw [hR] at h0
    have hne : (R != 0) = true := by rw [bne_iff_ne]; exact h0
    clear hR hz h0 HV HE HG
    generalize st.b.length = M at *
    generalize st.v.length = N at *
    go_enter Tryz.func74, Tryz.ntmps74
    go_wp2_with fail
    refine (HF.out _ (Up.alloc _ _)).mono ?_
    rintro e w1 ⟨rfl, u1⟩
    have HU1 : Hid (Up w w1) := (Up.alloc _ _).trans u1
    clear u1
    go_wp2_with fail
    go_ret2
    exact ⟨by rw [HE3.out]; rfl, HU1.out⟩

end Go.Proofs.YtcbppfndlagodaaGreatDoor
