/-
  The texts VolF, Bag7, one behind the other; each says below what it holds and on what conditions.
-/
import Derived.Test.YtcbppfndlagodaaGreatDoorJVolMakes16
import Derived.Test.YtcbppfndlagodaaGreatDoorJVolMakes11
import Derived.Test.YtcbppfndlagodaaGreatDoorJVolMakes08

/-
  What vol's Blocks and Read return. Conditions: as each says.
-/
namespace Go.Proofs.YtcbppfndlagodaaGreatDoor
open Go.RowKit
open Go.Proofs
open WoolBag
open WoolVol

theorem vfind_no {st : Sta} {s : List UInt8} (h0 : (vfind FP st s).2 ≠ 0) : (vfind FP st s).1 = 0 := by
  unfold vfind at h0 ⊢
  by_cases h1 : chkS FP st ≠ 0
  · rw [if_pos h1]
  · rw [if_neg h1] at h0 ⊢
    cases hx : vix (nmB s) st.v with
    | none => rfl
    | some k => rw [hx] at h0; simp at h0

def BlPost (st : Sta) (s : List UInt8) (w : World) (e : Ending) (w' : World) : Prop := ∃ v', e = .returned (.tuple #[v', .int .i64 (blocks FP st s).2]) ∧ Ids w' v' (blocks FP st s).1 ∧ Up w w'

set_option maxRecDepth 100000 in
set_option maxHeartbeats 1000000 in
theorem blocks_any (v : Value) (st : Sta) (s : List UInt8) (w : World) (h : Stat w v st) (hwf : WfS st) :
    Calls Tryz.prog 73 #[v, .string (bs s)] w (BlPost st s w) := by
  have HF := Lib.hid (fun W (hW : Up w W) => vfind_any v st s W (h.up hW) hwf)
  obtain ⟨vb, vv, rfl, hb, hv⟩ := h
  have HV := Lib.hid hv
  obtain ⟨oB, cB, rfl, _⟩ := hb.slice
  obtain ⟨oV, cV, rfl, hV1, hV2⟩ := hv.slice
  unfold maxLen at hV2
  clear hb hv hwf
  by_cases h0 : (vfind FP st s).2 = 0
  · obtain ⟨hck, k, hk, hf, _, _⟩ := vfind_ok h0
    have hgood := chkS_zero.1 hck
    have HB : Hid (blocks FP st s = (st.v[k].bl, 0)) := by
      show _ = _
      unfold blocks
      rw [hf, if_neg (by simp), getElem!_pos st.v k hk]
    unfold findVR at HF
    rw [hf] at HF
    obtain ⟨b, off, rfl, h5⟩ := HV.out.at (by intro e; rw [e] at hk; simp at hk)
    obtain ⟨_, u, a2, hids⟩ := h5 k hk
    have hlen := (hgood.vol _ (List.getElem_mem hk)).2.1
    have HCL := Lib.hid (fun W (hW : Up w W) => cloneD_any u st.v[k].bl W (hids.up hW) hlen)
    obtain ⟨o', c', rfl, _, _⟩ := hids.slice
    have hblk := World.block_lt_of_cell? w _ a2
    have A2 := Lib.hid a2
    clear h5 hids HV a2 h0 hf hck hgood hlen
    simp only at HF
    generalize st.b.length = M at *
    obtain ⟨N, hN⟩ : ∃ N, st.v.length = N := ⟨_, rfl⟩
    have hkN : k < N := by omega
    rw [hN] at hV1 HF ⊢
    clear hN
    go_enter Tryz.func73, Tryz.ntmps73
    go_wp2_with fail
    refine (HF.out _ (Up.alloc _ _)).mono ?_
    rintro e w1 ⟨rfl, u1⟩
    have hsz : w.heap.size < (w.alloc (.cells #[.slice oB M cB, .slice (some ⟨b, off, none⟩) N cV] 25)).heap.size := by simp
    have b1 := (Below.cell u1 (p := ⟨w.heap.size, 1, none⟩) hsz).trans (World.cell?_alloc_new w #[.slice oB M cB, .slice (some ⟨b, off, none⟩) N cV] 25 1)
    have HU1 : Hid (Up w w1) := (Up.alloc _ _).trans u1
    have a2 := (HU1.out.cell hblk).trans A2.out
    clear u1 hsz
    go_wp2_with fail
    refine (HCL.out _ HU1.out).mono ?_
    rintro e w2 ⟨v2, rfl, ho2, u2⟩
    have HI2 := Lib.hid ho2.ids
    have HU2 : Hid (Up w w2) := HU1.out.trans u2
    clear ho2 u2
    go_wp2_with fail
    go_ret2
    exact ⟨v2, by rw [HB.out]; rfl, by rw [HB.out]; exact HI2.out, HU2.out⟩
  · obtain ⟨R, hR⟩ : ∃ R, (vfind FP st s).2 = R := ⟨_, rfl⟩
    have hz := vfind_no h0
    have HB : Hid (blocks FP st s = ([], R)) := by
      show _ = _
      unfold blocks
      rw [if_pos h0, hR]
    unfold findVR at HF
    rw [hR, hz] at HF
    rw [hR] at h0
    have hne : (R != 0) = true := by rw [bne_iff_ne]; exact h0
    clear hR hz h0 HV
    generalize st.b.length = M at *
    generalize st.v.length = N at *
    go_enter Tryz.func73, Tryz.ntmps73
    go_wp2_with fail
    refine (HF.out _ (Up.alloc _ _)).mono ?_
    rintro e w1 ⟨rfl, u1⟩
    have HU1 : Hid (Up w w1) := (Up.alloc _ _).trans u1
    clear u1
    go_wp2_with fail
    go_ret2
    exact ⟨_, by rw [HB.out]; rfl, by rw [HB.out]; exact Ids.nil _, HU1.out⟩

theorem vloc_ok {st : Sta} {s : List UInt8} {a : Int} (h : (vloc FP st s a).2 = 0) : WoolVol.Good FP st ∧ ∃ k, ∃ hk : k < st.v.length, ∃ j : Nat, a = (j : Int) ∧ j < st.v[k].bl.length ∧ vloc FP st s a = (k, 0) ∧ st.v[k].nm = s ∧ vix (nmB s) st.v = some k := by
  unfold vloc at h ⊢
  by_cases h0 : (vfind FP st s).2 ≠ 0
  · rw [if_pos h0] at h; exact absurd h h0
  rw [if_neg h0] at h ⊢
  obtain ⟨h1, k, hk, hf, hn, hx⟩ := vfind_ok (by omega : (vfind FP st s).2 = 0)
  rw [hf] at h ⊢
  simp only at h ⊢
  rw [getElem!_pos st.v k hk] at h ⊢
  by_cases h2 : a < 0 ∨ (st.v[k].bl.length : Int) ≤ a
  · rw [if_pos h2] at h; simp at h
  · rw [if_neg h2]
    exact ⟨chkS_zero.1 h1, k, hk, a.toNat, by omega, by omega, rfl, hn, hx⟩

theorem vloc_no {st : Sta} {s : List UInt8} {a : Int} (h0 : (vloc FP st s a).2 ≠ 0) : (vloc FP st s a).1 = 0 := by
  unfold vloc at h0 ⊢
  split
  · rfl
  · rename_i h1
    rw [if_neg h1] at h0
    split
    · rfl
    · rename_i h2
      rw [if_neg h2] at h0
      exact absurd rfl h0

def readVR (st : Sta) (s : List UInt8) (a : Int) : Value := .tuple #[.string (bs (WoolVol.read FP st s a).1), .int .i64 (WoolVol.read FP st s a).2]

set_option maxRecDepth 100000 in
set_option maxHeartbeats 1000000 in
theorem read_any (v : Value) (st : Sta) (s : List UInt8) (a : Int) (w : World) (h : Stat w v st) (hwf : WfS st) :
    Calls Tryz.prog 74 #[v, .string (bs s), .int .i64 a] w fun e w' => e = .returned (readVR st s a) ∧ Up w w' := by
  have HF := Lib.hid (fun W (hW : Up w W) => vloc_any v st s a W (h.up hW) hwf)
  obtain ⟨vb, vv, rfl, hb, hv⟩ := h
  have HV := Lib.hid hv
  have HG := Lib.hid (fun i W (hW : Up w W) => get_any vb st.b i W (hb.up hW))
  obtain ⟨oB, cB, rfl, _⟩ := hb.slice
  obtain ⟨oV, cV, rfl, hV1, hV2⟩ := hv.slice
  unfold maxLen at hV2
  obtain ⟨E, hE⟩ : ∃ E, readVR st s a = E := ⟨_, rfl⟩
  rw [hE]
  unfold readVR WoolVol.read at hE
  have HE := Lib.hid hE
  clear hE hb hv hwf
  by_cases h0 : (vloc FP st s a).2 = 0
  · obtain ⟨hgood, k, hk, j, rfl, hj, hf, _, _⟩ := vloc_ok h0
    have hE := HE.out
    rw [hf, if_neg (by simp)] at hE
    unfold blk at hE
    simp only [Int.toNat_natCast] at hE
    rw [getElem!_pos st.v k hk, getElem!_pos st.v[k].bl j hj] at hE
    have HE2 := Lib.hid hE
    unfold locVR at HF
    rw [hf] at HF
    obtain ⟨b, off, rfl, h5⟩ := HV.out.at (by intro e; rw [e] at hk; simp at hk)
    obtain ⟨_, u, a2, hids⟩ := h5 k hk
    have hlen := (hgood.vol _ (List.getElem_mem hk)).2.1
    obtain ⟨o', c', rfl, hc1, hc2⟩ := hids.slice
    unfold maxLen at hc2
    obtain ⟨b', off', rfl, h6⟩ := hids.at (by intro e; rw [e] at hj; simp at hj)
    obtain ⟨d1, d2, d3⟩ := h6 j hj
    have hblk := World.block_lt_of_cell? w _ a2
    have hblk' := World.block_lt_of_cell? w _ d1
    have A2 := Lib.hid a2
    have DD := Lib.hid (And.intro d1 (And.intro d2 d3))
    have HG2 : Hid (∀ W, Up w W → Calls Tryz.prog 102 #[.slice oB st.b.length cB, .agg #[.bool st.v[k].bl[j].1, .int .i64 st.v[k].bl[j].2.1, .int .i64 st.v[k].bl[j].2.2]] W fun e w' => e = .returned (getBR st.b st.v[k].bl[j]) ∧ Up W w') := HG.out st.v[k].bl[j]
    unfold getBR at HG2
    clear h5 h6 hids HV a2 d1 d2 d3 h0 hf hgood HE hE HG
    simp only at HF
    obtain ⟨L, hL⟩ : ∃ L, st.v[k].bl.length = L := ⟨_, rfl⟩
    rw [hL] at hj hlen hc1 A2
    generalize WoolBag.get FP st.b st.v[k].bl[j] = G at *
    generalize st.v[k].bl[j].1 = xb at *
    generalize st.v[k].bl[j].2.1 = xs at *
    generalize st.v[k].bl[j].2.2 = xn at *
    generalize st.b.length = M at *
    obtain ⟨N, hN⟩ : ∃ N, st.v.length = N := ⟨_, rfl⟩
    have hkN : k < N := by omega
    rw [hN] at hV1 HF ⊢
    clear hN hL
    go_enter Tryz.func74, Tryz.ntmps74
    go_wp2_with fail
    refine (HF.out _ (Up.alloc _ _)).mono ?_
    rintro e w1 ⟨rfl, u1⟩
    have hsz : w.heap.size < (w.alloc (.cells #[.slice oB M cB, .slice (some ⟨b, off, none⟩) N cV] 25)).heap.size := by simp
    have b0 : w1.cell? ⟨w.heap.size, 0, none⟩ = some (.slice oB M cB) := (Below.cell u1 (p := ⟨w.heap.size, 0, none⟩) hsz).trans (World.cell?_alloc_new w #[.slice oB M cB, .slice (some ⟨b, off, none⟩) N cV] 25 0)
    have b1 := (Below.cell u1 (p := ⟨w.heap.size, 1, none⟩) hsz).trans (World.cell?_alloc_new w #[.slice oB M cB, .slice (some ⟨b, off, none⟩) N cV] 25 1)
    have HU1 : Hid (Up w w1) := (Up.alloc _ _).trans u1
    have a2 := (HU1.out.cell hblk).trans A2.out
    have d1 := (HU1.out.cell (p := ⟨b', _, none⟩) hblk').trans DD.out.1
    have d2 := (HU1.out.cell (p := ⟨b', _, none⟩) hblk').trans DD.out.2.1
    have d3 := (HU1.out.cell (p := ⟨b', _, none⟩) hblk').trans DD.out.2.2
    have hne : w.heap.size ≠ w1.heap.size := by have := u1.size; omega
    clear u1 hsz
    cases xb with
    | false =>
      have HE3 : Hid (E = .tuple #[.string (bs []), .int .i64 0]) := by
        have := HE2.out
        rw [if_neg (by simp)] at this
        exact this.symm
      clear HE2
      go_wp2_with fail
      go_ret2
      exact ⟨by rw [HE3.out]; rfl, HU1.out.trans (Up.alloc _ _)⟩
    | true =>
      have HE3 : Hid (E = .tuple #[.string (bs G.1), .int .i64 G.2]) := by
        have := HE2.out
        rw [if_pos rfl] at this
        exact this.symm
      clear HE2
      have b0' := Lib.cell?_alloc_some (.cells #[.bool true, .int .i64 xs, .int .i64 xn] 49) b0
      clear b0
      go_wp2_with fail
      refine (HG2.out _ (HU1.out.trans (Up.alloc _ _))).mono ?_
      rintro e w2 ⟨rfl, u2⟩
      have HU2 : Hid (Up w w2) := (HU1.out.trans (Up.alloc _ _)).trans u2
      clear u2
      go_wp2_with fail
      go_ret2
      exact ⟨by rw [HE3.out]; rfl, HU2.out⟩
  · obtain ⟨R, hR⟩ : ∃ R, (vloc FP st s a).2 = R := ⟨_, rfl⟩
    have hz := vloc_no h0
    have HE3 : Hid (E = .tuple #[.string (bs []), .int .i64 R]) := by
      have := HE.out
      rw [if_pos h0, hR] at this
      exact this.symm
    unfold locVR at HF
    rw [hR, hz] at HF
    rw [hR] at h0
    have hne : (R != 0) = true := by rw [bne_iff_ne]; exact h0
    clear hR hz h0 HV HE HG
    generalize st.b.length = M at *
    generalize st.v.length = N at *
    go_enter Tryz.func74, Tryz.ntmps74
    go_wp2_with fail
    refine (HF.out _ (Up.alloc _ _)).mono ?_
    rintro e w1 ⟨rfl, u1⟩
    have HU1 : Hid (Up w w1) := (Up.alloc _ _).trans u1
    clear u1
    go_wp2_with fail
    go_ret2
    exact ⟨by rw [HE3.out]; rfl, HU1.out⟩

end Go.Proofs.YtcbppfndlagodaaGreatDoor

/-
  What clone and reuse of package bag return. Conditions: the row can be read; at most 64 items, each of at most 64 bytes; reuse: the place is one of the row's.
-/
namespace Go.Proofs.YtcbppfndlagodaaGreatDoor
open Go.RowKit
open Go.Proofs
open WoolBag

def CloneRel (N g : Nat) (L : List Value) (w : World) (i : Value) (wr : World) : Prop :=
  ∃ k : Nat, k ≤ N ∧ i = .int .i64 k ∧ Up w wr ∧ RowI wr g L

set_option maxRecDepth 100000 in
set_option maxHeartbeats 1000000 in
theorem clone_any (v : Value) (l : List Itm) (w : World) (h : Items w v l) (hl : l.length ≤ 64) (ht : ∀ x ∈ l, x.t.length ≤ 64) :
    Calls Tryz.prog 58 #[v] w (OwnPost w l) := by
  have HC := Lib.hid (sclone_any v l w h hl)
  obtain ⟨o, c, rfl, h3⟩ := h.slice
  have HT := Lib.hid ht
  clear h ht
  go_enter Tryz.func58, Tryz.ntmps58
  go_wp2_with fail
  refine HC.out.mono ?_
  rintro e w1 ⟨v', rfl, hown, u1⟩
  have HU1 := Lib.hid u1
  have hsz := u1.size
  rcases hown.row with ⟨rfl, rfl⟩ | ⟨g, cap, sp, rfl, hg, hrow, hc1, hc2, hc3⟩
  · clear hown u1
    go_wp2_with fail
    go_loopw [9] (fun i wr => i = .int .i64 0 ∧ wr = w1) (fun _ _ => 0)
    case atStart => exact ⟨rfl, rfl⟩
    case round =>
      obtain ⟨rfl, rfl⟩ := hrel
      go_wp2_with fail
      go_ret
      exact ⟨_, rfl, OItems.nil _ _, HU1.out⟩
  · have HROW := Lib.hid hrow
    have HC3 := Lib.hid hc3
    have HG : Hid (w.heap.size ≤ g) := hg
    unfold maxLen at hc2
    clear hown u1 hrow hc3 hsz
    go_wp2_with fail
    go_loopw [4, 9] (fun _ i wr => CloneRel l.length g (itL l ++ sp) w i wr) (fun _ i _ => l.length - (intOf i).toNat)
    case atStart => exact ⟨0, Nat.zero_le _, rfl, HU1.out, HROW.out⟩
    case round =>
      obtain ⟨k, hk, rfl, hu, hr⟩ := hrel
      by_cases hlt : k < l.length
      · have d1 : decide (k < l.length) = true := decide_eq_true hlt
        obtain ⟨_, _, b3, _⟩ := itL_get l k hlt
        have a3 := hr.cell (get_app (sp := sp) b3)
        have hsame := set_same _ _ _ (get_app (sp := sp) b3)
        have HTK : Hid ((bs l[k].t).size ≤ 1000) := by
          show (bs l[k].t).size ≤ 1000
          have := HT.out l[k] (List.getElem_mem hlt)
          rw [bs_size]; omega
        obtain ⟨T, hT⟩ : ∃ T, bs l[k].t = T := ⟨_, rfl⟩
        have hb3 := get_app (sp := sp) b3
        rw [hT] at a3 hsame HTK hb3
        have HB3 := Lib.hid hb3
        clear hb3
        have HS := Lib.hid hsame
        have HR := Lib.hid hr
        have HU := Lib.hid hu
        clear hT hsame hr hu b3
        go_wp2_with fail
        refine (clone_str T _ HTK.out).mono ?_
        rintro e w2 ⟨rfl, u2⟩
        have hr2 := HR.out.up u2
        have hu2 := HU.out.trans u2
        have c2 := hr2.cell HB3.out
        have fz := hr2.frozen (k * 4 + 2)
        have hset := hr2.set (k * 4 + 2) (.string T)
        rw [HS.out] at hset
        have HSET := Lib.hid hset
        have HUP : Hid (Up w (w2.setCell ⟨g, k * 4 + 2, none⟩ (.string T))) := Below.setCell hu2 (p := ⟨g, k * 4 + 2, none⟩) HG.out _
        clear hr2 hu2 hset u2 HS HR a3
        go_wp2_with fail
        go_roundw
        case rel => exact ⟨k + 1, by omega, by go_num, HUP.out, HSET.out⟩
        case measure => simp only [intOf]; omega
      · have d1 : decide (k < l.length) = false := decide_eq_false hlt
        have HU := Lib.hid hu
        have HR := Lib.hid hr
        clear hu hr
        go_wp2_with fail
        go_ret
        exact ⟨_, rfl, OItems.mk HG.out HR.out hc1 (by unfold maxLen; omega) HC3.out, HU.out⟩

/-- what Put and its helpers leave: a new row, an identifier, an error -/
def PutPost (w : World) (R : List Itm × (Bool × Int × Int) × Int) (e : Ending) (w' : World) : Prop :=
  ∃ v', e = .returned (.tuple #[v', idV R.2.1, .int .i64 R.2.2]) ∧ OItems w' w.heap.size v' R.1 ∧ Up w w'

/-- what Put answers for a block that is there -/
def reuseV (l : List Itm) (k : Nat) : List Itm × (Bool × Int × Int) × Int :=
  if (l[k]!).r = 1000000 then ([], noId, 8) else (l.set k (more l[k]! 1), idOf l[k]!, 0)

set_option maxRecDepth 100000 in
set_option maxHeartbeats 1000000 in
theorem reuse_any (v : Value) (l : List Itm) (k : Nat) (w : World) (h : Items w v l) (hb : Bag FP l) (hk : k < l.length) :
    Calls Tryz.prog 70 #[v, .int .i64 (k : Int)] w (PutPost w (reuseV l k)) := by
  have hl := hb.len
  have hok := hb.ok _ (List.getElem_mem hk)
  have HC := Lib.hid (fun W (hW : Up w W) => clone_any v l W (h.up hW) hl (fun x hx => (hb.ok x hx).1))
  obtain ⟨R, hR⟩ : ∃ R, reuseV l k = R := ⟨_, rfl⟩
  rw [hR]
  unfold reuseV at hR
  rw [getElem!_pos l k hk] at hR
  obtain ⟨o, c, rfl, h2, h3, h4⟩ := h
  unfold maxLen at h3
  rcases h4 with h5 | ⟨b, off, rfl, h5⟩
  · rw [h5] at hk; simp at hk
  have a4 := (h5 k hk).2.2.2
  have r1 := hok.2.2.2.2.1
  have r2 := hok.2.2.2.2.2
  clear hok
  obtain ⟨r, hr⟩ : ∃ r, l[k].r = r := ⟨_, rfl⟩
  rw [hr] at a4 hR r1 r2
  have hbw := World.block_lt_of_cell? w _ a4
  have hbw' : b < w.heap.size := hbw
  have hne : b ≠ w.heap.size := by omega
  by_cases h0 : r = 1000000
  · subst h0
    rw [if_pos rfl] at hR
    subst hR
    clear h5 hb HC hr hbw
    go_enter Tryz.func70, Tryz.ntmps70
    go_wp2_with fail
    exact bodyPost_ret (v := .tuple #[.slice none 0 0, .agg #[.bool false, .int .i64 0, .int .i64 0], .int .i64 8]) (by simp [results, Tryz.results70, go_sem]) rfl ⟨_, rfl, OItems.nil _ _, Up.alloc _ _⟩
  · rw [if_neg h0] at hR
    have d0 : (r == 1000000) = false := by simpa using h0
    have HR := Lib.hid hR
    have HRR := Lib.hid hr
    have hidn := identifier_any (more l[k] 1)
    have hidv : idV (idOf (more l[k] 1)) = .agg #[.bool true, .int .i64 l[k].s, .int .i64 l[k].n] := rfl
    have hidv2 : idV (idOf l[k]) = .agg #[.bool true, .int .i64 l[k].s, .int .i64 l[k].n] := rfl
    have HI2 := Lib.hid hidv2
    have hitv : itV (more l[k] 1) = .agg #[.int .i64 l[k].s, .int .i64 l[k].n, .string (bs l[k].t), .int .i64 (l[k].r + 1)] := rfl
    simp only [hidv, hitv, hr] at hidn
    have hgets := itL_get l k hk
    have hsetR := itL_setR l k hk 1
    rw [hr] at hgets hsetR
    obtain ⟨L', hL'⟩ : ∃ L', l.set k (more l[k] 1) = L' := ⟨_, rfl⟩
    have hLl : L'.length = l.length := by rw [← hL', List.length_set]
    have hgets' := itL_get L' k (by omega)
    have hk' : L'[k]'(by omega) = more l[k] 1 := by subst hL'; rw [List.getElem_set_self]
    rw [hk'] at hgets'
    simp only [more, hr] at hgets'
    rw [hL'] at hR hsetR HR
    generalize l[k].s = xs at *
    generalize l[k].n = xn at *
    generalize bs l[k].t = xt at *
    have HID := Lib.hid hidn
    have HG1 := Lib.hid hgets
    have HG2 := Lib.hid hgets'
    have HSR := Lib.hid hsetR
    have HLL := Lib.hid hLl
    clear h5 hb hr hbw hR hidn hidv hidv2 hitv hgets hgets' hsetR hL' hLl hk' h0
    go_enter Tryz.func70, Tryz.ntmps70
    go_wp2_with fail
    refine (HC.out _ (Up.alloc _ _)).mono ?_
    rintro e w1 ⟨v', rfl, hown, u1⟩
    rcases hown.row with ⟨_, hnil⟩ | ⟨g, cap, sp, rfl, hg, hrow, hc1, hc2, hc3⟩
    · rw [hnil] at hk; simp at hk
    have hbx := BoxI.up (BoxI.new w 49 (.bool false) (.int .i64 0) (.int .i64 0)) u1
    have hgw : w.heap.size < g := by simp at hg; omega
    have hU1 := Up.after _ _ _ u1
    have c3 := hrow.cell (get_app (sp := sp) HG1.out.2.2.2)
    have fz := hrow.frozen (k * 4 + 3)
    obtain ⟨w2, hw2⟩ : ∃ w2, w1.setCell ⟨g, k * 4 + 3, none⟩ (.int .i64 (r + 1)) = w2 := ⟨_, rfl⟩
    have hrow2 := hrow.set (k * 4 + 3) (.int .i64 (r + 1))
    rw [List.set_append_left _ _ (by rw [itL_length]; omega), HSR.out, hw2] at hrow2
    have hU2 : Up w w2 := by rw [← hw2]; exact Below.setCell hU1 (p := ⟨g, k * 4 + 3, none⟩) (by show w.heap.size ≤ g; omega) _
    have hbx2 : BoxI w2 w.heap.size 49 (.bool false) (.int .i64 0) (.int .i64 0) := by
      rw [← hw2]
      unfold BoxI at hbx ⊢
      simp [World.setCell, Array.getElem?_modify, hbx, show g ≠ w.heap.size by omega]
    have e0 := hrow2.cell (get_app (sp := sp) HG2.out.1)
    have e1 := hrow2.cell (get_app (sp := sp) HG2.out.2.1)
    have e2 := hrow2.cell (get_app (sp := sp) HG2.out.2.2.1)
    have e3 := hrow2.cell (get_app (sp := sp) HG2.out.2.2.2)
    have HW2 := Lib.hid hw2
    have HROW2 := Lib.hid hrow2
    have HU2 := Lib.hid hU2
    have HBX2 := Lib.hid hbx2
    have HC3 := Lib.hid hc3
    have hwr : IntKind.i64.wrap (r + 1) = r + 1 := IntWalk.i64_in _ (by omega)
    unfold maxLen at hc2
    rw [← hw2] at e0 e1 e2 e3
    clear hown hrow hg u1 hU1 hrow2 hU2 hbx hbx2 hw2 hc3 HG1 HG2 HSR
    go_wp2_with fail
    rw [HW2.out]
    refine (HID.out w2).mono ?_
    rintro e w3 ⟨rfl, u3⟩
    have hbx3 := HBX2.out.up u3
    obtain ⟨z0, z1, z2⟩ := hbx3.cells
    have y0 := hbx3.frozen 0
    have y1 := hbx3.frozen 1
    have y2 := hbx3.frozen 2
    have hset := hbx3.set (.bool true) (.int .i64 xs) (.int .i64 xn)
    obtain ⟨w4, hw4⟩ : ∃ w4, ((w3.setCell ⟨w.heap.size, 0, none⟩ (.bool true)).setCell ⟨w.heap.size, 1, none⟩ (.int .i64 xs)).setCell ⟨w.heap.size, 2, none⟩ (.int .i64 xn) = w4 := ⟨_, rfl⟩
    rw [hw4] at hset
    obtain ⟨s0, s1, s2⟩ := hset.cells
    have HU4 : Hid (Up w w4) := by
      show Up w w4
      rw [← hw4]
      exact ((Below.setCell (HU2.out.trans u3) (p := ⟨w.heap.size, 0, none⟩) (Nat.le_refl _) _).setCell (p := ⟨w.heap.size, 1, none⟩) (Nat.le_refl _) _).setCell (p := ⟨w.heap.size, 2, none⟩) (Nat.le_refl _) _
    have HROW4 : Hid (RowI w4 g (itL L' ++ sp)) := by
      show RowI w4 g (itL L' ++ sp)
      have h3 := HROW2.out.up u3
      rw [← hw4]
      unfold RowI at h3 ⊢
      simp [World.setCell, Array.getElem?_modify, h3, show w.heap.size ≠ g by omega]
    have HW4 := Lib.hid hw4
    clear hw4 hset hbx3 u3 e0 e1 e2 e3
    go_wp2_with fail
    rw [HW4.out]
    have hRe := HR.out
    have hll := HLL.out
    exact bodyPost_ret (v := .tuple #[.slice (some ⟨g, 0, none⟩) l.length cap, .agg #[.bool true, .int .i64 xs, .int .i64 xn], .int .i64 0]) (by simp [results, Tryz.results70, go_sem, s0, s1, s2]) rfl
      ⟨_, by rw [← hRe, HI2.out], by rw [← hRe]; simp only; rw [← hll]; exact OItems.mk (by omega) HROW4.out (by omega) (by unfold maxLen; omega) (by rw [hll]; exact HC3.out), HU4.out⟩

end Go.Proofs.YtcbppfndlagodaaGreatDoor
