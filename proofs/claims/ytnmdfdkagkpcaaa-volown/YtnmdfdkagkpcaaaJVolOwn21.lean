/-
  The texts VolF, Bag6, one behind the other; each says below what it holds and on what conditions.
-/
import Derived.Test.YtnmdfdkagkpcaaaJVolOwn20
import Derived.Test.YtnmdfdkagkpcaaaJVolOwn10
import Derived.Test.YtnmdfdkagkpcaaaJVolOwn19

/-
  What vol's Blocks and Read return. Conditions: as each says.
-/
namespace Go.Proofs.Ytnmdfdkagkpcaaa
open Go.RowKit
open Go.Proofs
open WoolBag
open WoolVol

theorem vfind_no {st : Sta} {s : List UInt8} (h0 : (vfind FP st s).2 ≠ 0) : (vfind FP st s).1 = 0 := by
  unfold vfind at h0 ⊢
  by_cases h1 : chkS FP st ≠ 0
  · rw [if_pos h1]
  · rw [if_neg h1] at h0 ⊢
    cases hx : vix (nmB s) st.v with
    | none => rfl
    | some k => rw [hx] at h0; simp at h0

def BlPost (st : Sta) (s : List UInt8) (w : World) (e : Ending) (w' : World) : Prop := ∃ v', e = .returned (.tuple #[v', .int .i64 (blocks FP st s).2]) ∧ Ids w' v' (blocks FP st s).1 ∧ Up w w'

set_option maxRecDepth 100000 in
set_option maxHeartbeats 1000000 in
theorem blocks_any (v : Value) (st : Sta) (s : List UInt8) (w : World) (h : Stat w v st) (hwf : WfS st) :
    Calls Try.prog 16 #[v, .string (bs s)] w (BlPost st s w) := by
  have HF := Lib.hid (fun W (hW : Up w W) => vfind_any v st s W (h.up hW) hwf)
  obtain ⟨vb, vv, rfl, hb, hv⟩ := h
  have HV := Lib.hid hv
  obtain ⟨oB, cB, rfl, _⟩ := hb.slice
  obtain ⟨oV, cV, rfl, hV1, hV2⟩ := hv.slice
  unfold maxLen at hV2
  clear hb hv hwf
  by_cases h0 : (vfind FP st s).2 = 0
  · obtain ⟨hck, k, hk, hf, _, _⟩ := vfind_ok h0
    have hgood := chkS_zero.1 hck
    have HB : Hid (blocks FP st s = (st.v[k].bl, 0)) := by
      show _ = _
      unfold blocks
      rw [hf, if_neg (by simp), getElem!_pos st.v k hk]
    unfold findVR at HF
    rw [hf] at HF
    obtain ⟨b, off, rfl, h5⟩ := HV.out.at (by intro e; rw [e] at hk; simp at hk)
    obtain ⟨_, u, a2, hids⟩ := h5 k hk
    have hlen := (hgood.vol _ (List.getElem_mem hk)).2.1
    have HCL := Lib.hid (fun W (hW : Up w W) => cloneD_any u st.v[k].bl W (hids.up hW) hlen)
    obtain ⟨o', c', rfl, _, _⟩ := hids.slice
    have hblk := World.block_lt_of_cell? w _ a2
    have A2 := Lib.hid a2
    clear h5 hids HV a2 h0 hf hck hgood hlen
    simp only at HF
    generalize st.b.length = M at *
    obtain ⟨N, hN⟩ : ∃ N, st.v.length = N := ⟨_, rfl⟩
    have hkN : k < N := by omega
    rw [hN] at hV1 HF ⊢
    clear hN
    go_enter Try.func16, Try.ntmps16
    go_wp2_with fail
    refine (HF.out _ (Up.alloc _ _)).mono ?_
    rintro e w1 ⟨rfl, u1⟩
    have hsz : w.heap.size < (w.alloc (.cells #[.slice oB M cB, .slice (some ⟨b, off, none⟩) N cV] 31)).heap.size := by simp
    have b1 := (Below.cell u1 (p := ⟨w.heap.size, 1, none⟩) hsz).trans (World.cell?_alloc_new w #[.slice oB M cB, .slice (some ⟨b, off, none⟩) N cV] 31 1)
    have HU1 : Hid (Up w w1) := (Up.alloc _ _).trans u1
    have a2 := (HU1.out.cell hblk).trans A2.out
    clear u1 hsz
    go_wp2_with fail
    refine (HCL.out _ HU1.out).mono ?_
    rintro e w2 ⟨v2, rfl, ho2, u2⟩
    have HI2 := Lib.hid ho2.ids
    have HU2 : Hid (Up w w2) := HU1.out.trans u2
    clear ho2 u2
    go_wp2_with fail
    go_ret2
    exact ⟨v2, by rw [HB.out]; rfl, by rw [HB.out]; exact HI2.out, HU2.out⟩
  · obtain ⟨R, hR⟩ : ∃ R, (vfind FP st s).2 = R := ⟨_, rfl⟩
    have hz := vfind_no h0
    have HB : Hid (blocks FP st s = ([], R)) := by
      show _ = _
      unfold blocks
      rw [if_pos h0, hR]
    unfold findVR at HF
    rw [hR, hz] at HF
    rw [hR] at h0
    have hne : (R != 0) = true := by rw [bne_iff_ne]; exact h0
    clear hR hz h0 HV
    generalize st.b.length = M at *
    generalize st.v.length = N at *
    go_enter Try.func16, Try.ntmps16
    go_wp2_with fail
    refine (HF.out _ (Up.alloc _ _)).mono ?_
    rintro e w1 ⟨rfl, u1⟩
    have HU1 : Hid (Up w w1) := (Up.alloc _ _).trans u1
    clear u1
    go_wp2_with fail
    go_ret2
    exact ⟨_, by rw [HB.out]; rfl, by rw [HB.out]; exact Ids.nil _, HU1.out⟩

theorem vloc_ok {st : Sta} {s : List UInt8} {a : Int} (h : (vloc FP st s a).2 = 0) : WoolVol.Good FP st ∧ ∃ k, ∃ hk : k < st.v.length, ∃ j : Nat, a = (j : Int) ∧ j < st.v[k].bl.length ∧ vloc FP st s a = (k, 0) ∧ st.v[k].nm = s ∧ vix (nmB s) st.v = some k := by
  unfold vloc at h ⊢
  by_cases h0 : (vfind FP st s).2 ≠ 0
  · rw [if_pos h0] at h; exact absurd h h0
  rw [if_neg h0] at h ⊢
  obtain ⟨h1, k, hk, hf, hn, hx⟩ := vfind_ok (by omega : (vfind FP st s).2 = 0)
  rw [hf] at h ⊢
  simp only at h ⊢
  rw [getElem!_pos st.v k hk] at h ⊢
  by_cases h2 : a < 0 ∨ (st.v[k].bl.length : Int) ≤ a
  · rw [if_pos h2] at h; simp at h
  · rw [if_neg h2]
    exact ⟨chkS_zero.1 h1, k, hk, a.toNat, by omega, by omega, rfl, hn, hx⟩

theorem vloc_no {st : Sta} {s : List UInt8} {a : Int} (h0 : (vloc FP st s a).2 ≠ 0) : (vloc FP st s a).1 = 0 := by
  unfold vloc at h0 ⊢
  split
  · rfl
  · rename_i h1
    rw [if_neg h1] at h0
    split
    · rfl
    · rename_i h2
      rw [if_neg h2] at h0
      exact absurd rfl h0

def readVR (st : Sta) (s : List UInt8) (a : Int) : Value := .tuple #[.string (bs (WoolVol.read FP st s a).1), .int .i64 (WoolVol.read FP st s a).2]

set_option maxRecDepth 100000 in
set_option maxHeartbeats 1000000 in
theorem read_any (v : Value) (st : Sta) (s : List UInt8) (a : Int) (w : World) (h : Stat w v st) (hwf : WfS st) :
    Calls Try.prog 30 #[v, .string (bs s), .int .i64 a] w fun e w' => e = .returned (readVR st s a) ∧ Up w w' := by
  have HF := Lib.hid (fun W (hW : Up w W) => vloc_any v st s a W (h.up hW) hwf)
  obtain ⟨vb, vv, rfl, hb, hv⟩ := h
  have HV := Lib.hid hv
  have HG := Lib.hid (fun i W (hW : Up w W) => get_any vb st.b i W (hb.up hW))
  obtain ⟨oB, cB, rfl, _⟩ := hb.slice
  obtain ⟨oV, cV, rfl, hV1, hV2⟩ := hv.slice
  unfold maxLen at hV2
  obtain ⟨E, hE⟩ : ∃ E, readVR st s a = E := ⟨_, rfl⟩
  rw [hE]
  unfold readVR WoolVol.read at hE
  have HE := Lib.hid hE
  clear hE hb hv hwf
  by_cases h0 : (vloc FP st s a).2 = 0
  · obtain ⟨hgood, k, hk, j, rfl, hj, hf, _, _⟩ := vloc_ok h0
    have hE := HE.out
    rw [hf, if_neg (by simp)] at hE
    unfold blk at hE
    simp only [Int.toNat_natCast] at hE
    rw [getElem!_pos st.v k hk, getElem!_pos st.v[k].bl j hj] at hE
    have HE2 := Lib.hid hE
    unfold locVR at HF
    rw [hf] at HF
    obtain ⟨b, off, rfl, h5⟩ := HV.out.at (by intro e; rw [e] at hk; simp at hk)
    obtain ⟨_, u, a2, hids⟩ := h5 k hk
    have hlen := (hgood.vol _ (List.getElem_mem hk)).2.1
    obtain ⟨o', c', rfl, hc1, hc2⟩ := hids.slice
    unfold maxLen at hc2
    obtain ⟨b', off', rfl, h6⟩ := hids.at (by intro e; rw [e] at hj; simp at hj)
    obtain ⟨d1, d2, d3⟩ := h6 j hj
    have hblk := World.block_lt_of_cell? w _ a2
    have hblk' := World.block_lt_of_cell? w _ d1
    have A2 := Lib.hid a2
    have DD := Lib.hid (And.intro d1 (And.intro d2 d3))
    have HG2 : Hid (∀ W, Up w W → Calls Try.prog 57 #[.slice oB st.b.length cB, .agg #[.bool st.v[k].bl[j].1, .int .i64 st.v[k].bl[j].2.1, .int .i64 st.v[k].bl[j].2.2]] W fun e w' => e = .returned (getBR st.b st.v[k].bl[j]) ∧ Up W w') := HG.out st.v[k].bl[j]
    unfold getBR at HG2
    clear h5 h6 hids HV a2 d1 d2 d3 h0 hf hgood HE hE HG
    simp only at HF
    obtain ⟨L, hL⟩ : ∃ L, st.v[k].bl.length = L := ⟨_, rfl⟩
    rw [hL] at hj hlen hc1 A2
    generalize WoolBag.get FP st.b st.v[k].bl[j] = G at *
    generalize st.v[k].bl[j].1 = xb at *
    generalize st.v[k].bl[j].2.1 = xs at *
    generalize st.v[k].bl[j].2.2 = xn at *
    generalize st.b.length = M at *
    obtain ⟨N, hN⟩ : ∃ N, st.v.length = N := ⟨_, rfl⟩
    have hkN : k < N := by omega
    rw [hN] at hV1 HF ⊢
    clear hN hL
    go_enter Try.func30, Try.ntmps30
    go_wp2_with fail
    refine (HF.out _ (Up.alloc _ _)).mono ?_
    rintro e w1 ⟨rfl, u1⟩
    have hsz : w.heap.size < (w.alloc (.cells #[.slice oB M cB, .slice (some ⟨b, off, none⟩) N cV] 31)).heap.size := by simp
    have b0 : w1.cell? ⟨w.heap.size, 0, none⟩ = some (.slice oB M cB) := (Below.cell u1 (p := ⟨w.heap.size, 0, none⟩) hsz).trans (World.cell?_alloc_new w #[.slice oB M cB, .slice (some ⟨b, off, none⟩) N cV] 31 0)
    have b1 := (Below.cell u1 (p := ⟨w.heap.size, 1, none⟩) hsz).trans (World.cell?_alloc_new w #[.slice oB M cB, .slice (some ⟨b, off, none⟩) N cV] 31 1)
    have HU1 : Hid (Up w w1) := (Up.alloc _ _).trans u1
    have a2 := (HU1.out.cell hblk).trans A2.out
    have d1 := (HU1.out.cell (p := ⟨b', _, none⟩) hblk').trans DD.out.1
    have d2 := (HU1.out.cell (p := ⟨b', _, none⟩) hblk').trans DD.out.2.1
    have d3 := (HU1.out.cell (p := ⟨b', _, none⟩) hblk').trans DD.out.2.2
    have hne : w.heap.size ≠ w1.heap.size := by have := u1.size; omega
    clear u1 hsz
    cases xb with
    | false =>
      have HE3 : Hid (E = .tuple #[.string (bs []), .int .i64 0]) := by
        have := HE2.out
        rw [if_neg (by simp)] at this
        exact this.symm
      clear HE2
      go_wp2_with fail
      go_ret2
      exact ⟨by rw [HE3.out]; rfl, HU1.out.trans (Up.alloc _ _)⟩
    | true =>
      have HE3 : Hid (E = .tuple #[.string (bs G.1), .int .i64 G.2]) := by
        have := HE2.out
        rw [if_pos rfl] at this
        exact this.symm
      clear HE2
      have b0' := Lib.cell?_alloc_some (.cells #[.bool true, .int .i64 xs, .int .i64 xn] 51) b0
      clear b0
      go_wp2_with fail
      refine (HG2.out _ (HU1.out.trans (Up.alloc _ _))).mono ?_
      rintro e w2 ⟨rfl, u2⟩
      have HU2 : Hid (Up w w2) := (HU1.out.trans (Up.alloc _ _)).trans u2
      clear u2
      go_wp2_with fail
      go_ret2
      exact ⟨by rw [HE3.out]; rfl, HU2.out⟩
  · obtain ⟨R, hR⟩ : ∃ R, (vloc FP st s a).2 = R := ⟨_, rfl⟩
    have hz := vloc_no h0
    have HE3 : Hid (E = .tuple #[.string (bs []), .int .i64 R]) := by
      have := HE.out
      rw [if_pos h0, hR] at this
      exact this.symm
    unfold locVR at HF
    rw [hR, hz] at HF
    rw [hR] at h0
    have hne : (R != 0) = true := by rw [bne_iff_ne]; exact h0
    clear hR hz h0 HV HE HG
    generalize st.b.length = M at *
    generalize st.v.length = N at *
    go_enter Try.func30, Try.ntmps30
    go_wp2_with fail
    refine (HF.out _ (Up.alloc _ _)).mono ?_
    rintro e w1 ⟨rfl, u1⟩
    have HU1 : Hid (Up w w1) := (Up.alloc _ _).trans u1
    clear u1
    go_wp2_with fail
    go_ret2
    exact ⟨by rw [HE3.out]; rfl, HU1.out⟩

end Go.Proofs.Ytnmdfdkagkpcaaa

/-
  Rows of items that are known whole (RowI); slices.Clone of items; clone and reuse of package bag. Conditions: as each says.
-/
namespace Go.Proofs.Ytnmdfdkagkpcaaa
open Go.RowKit
open Go.Proofs
open WoolBag

/-- a row of items' cells, known whole -/
def RowI (w : World) (g : Nat) (L : List Value) : Prop := w.heap[g]? = some (.cells L.toArray 60 (0, 0))

theorem RowI.lt {w : World} {g : Nat} {L : List Value} (h : RowI w g L) : g < w.heap.size := (Array.getElem?_eq_some_iff.1 h).1
theorem RowI.at {w : World} {g : Nat} {L : List Value} (h : RowI w g L) (j : Nat) : w.cell? ⟨g, j, none⟩ = L[j]? := by
  rw [cell_of_row _ _ j _ _ _ h, List.getElem?_toArray]
theorem RowI.cell {w : World} {g : Nat} {L : List Value} {j : Nat} {v : Value} (h : RowI w g L) (hj : L[j]? = some v) : w.cell? ⟨g, j, none⟩ = some v := (h.at j).trans hj
theorem RowI.frozen {w : World} {g : Nat} {L : List Value} (h : RowI w g L) (j : Nat) : w.frozen? ⟨g, j, none⟩ = false := by
  unfold RowI at h; simp [World.frozen?, h]
theorem RowI.set {w : World} {g : Nat} {L : List Value} (h : RowI w g L) (j : Nat) (v : Value) : RowI (w.setCell ⟨g, j, none⟩ v) g (L.set j v) := by
  unfold RowI at h ⊢
  simp [World.setCell, Array.getElem?_modify, h]
theorem RowI.below {w w' : World} {g n : Nat} {L : List Value} (h : RowI w g L) (hb : Below n w w') (hg : g < n) : RowI w' g L := (hb.block g hg).trans h
theorem RowI.up {w w' : World} {g : Nat} {L : List Value} (h : RowI w g L) (hb : Up w w') : RowI w' g L := h.below hb h.lt

theorem OItems.mk {w : World} {base g cap : Nat} {l : List Itm} {sp : List Value} (hb : base ≤ g) (h : RowI w g (itL l ++ sp)) (h1 : l.length ≤ cap) (h2 : cap ≤ maxLen) (h3 : l.length * 4 + sp.length = cap * 4) :
    OItems w base (.slice (some ⟨g, 0, none⟩) l.length cap) l := by
  refine ⟨itL_length l, .inr ⟨g, cap, (itL l ++ sp).toArray, rfl, hb, h, h1, h2, ?_, ?_⟩⟩
  · rw [List.size_toArray, List.length_append, itL_length]; exact h3
  · rw [← itL_length l]; simp

theorem OItems.row {w : World} {base : Nat} {v : Value} {l : List Itm} (h : OItems w base v l) :
    (v = .slice none 0 0 ∧ l = []) ∨ ∃ g cap sp, v = .slice (some ⟨g, 0, none⟩) l.length cap ∧ base ≤ g ∧ RowI w g (itL l ++ sp) ∧ l.length ≤ cap ∧ cap ≤ maxLen ∧ l.length * 4 + sp.length = cap * 4 := by
  rcases h.2 with ⟨h1, h2⟩ | ⟨g, cap, cur, h1, h2, h3, h4, h5, h6, h7⟩
  · exact .inl ⟨h1, List.eq_nil_of_length_eq_zero h2⟩
  · refine .inr ⟨g, cap, cur.toList.drop (l.length * 4), h1, h2, ?_, h4, h5, ?_⟩
    · unfold RowI
      rw [h3, ← h7, List.take_append_drop]
    · have hs : cur.toList.length = cur.size := Array.length_toList
      rw [List.length_drop, hs, h6]
      omega

theorem get_app {l : List Itm} {sp : List Value} {j : Nat} {v : Value} (h : (itL l)[j]? = some v) : (itL l ++ sp)[j]? = some v := by
  rw [List.getElem?_append_left ((List.getElem?_eq_some_iff.1 h).1)]; exact h

theorem itL_setR : ∀ (l : List Itm) (k : Nat) (h : k < l.length) (d : Int), (itL l).set (k * 4 + 3) (.int .i64 (l[k].r + d)) = itL (l.set k (more l[k] d))
  | [], k, h, _ => by simp at h
  | x :: r, 0, h, d => rfl
  | x :: r, k + 1, h, d => by
    have ih := itL_setR r k (by simpa using h) d
    rw [show (k + 1) * 4 + 3 = (k * 4 + 3) + 1 + 1 + 1 + 1 by omega, List.set_cons_succ]
    unfold itL
    simp only [List.set_cons_succ, List.getElem_cons_succ]
    rw [ih]

theorem set_same : ∀ (L : List Value) (j : Nat) (v : Value), L[j]? = some v → L.set j v = L
  | [], _, _, _ => rfl
  | x :: r, 0, v, h => by simp at h; simp [h]
  | x :: r, j + 1, v, h => by rw [List.set_cons_succ, set_same r j v (by simpa using h)]

/-- what a call leaves that answers a new row of items -/
def OwnPost (w : World) (l : List Itm) (e : Ending) (w' : World) : Prop := ∃ v', e = .returned v' ∧ OItems w' w.heap.size v' l ∧ Up w w'

/-- the cells of a slice that reads as items -/
theorem Items.cells {w : World} {b off n c : Nat} {l : List Itm} (h : Items w (.slice (some ⟨b, off, none⟩) n c) l) (hne : l ≠ []) : ∀ j u, (itL l)[j]? = some u → w.cell? ⟨b, off + j, none⟩ = some u := by
  obtain ⟨o', c', h1, h2, h3, h4⟩ := h
  simp only [Value.slice.injEq] at h1
  obtain ⟨rfl, rfl, rfl⟩ := h1
  rcases h4 with h4 | ⟨b', off', h5, h6⟩
  · exact absurd h4 hne
  · cases h5
    intro j u hj
    have hlt : j < l.length * 4 := by rw [← itL_length]; exact (List.getElem?_eq_some_iff.1 hj).1
    obtain ⟨a1, a2, a3, a4⟩ := h6 (j / 4) (by omega)
    obtain ⟨b1, b2, b3, b4⟩ := itL_get l (j / 4) (by omega)
    have hm : j % 4 < 4 := Nat.mod_lt _ (by omega)
    have hd : j / 4 * 4 + j % 4 = j := by omega
    rcases Nat.lt_or_ge (j % 4) 1 with m0 | m0
    · rw [show j / 4 * 4 = j by omega] at a1 b1
      rw [hj] at b1; rw [a1]; exact b1.symm
    rcases Nat.lt_or_ge (j % 4) 2 with m1 | m1
    · rw [show off + j / 4 * 4 + 1 = off + j by omega] at a2
      rw [show j / 4 * 4 + 1 = j by omega, hj] at b2; rw [a2]; exact b2.symm
    rcases Nat.lt_or_ge (j % 4) 3 with m2 | m2
    · rw [show off + j / 4 * 4 + 2 = off + j by omega] at a3
      rw [show j / 4 * 4 + 2 = j by omega, hj] at b3; rw [a3]; exact b3.symm
    · rw [show off + j / 4 * 4 + 3 = off + j by omega] at a4
      rw [show j / 4 * 4 + 3 = j by omega, hj] at b4; rw [a4]; exact b4.symm

theorem add_lit (b off j : Nat) : (⟨b, off, none⟩ : Addr).add j = ⟨b, off + j, none⟩ := by
  unfold Addr.add
  split
  · rename_i e; subst e; rfl
  · rfl

theorem itInfo' : ∃ i, Try.prog.info? 60 = some i ∧ i.zero = some (.agg #[.int .i64 0, .int .i64 0, .string ⟨#[]⟩, .int .i64 0]) ∧ i.size = 4 ∧ i.bytes = 40 := by
  have h := itInfo
  cases hq : Try.prog.info? 60 with
  | none => rw [hq] at h; cases h
  | some i =>
    rw [hq] at h
    simp only [Option.map_some, Option.some.injEq, Prod.mk.injEq] at h
    exact ⟨i, rfl, h.1, h.2.1, h.2.2⟩

set_option maxRecDepth 100000 in
set_option maxHeartbeats 1000000 in
theorem sclone_any (v : Value) (l : List Itm) (w : World) (h : Items w v l) (hl : l.length ≤ 64) :
    Calls Try.prog 78 #[v] w (OwnPost w l) := by
  obtain ⟨i0, hi, hz0, hz1, hz2⟩ := itInfo'
  have HX := Lib.hid h
  obtain ⟨o, c, rfl, h3⟩ := h.slice
  unfold maxLen at h3
  have q22 : ∀ (w : World) (a : Option Addr) (n c n' c' : Nat), (binOp .eql 28 (.slice a n c) (.slice none n' c')).run Try.prog w = .ok (.bool a.isNone) w := fun w a n c n' c' => Lib.run_eql_slice_nil w _ _ a n c n' c' Try.underlying28
  cases o with
  | none =>
    have hn : l = [] := by
      obtain ⟨o', c', h1, _, _, h4⟩ := h
      rcases h4 with h4 | ⟨b, off, h5, _⟩
      · exact h4
      · cases h1; cases h5
    subst hn
    clear h
    go_enter Try.func78, Try.ntmps78
    go_wp2
    go_ret
    exact ⟨_, rfl, OItems.nil _ _, Up.refl _⟩
  | some ad =>
    have hcl : Hid (∀ j u, (itL l)[j]? = some u → w.cell? (ad.add j) = some u) := by
      intro j u hj
      have hne : l ≠ [] := by rintro rfl; simp [itL] at hj
      obtain ⟨b, off, sp⟩ := ad
      obtain ⟨o', c', h1, _, _, h4⟩ := h
      rcases h4 with h4 | ⟨b', off', h5, _⟩
      · exact absurd h4 hne
      · cases h1; cases h5
        rw [add_lit]
        exact HX.out.cells hne j u hj
    clear h HX
    go_enter Try.func78, Try.ntmps78
    go_wp2_with (at_builtin; refine wpList_append_own _ rfl _ _ 28 rfl w.heap.size 60 i0 _ 4 40 Try.underlying28 hi hz0 hz1 hz2 rfl (by omega) _ _ _ rfl (World.ownsRow_made w #[] 0 (Nat.le_refl _) (Nat.zero_le _) (by simp)) ad l.length c (itL l) rfl ?qc1 ?qc2 ?qc3 ?qc4 ?qc5 ?qc6 ?_)
    case qc1 => exact itL_length l
    case qc2 =>
      intro j u hj
      exact Lib.cell?_alloc_some _ (hcl.out j u hj)
    case qc3 => exact itL_one l
    case qc4 => unfold maxLen; omega
    case qc5 => omega
    case qc6 => simp
    intro v' w1 hown hgrow hnil
    have HO : Hid (OItems w1 w.heap.size v' l) := by
      show OItems w1 w.heap.size v' l
      unfold OItems
      simpa using hown
    have HU : Hid (Up w w1) := ((Below.refl _ w).alloc (Nat.le_refl _) _).grown hgrow (by simp) (by intro k hk; simp [Value.ownBlock] at hk; omega)
    clear hown hgrow hnil hcl
    go_wp2
    go_ret
    exact ⟨v', rfl, HO.out, HU.out⟩

end Go.Proofs.Ytnmdfdkagkpcaaa
