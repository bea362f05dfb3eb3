/-
  The texts DedL, LawDed, one behind the other; each says below what it holds and on what conditions.
-/
import Derived.Test.YtjmmifanaffegaaDed1

/-
  What is stored and loaded, in plain words: the text comes back; what both texts share is stored once. Conditions: as each says.
-/
namespace Go.Proofs.Ytjmmifanaffegaa
open Go.RowKit
open Go.Proofs
open WoolBag
open WoolVol

theorem ded1 {S : List UInt8} {q : Nat} {st1 : Sta} (hq : q = (pcs S).length) (hq0 : q ≠ 0) (hsi : SI ⟨zeroS.b, vins ⟨[97], List.replicate q noId⟩ zeroS.v⟩ (vplace [97] zeroS.v) (pcs S) 0 q st1) :
    S ≠ [] ∧ ∃ va, st1.v = [va] ∧ va.nm = [97] ∧ va.bl.length = q ∧ ldd st1 0 q = S ∧ st1.b.length ≤ q ∧ ∀ i, i < q → txAt st1 0 i = (pcs S)[i]? := by
  have hS : S ≠ [] := by
    rintro rfl
    rw [hq, pcs_len, ends_nil] at hq0
    exact hq0 rfl
  have hv0 : vins ⟨[97], List.replicate q noId⟩ zeroS.v = [⟨[97], List.replicate q noId⟩] := rfl
  have hp0 : vplace [97] zeroS.v = 0 := rfl
  rw [hv0, hp0] at hsi
  have hl : st1.v.length = 1 := hsi.len
  have hvol := hsi.vol 0 (by simp) (by omega)
  have hbag := hsi.bag
  have hfl := ldd_flat (st := st1) (k := 0) (P := pcs S) q (by omega) hsi.done
  rw [hq, List.take_length, pcs_join S hS, ← hq] at hfl
  refine ⟨hS, ?_⟩
  obtain ⟨va, hva⟩ : ∃ va, st1.v = [va] := List.length_eq_one_iff.1 hl
  have e : ∀ (L : List Vo) (_ : L = [va]) (h : 0 < L.length), L[0] = va := by rintro L rfl h; rfl
  rw [e _ hva] at hvol
  refine ⟨va, hva, hvol.1, ?_, hfl, ?_, hsi.done⟩
  · have := hvol.2
    simpa using this
  · have : st1.b.length ≤ 0 + (q - 0) := hbag
    omega

theorem ded2 {S T : List UInt8} {q : Nat} {st1 : Sta} (hS : S ≠ []) (hq : q = (pcs S).length) (hd : ∀ i, i < q → txAt st1 0 i = (pcs S)[i]?) : ∀ i (_ : i < (pcs (S ++ T)).length), i < q - 1 → Has st1.b (pcs (S ++ T))[i] := by
  intro i hi hiq
  have h1 := pcs_ahead S T hS i (by omega)
  rw [List.getElem?_eq_getElem hi] at h1
  have h2 := hd i (by omega)
  rw [← h1] at h2
  exact has_tx h2

theorem ded3 {S T : List UInt8} {q q2 : Nat} {st1 st2 : Sta} {va : Vo} (hS : S ≠ []) (hq : q = (pcs S).length) (hq2 : q2 = (pcs (S ++ T)).length) (hva : st1.v = [va]) (hnm : va.nm = [97]) (hbl : va.bl.length = q) (hd : ∀ i, i < q → txAt st1 0 i = (pcs S)[i]?)
    (hsi : SI ⟨st1.b, vins ⟨[98], List.replicate q2 noId⟩ st1.v⟩ (vplace [98] st1.v) (pcs (S ++ T)) (q - 1) q2 st2) :
    ∃ h0 : 0 < st2.v.length, ∃ h1 : 1 < st2.v.length, vix (nmB [98]) st2.v = some 1 ∧ st2.v[1].bl.length = q2 ∧ ldd st2 1 q2 = S ++ T ∧ vix (nmB [97]) st2.v = some 0 ∧ st2.v[0].bl.length = q ∧ ldd st2 0 q = S ∧ st2.b.length + (q - 1) ≤ st1.b.length + q2 := by
  have hp : vplace [98] [va] = 1 := by
    have hn : vix (gtB [98]) [va] = none := by
      rw [vix_none]
      intro x hx
      rw [List.mem_singleton] at hx
      subst hx
      unfold gtB
      rw [hnm]
      rfl
    unfold vplace
    rw [hn]
    rfl
  have hv : vins ⟨[98], List.replicate q2 noId⟩ [va] = [va, ⟨[98], List.replicate q2 noId⟩] := by
    show [va].take (vplace [98] [va]) ++ _ :: [va].drop (vplace [98] [va]) = _
    rw [hp]
    rfl
  rw [hva, hp, hv] at hsi
  have hl : st2.v.length = 2 := hsi.len
  have hv0 := hsi.vol 0 (by simp) (by omega)
  have hv1 := hsi.vol 1 (by simp) (by omega)
  have hbag : st2.b.length ≤ st1.b.length + (q2 - (q - 1)) := hsi.bag
  have hmore := pcs_more S T hS
  have hST : S ++ T ≠ [] := by simp [hS]
  have hfl := ldd_flat (st := st2) (k := 1) (P := pcs (S ++ T)) q2 (by omega) hsi.done
  rw [hq2, List.take_length, pcs_join _ hST, ← hq2] at hfl
  have hda : ∀ i, i < q → txAt st2 0 i = (pcs S)[i]? := by
    intro i hi
    rw [hsi.oth 0 i (by simp) (by simpa [hbl] using hi) (by omega), ← hd i hi]
    unfold txAt blk
    rw [hva]
    rfl
  have hfa := ldd_flat (st := st2) (k := 0) (P := pcs S) q (by omega) hda
  rw [hq, List.take_length, pcs_join S hS, ← hq] at hfa
  have hxa : vix (nmB [97]) [va, ⟨[98], List.replicate q2 noId⟩] = some 0 := by simp [vix, nmB, hnm]
  have hxb : vix (nmB [98]) [va, ⟨[98], List.replicate q2 noId⟩] = some 1 := by simp [vix, nmB, hnm]
  refine ⟨by omega, by omega, vix_same hsi.len hsi.vol hxb, ?_, hfl, vix_same hsi.len hsi.vol hxa, ?_, hfa, by omega⟩
  · have := hv1.2
    simpa using this
  · have := hv0.2
    rw [this]
    exact hbl

end Go.Proofs.Ytjmmifanaffegaa

/-
  The law TopDedup: texts that are cut and stored come back as they were, and what two share is stored once. Conditions: texts that a call can be handed.
-/
namespace Go.Proofs.Ytjmmifanaffegaa
open Go.RowKit
open Go.Proofs
open WoolBag
open WoolVol

theorem Stat.bagLen {w : World} {o1 o2 : Option Addr} {n1 c1 n2 c2 : Nat} {st : Sta} (h : Stat w (.agg #[.slice o1 n1 c1, .slice o2 n2 c2]) st) : st.b.length = n1 := by
  obtain ⟨vb, vv, e, hb, hv⟩ := h
  simp at e
  obtain ⟨rfl, rfl⟩ := e
  obtain ⟨o, c, h9, _⟩ := hb.slice
  simp only [Value.slice.injEq] at h9
  exact h9.2.1.symm

set_option maxRecDepth 100000 in
set_option maxHeartbeats 2000000 in
theorem topDedup_walk (a0 a1 : ByteArray) (w : World) (w0 : a0.size ≤ 140737488351232) (w1 : a1.size ≤ 140737488351232) :
    Calls Try.prog 3 #[.string a0, .string a1] w fun e w' => e = .returned (.bool true) ∧ Up w w' := by
  obtain ⟨S, rfl⟩ : ∃ S, a0 = bs S := ⟨a0.data.toList, (bs_of a0).symm⟩
  obtain ⟨T, rfl⟩ : ∃ T, a1 = bs T := ⟨a1.data.toList, (bs_of a1).symm⟩
  rw [bs_size] at w0 w1
  have HB := Lib.hid (fun W => begunD_any W)
  have HAA : Hid (bs [97] = ⟨#[97]⟩) := rfl
  have HBB : Hid (bs [98] = ⟨#[98]⟩) := rfl
  have HS1 := Lib.hid (fun W => stored_any zeroV zeroS [97] S 0 W (Stat.zero W) good_zero (by simp) (fun i _ h => absurd h (by omega)))
  unfold StoPost zeroV at HS1
  rw [HAA.out] at HS1
  have hadd := add_bs S T (by omega)
  clear w0 w1
  go_enter Try.func3, Try.ntmps3
  go_wp2_with fail
  refine (HB.out _).mono ?_
  rintro e x1 ⟨rfl, u1⟩
  go_wp2_with fail
  refine (HS1.out _).mono ?_
  rintro e w2 ⟨o1, n1, c1, o2, n2, c2, q, ok, rfl, u2, hok⟩
  have HU2 := Lib.hid (u1.trans u2)
  clear u1 u2
  cases ok with
  | false =>
    clear hok
    go_wp2_with fail
    refine (HB.out _).mono ?_
    rintro e w3 ⟨rfl, u3⟩
    have HU3 := Lib.hid ((HU2.out.trans (Up.alloc _ _)).trans u3)
    clear u3
    go_wp2_with fail
    go_ret
    exact ⟨rfl, HU3.out⟩
  | true =>
    obtain ⟨st1, hst1, hq, hq0, hq32, _, hsi⟩ := hok rfl
    have HGD1 := Lib.hid hsi.good
    obtain ⟨hS, va, hva, hnm, hbl, hld, hbg, hdn⟩ := ded1 hq hq0 hsi
    have hn1 := hst1.bagLen
    have hn64 := hsi.good.bag.len
    rw [hn1] at hbg hn64
    have HHS := Lib.hid hS
    have HQ := Lib.hid hq
    have HVA := Lib.hid hva
    have HNM := Lib.hid hnm
    have HBL := Lib.hid hbl
    have HDN := Lib.hid hdn
    have HN1 := Lib.hid hn1
    have HL1 : Hid (∀ W, Up w2 W → Calls Try.prog 6 #[.agg #[.slice o1 n1 c1, .slice o2 n2 c2], .string ⟨#[97]⟩, .int .i64 (q : Int)] W fun e w' => e = .returned (.string (bs S)) ∧ Up W w') := by
      intro W hW
      have hk : 0 < st1.v.length := by rw [hva]; simp
      have hb0 : st1.v[0].bl.length = q := by
        have e : ∀ (L : List Vo) (_ : L = [va]) (h : 0 < L.length), L[0].bl.length = q := by rintro L rfl h; exact hbl
        exact e _ hva hk
      have hx : vix (nmB [97]) st1.v = some 0 := by rw [hva]; simp [vix, nmB, hnm]
      have h9 := loaded_any _ st1 [97] 0 q W (hst1.up hW) hsi.good hx hk hb0 hq32
      rw [hld, HAA.out] at h9
      exact h9
    have HS2 := Lib.hid (fun W (hW : Up w2 W) => stored_any _ st1 [98] (S ++ T) (q - 1) W (hst1.up hW) hsi.good (by simp) (ded2 hS hq hdn))
    unfold StoPost at HS2
    rw [HBB.out] at HS2
    clear hok hst1 hsi hq hS hva hnm hbl hld hdn hn1
    go_upto_region 4 with (fail)
    have hal := Up.alloc w2 (.cells #[.slice o1 n1 c1, .slice o2 n2 c2] 26)
    have HX3 : Hid (RowC (w2.alloc (.cells #[.slice o1 n1 c1, .slice o2 n2 c2] 26)) w2.heap.size 26 [.slice o1 n1 c1, .slice o2 n2 c2]) := heap_alloc_new w2 _
    have HU3 := Lib.hid hal
    have HUW3 := Lib.hid (HU2.out.trans hal)
    have HXW : Hid (w.heap.size ≤ w2.heap.size) := HU2.out.size
    clear hal
    generalize w2.alloc (.cells #[.slice o1 n1 c1, .slice o2 n2 c2] 26) = W3 at HX3 HU3 HUW3 ⊢
    generalize w2.heap.size = X at HX3 HXW ⊢
    have k0 := HX3.out.cell (j := 0) rfl
    have k1 := HX3.out.cell (j := 1) rfl
    go_wp2_with fail
    refine (HL1.out _ HU3.out).mono ?_
    rintro e w4 ⟨rfl, u4⟩
    have HX4 := Lib.hid (HX3.out.up u4)
    have HU4 := Lib.hid (HU3.out.trans u4)
    have HUW4 := Lib.hid (HUW3.out.trans u4)
    clear u4 k0 k1
    have k0 := HX4.out.cell (j := 0) rfl
    have k1 := HX4.out.cell (j := 1) rfl
    have d1 : decide ((q : Int) < (n1 : Int)) = false := decide_eq_false (by omega)
    have d2 : decide (q < n1) = false := decide_eq_false (by omega)
    go_wp2_with fail
    refine (HS2.out _ HU4.out).mono ?_
    rintro e w5 ⟨o3, n3, c3, o4, n4, c4, q2, ok2, rfl, u5, hok2⟩
    have HX5 := Lib.hid (HX4.out.up u5)
    have HUW5 := Lib.hid (HUW4.out.trans u5)
    clear u5 k0 k1 d1 d2
    have r0 := HX5.out.frozen 0
    have r1 := HX5.out.frozen 1
    have r2 := HX5.out.cell (j := 0) rfl
    have r3 := HX5.out.cell (j := 1) rfl
    have HX6 := Lib.hid ((HX5.out.set 0 (.slice o3 n3 c3)).set 1 (.slice o4 n4 c4))
    have HUW6 := Lib.hid (up2 (x := .slice o3 n3 c3) (y := .slice o4 n4 c4) HUW5.out HXW.out)
    cases ok2 with
    | false =>
      clear hok2
      go_wp2_with fail
      go_ret
      exact ⟨rfl, HUW6.out⟩
    | true =>
      obtain ⟨st2, hst2, hq2, hq20, hq232, _, hsi2⟩ := hok2 rfl
      obtain ⟨h0, h1, hxb, hlb, hldb, hxa, hla, hlda, hbag⟩ := ded3 HHS.out HQ.out hq2 HVA.out HNM.out HBL.out HDN.out hsi2
      have hn3 := hst2.bagLen
      have hn364 := hsi2.good.bag.len
      rw [hn3] at hbag hn364
      rw [HN1.out] at hbag
      have hst6 := Stat.boxed (x := .slice o3 n3 c3) (y := .slice o4 n4 c4) hst2 HX5.out rfl rfl rfl
      have HLB : Hid (∀ W, Up ((w5.setCell ⟨X, 0, none⟩ (.slice o3 n3 c3)).setCell ⟨X, 1, none⟩ (.slice o4 n4 c4)) W → Calls Try.prog 6 #[.agg #[.slice o3 n3 c3, .slice o4 n4 c4], .string ⟨#[98]⟩, .int .i64 (q2 : Int)] W fun e w' => e = .returned (.string (bs (S ++ T))) ∧ Up W w') := by
        intro W hW
        have h9 := loaded_any _ st2 [98] 1 q2 W (hst6.up hW) hsi2.good hxb h1 hlb hq232
        rw [hldb, HBB.out] at h9
        exact h9
      have HLA : Hid (∀ W, Up ((w5.setCell ⟨X, 0, none⟩ (.slice o3 n3 c3)).setCell ⟨X, 1, none⟩ (.slice o4 n4 c4)) W → Calls Try.prog 6 #[.agg #[.slice o3 n3 c3, .slice o4 n4 c4], .string ⟨#[97]⟩, .int .i64 (q : Int)] W fun e w' => e = .returned (.string (bs S)) ∧ Up W w') := by
        intro W hW
        have h9 := loaded_any _ st2 [97] 0 q W (hst6.up hW) hsi2.good hxa h0 hla hq32
        rw [hlda, HAA.out] at h9
        exact h9
      have HCH : Hid (∀ W, Up ((w5.setCell ⟨X, 0, none⟩ (.slice o3 n3 c3)).setCell ⟨X, 1, none⟩ (.slice o4 n4 c4)) W → Calls Try.prog 7 #[.agg #[.slice o3 n3 c3, .slice o4 n4 c4]] W fun e w' => e = .returned (.int .i64 0) ∧ Up W w') := by
        intro W hW
        have h9 := vcheck_any _ st2 W (hst6.up hW) (good_wf hsi2.good)
        rw [chkS_zero.2 hsi2.good] at h9
        exact h9
      have hmax : ∀ (ts : Array TypeId) (t : TypeId) (W : World), (Builtin.max_ ts t #[.int .i64 0, .int .i64 ((q : Int) - 1)]).run Try.prog W = .ok (.int .i64 ((q : Int) - 1)) W := by
        intro ts t W
        simp [Builtin.max_, Builtin.max2]
        omega
      have hw1 : IntKind.i64.wrap ((n1 : Int) + (q2 : Int)) = (n1 : Int) + (q2 : Int) := IntWalk.i64_in _ (by omega)
      have hw2 : IntKind.i64.wrap ((q : Int) - 1) = (q : Int) - 1 := IntWalk.i64_in _ (by omega)
      have hw3 : IntKind.i64.wrap ((n1 : Int) + (q2 : Int) - ((q : Int) - 1)) = (n1 : Int) + (q2 : Int) - ((q : Int) - 1) := IntWalk.i64_in _ (by omega)
      have hle : decide ((n3 : Int) ≤ (n1 : Int) + (q2 : Int) - ((q : Int) - 1)) = true := decide_eq_true (by omega)
      clear hok2 hst2 hsi2 hst6 hxb hlb hldb hxa hla hlda hbag hn3 hn364 hq2 hq20 hq232 hn64 hbg hq0 hq32 h0 h1
      go_upto_region 10 with (fail)
      clear r0 r1 r2 r3
      generalize (w5.setCell ⟨X, 0, none⟩ (.slice o3 n3 c3)).setCell ⟨X, 1, none⟩ (.slice o4 n4 c4) = W6 at HX6 HUW6 HLB HLA HCH ⊢
      have k0 := HX6.out.cell (j := 0) rfl
      have k1 := HX6.out.cell (j := 1) rfl
      go_wp2_with fail
      refine (HLB.out _ (Up.refl _)).mono ?_
      rintro e w7 ⟨rfl, u7⟩
      have HU7 := Lib.hid u7
      have HX7 := Lib.hid (HX6.out.up u7)
      clear u7 k0 k1
      have k0 := HX7.out.cell (j := 0) rfl
      have k1 := HX7.out.cell (j := 1) rfl
      go_wp2_with fail
      refine (HLA.out _ HU7.out).mono ?_
      rintro e w8 ⟨rfl, u8⟩
      have HU8 := Lib.hid (HU7.out.trans u8)
      have HX8 := Lib.hid (HX7.out.up u8)
      clear u8 k0 k1
      have k0 := HX8.out.cell (j := 0) rfl
      have k1 := HX8.out.cell (j := 1) rfl
      go_wp2_with fail
      refine (HCH.out _ HU8.out).mono ?_
      rintro e w9 ⟨rfl, u9⟩
      have HU9 := Lib.hid (HUW6.out.trans (HU8.out.trans u9))
      have HX9 := Lib.hid (HX8.out.up u9)
      clear u9 k0 k1
      have k0 := HX9.out.cell (j := 0) rfl
      have k1 := HX9.out.cell (j := 1) rfl
      go_wp2_with fail
      go_ret
      exact ⟨rfl, HU9.out⟩

end Go.Proofs.Ytjmmifanaffegaa
