/-
  The law SyncFinds, walked: for every two lists the Go text returns true; nothing that was there turns. Conditions: as each says.
-/
import Derived.Test.YtacbhjjmbepngaaLawSync1
import Derived.Test.YtacbhjjmbepngaaLawTree5
namespace Go.Proofs.Ytacbhjjmbepngaa
open Go.RowKit
open Go.Proofs
open WoolTree

theorem cmp_abac : cpE [[97], [98]] [[97], [99]] = 0 ∧ cpV [[97], [98]] [[97], [99]] = ([1], 3) := by decide +kernel

/-- rows of unlike elements: a store into one leaves the other -/
theorem own_other {w : World} {base T T2 m n g j : Nat} {v x : Value} {L L2 : List Value} (h : w.ownsRow base T m v n L) (h2 : RowC w g T2 L2) (hne : T ≠ T2) : (w.setCell ⟨g, j, none⟩ x).ownsRow base T m v n L := by
  rcases own_row h with ⟨rfl, rfl, rfl⟩ | ⟨g1, cap, sp, rfl, hb, hr, h3, h4, h5⟩
  · exact World.ownsRow_nil _ _ _ _
  · exact own_mk hb (hr.other (RowC.apart hr h2 hne) j x) h.1 h3 h4 h5

theorem mix_snoc (a b : List (List UInt8)) (L : List Nat) (i : Nat) (_hi : i < a.length) (hb : i < b.length) : mix a b 0 (L ++ [i]) = (mix a b 0 L).set i b[i] := by
  apply List.ext_getElem
  · rw [List.length_set, mix_length, mix_length]
  · intro k h1 h2
    rw [mix_length] at h1
    rw [List.getElem_set, mix_get a b 0 _ k h1]
    by_cases e : i = k
    · subst e
      rw [if_pos rfl, if_pos (by simp), List.getD_eq_getElem?_getD, List.getElem?_eq_getElem hb]; rfl
    · rw [if_neg e, mix_get a b 0 L k h1]
      by_cases hk : k ∈ L
      · rw [if_pos (by simp [hk]), if_pos (by simpa using hk)]
      · rw [if_neg (by simp [hk]; omega), if_neg (by simpa using hk)]

theorem row_txs {w : World} {g n c : Nat} {l : List (List UInt8)} {sp : List Value} (h : RowC w g 9 (fl txC l ++ sp)) (hl : l.length = n) (h1 : n ≤ c) (h2 : c ≤ maxLen) : Txs w (.slice (some ⟨g, 0, none⟩) n c) l := by
  refine ⟨fl_length txC_len l, _, c, by rw [hl], by omega, h2, .inr ⟨g, 0, rfl, fun j u hj => ?_⟩⟩
  rw [Nat.zero_add]
  exact h.cell (by rw [List.getElem?_append_left (List.getElem?_eq_some_iff.1 hj).1]; exact hj)

theorem set_txs (l : List (List UInt8)) (sp : List Value) (i : Nat) (t : List UInt8) (h : i < l.length) : (fl txC l ++ sp).set i (.string (bs t)) = fl txC (l.set i t) ++ sp := by
  have hl := fl_length (f := txC) txC_len l
  rw [List.set_append_left _ _ (by rw [hl]; omega)]
  congr 1
  have e := fl_set (f := txC) txC_len l i h t
  rw [e, Nat.mul_one, List.set_eq_take_append_cons_drop, if_pos (by rw [hl]; omega)]
  rfl

structure FdI (a b : List (List UInt8)) (X : List Nat) (w : World) (vx : Value) (g k : Nat) (sp : List Value) (wr : World) : Prop where
  le : k ≤ X.length
  row : RowC wr g 9 (fl txC (mix a b 0 (X.take k)) ++ sp)
  xs : Ints wr w.heap.size vx X
  up : Up w wr

def FdRel (a b : List (List UInt8)) (X : List Nat) (w : World) (vx : Value) (g : Nat) (sp : List Value) (i : Value) (wr : World) : Prop := ∃ k : Nat, i = .int .i64 (k : Int) ∧ FdI a b X w vx g k sp wr

set_option maxRecDepth 100000 in
set_option maxHeartbeats 4000000 in
theorem syncFinds_walk (a0 : Option Addr) (len0 cap0 : Nat) (z0 : List (List UInt8)) (a1 : Option Addr) (len1 cap1 : Nat) (z1 : List (List UInt8)) (w : World) (w0 : Txs w (.slice a0 len0 cap0) z0) (w1 : Txs w (.slice a1 len1 cap1) z1) :
    Calls Try.prog 9 #[.slice a0 len0 cap0, .slice a1 len1 cap1] w fun e w' => e = .returned (.bool true) ∧ Up w w' := by
  have hl1 := Txs.lit w [[97], [98]] 2 rfl (by omega)
  have hl2 := Txs.lit (w.alloc (.cells (fl txC [[97], [98]]).toArray 9)) [[97], [99]] 2 rfl (by omega)
  rw [show (w.alloc (.cells (fl txC [[97], [98]]).toArray 9)).heap.size = w.heap.size + 1 by simp] at hl2
  have hcc := compareT_any _ _ _ _ _ (hl1.up (Up.alloc _ _)) hl2
  unfold CmpPost at hcc
  rw [cmp_abac.1, cmp_abac.2] at hcc
  have HCC : Hid (Calls Try.prog 26 #[.slice (some ⟨w.heap.size, 0, none⟩) 2 2, .slice (some ⟨w.heap.size + 1, 0, none⟩) 2 2] ((w.alloc (.cells #[.string ⟨#[97]⟩, .string ⟨#[98]⟩] 9)).alloc (.cells #[.string ⟨#[97]⟩, .string ⟨#[99]⟩] 9)) fun e w' => ∃ v, e = .returned (.tuple #[v, .int .i64 3, .int .i64 0]) ∧ Ints w' ((w.alloc (.cells #[.string ⟨#[97]⟩, .string ⟨#[98]⟩] 9)).alloc (.cells #[.string ⟨#[97]⟩, .string ⟨#[99]⟩] 9)).heap.size v [1] ∧ Up ((w.alloc (.cells #[.string ⟨#[97]⟩, .string ⟨#[98]⟩] 9)).alloc (.cells #[.string ⟨#[97]⟩, .string ⟨#[99]⟩] 9)) w') := hcc
  clear hcc hl1 hl2
  have HEQ : Hid (∀ W v b, Ints W b v [1] → Calls Try.prog 28 #[v, .slice (some ⟨W.heap.size, 0, none⟩) 1 1] (W.alloc (.cells #[.int .i64 1] 3)) fun e w' => e = .returned (.bool true) ∧ Up (W.alloc (.cells #[.int .i64 1] 3)) w') :=
    fun W v b h => equal_yes _ _ b _ [1] _ (by simp) (h.up (Up.alloc _ _)) (one_lit W 1)
  have HAB := Lib.hid (fun W (hW : Up w W) => compareT_any _ _ z0 z1 W (w0.up hW) (w1.up hW))
  unfold CmpPost at HAB
  have HW0 := Lib.hid w0
  have HW1 := Lib.hid w1
  obtain ⟨hlen0, _⟩ := w0.len
  obtain ⟨hlen1, _⟩ := w1.len
  by_cases hcp : cpE z0 z1 = 0
  · obtain ⟨ha, hb, hl⟩ := cpE_ok hcp
    obtain ⟨h0, h32, sa⟩ := chkT_ok ha
    obtain ⟨_, _, sb⟩ := chkT_ok hb
    have hv : cpV z0 z1 = cm TH z0.length z0 z1 0 := if_pos hcp
    rw [hcp, hv] at HAB
    have hmany := cm_many TH z0.length z0 z1 0 h0 (Nat.le_refl _)
    have hshort := cm_short z0.length z0 z1 0 h0 (Nat.le_refl _)
    obtain ⟨hpw, hrg⟩ := cm_rise TH z0.length z0 z1 0 h0
    have hdf := cm_differ TH z0.length z0 z1 0 h0 h32 hl
    have hfo := cm_found TH z0.length z0 z1 0 h0 (Nat.le_refl _) h32 hl
    have hlen : len1 = len0 := by omega
    subst hlen
    generalize cm TH z0.length z0 z1 0 = r at *
    obtain ⟨X, N⟩ := r
    simp only at HAB hmany hshort hpw hrg hdf hfo
    have HSO := Lib.hid (fun W v b (h : Ints W b v X) => isSortedT_yes v b X W (by omega) h (hpw.imp Nat.le_of_lt))
    have HCN := Lib.hid (fun W (hW : Up w W) => cloneT_any _ z0 W (w0.up hW) (by omega))
    unfold ClTPost at HCN
    have hM := mix_length z0 z1 0 X
    have hck : chkT (mix z0 z1 0 X) = 0 := by
      refine chkT_of (by omega) (by omega) (fun t ht => ?_)
      obtain ⟨i, hi, rfl⟩ := List.getElem_of_mem ht
      rw [mix_length] at hi
      rw [mix_get z0 z1 0 X i hi]
      split
      · rw [List.getD_eq_getElem?_getD, List.getElem?_eq_getElem (by omega)]
        exact sb _ (List.getElem_mem _)
      · exact sa _ (List.getElem_mem _)
    have HEF := Lib.hid (fun W v (hW : Up w W) (h : Txs W v (mix z0 z1 0 X)) => equalT_any v _ _ z1 W (by omega) h (HW1.out.up hW))
    have HCL := Lib.hid (fun W v (hW : Up w W) (h : Txs W v (mix z0 z1 0 X)) => clash_any v _ _ z1 W h (HW1.out.up hW))
    have hcm : cpE (mix z0 z1 0 X) z1 = 0 := cpE_of hck hb (by omega)
    have drr : ((rtx TH (mix z0 z1 0 X) : Int) != (rtx TH z1 : Int)) = false := by rw [hfo]; simp
    have HCR : Hid (((mix z0 z1 0 X) == z1) = false → ∃ S T : List UInt8, clR (mix z0 z1 0 X) z1 = .tuple #[.string (bs S), .string (bs T), .int .i64 0]) := by
      intro he
      exact ⟨_, _, clR_ok hcm (by rw [he, drr]; rfl)⟩
    have HRG := Lib.hid hrg
    have HDF := Lib.hid hdf
    have HMS := Lib.hid (fun L i h1 h2 => mix_snoc z0 z1 L i h1 h2)
    have HML := Lib.hid (fun L => mix_length z0 z1 0 L)
    have HL := Lib.hid hl
    have HN0 := Lib.hid hlen0
    obtain ⟨x, hx⟩ : ∃ x, X.length = x := ⟨_, rfl⟩
    have HX := Lib.hid hx
    rw [← hlen0] at hmany hshort h0 h32
    rw [hx] at hshort
    have d1 : decide ((N : Int) < 1) = false := decide_eq_false (by omega)
    have d2 : decide ((N : Int) > 2 * (len1 : Int) - 1) = false := decide_eq_false (by omega)
    have d3 : decide (2 * (len1 : Int) - 1 < (N : Int)) = false := decide_eq_false (by omega)
    clear w0 w1 hlen0 hlen1 hcp ha hb sa sb hl hv hpw hrg hdf hfo hM hck hcm drr
    go_enter Try.func9, Try.ntmps9
    go_wp2_with fail
    refine HCC.out.mono ?_
    rintro e w1 ⟨v1, rfl, hi1, u1⟩
    obtain ⟨o1, c1, hv1⟩ := hi1.shape
    subst hv1
    have HI1 := Lib.hid hi1
    have HU1 := Lib.hid (((Up.alloc _ _).trans (Up.alloc _ _)).trans u1)
    clear u1 hi1
    go_wp2_with fail
    refine (HEQ.out _ _ _ HI1.out).mono ?_
    rintro e w2 ⟨rfl, u2⟩
    have HU2 := Lib.hid ((HU1.out.trans (Up.alloc _ _)).trans u2)
    clear u2 HI1
    go_wp2_with fail
    refine (HAB.out _ HU2.out).mono ?_
    rintro e w3 ⟨v3, rfl, hi3, u3⟩
    obtain ⟨o3, c3, hv3⟩ := hi3.shape
    subst hv3
    rw [hx] at hi3 ⊢
    clear hx
    have HI3 := Lib.hid (show Ints w3 w.heap.size _ X from own_baseT hi3 HU2.out.size)
    have HU3 := Lib.hid (HU2.out.trans u3)
    clear u3 hi3
    go_wp2_with fail
    refine (HSO.out _ _ _ HI3.out).mono ?_
    rintro e w4 ⟨rfl, u4⟩
    have HI4 := Lib.hid (HI3.out.up u4)
    have HU4 := Lib.hid (HU3.out.trans u4)
    clear u4 HI3
    go_wp2_with fail
    refine (HCN.out _ HU4.out).mono ?_
    rintro e w5 ⟨v5, rfl, ho5, u5⟩
    have HI5 := Lib.hid (HI4.out.up u5)
    have HU5 := Lib.hid (HU4.out.trans u5)
    have hs4 := HU4.out.size
    clear HI4 u5
    rcases own_row ho5 with ⟨_, hz, _⟩ | ⟨g, c5, sp, rfl, hg, hrow, hc1, hc2, _⟩
    · exact absurd hz (by have := HN0.out; omega)
    rw [← HN0.out] at hc1 ⊢
    have HROW : Hid (RowC w5 g 9 (fl txC (mix z0 z1 0 (X.take 0)) ++ sp)) := by
      show RowC _ _ _ _
      rw [List.take_zero, mix_nil]
      exact hrow
    have hgw : w.heap.size ≤ g := by omega
    clear ho5 hrow
    go_wp2_with fail
    go_loopw [13, 68] (fun _ i wr => FdRel z0 z1 X w (.slice o3 x c3) g sp i wr) (fun _ i _ => x - (intOf i).toNat)
    case atStart => exact ⟨0, rfl, Nat.zero_le _, HROW.out, HI5.out, HU5.out⟩
    case round =>
      obtain ⟨k, rfl, hk, hrow, hxs, hu⟩ := hrel
      have HR := Lib.hid hrow
      have HXS := Lib.hid hxs
      have HU := Lib.hid hu
      rw [HX.out] at hk
      by_cases hlt : k < x
      · have hkX : k < X.length := by rw [HX.out]; exact hlt
        have dk : decide (k < x) = true := decide_eq_true hlt
        obtain ⟨g3, c3', hs3, _, _, hm1, hm2⟩ := (show Ints wr w.heap.size (.slice o3 X.length c3) X by rw [HX.out]; exact hxs).block (by omega)
        simp only [Value.slice.injEq, true_and] at hs3
        obtain ⟨rfl, rfl⟩ := hs3
        have hcx := (show Ints wr w.heap.size (.slice (some ⟨g3, 0, none⟩) X.length c3) X by rw [HX.out]; exact hxs).cell k hkX
        have hir := HRG.out _ (List.getElem_mem hkX)
        have hid := HDF.out _ (List.getElem_mem hkX)
        have htk : X.take (k + 1) = X.take k ++ [X[k]] := by rw [List.take_succ_eq_append_getElem hkX]
        obtain ⟨i, hi⟩ : ∃ i, X[k] = i := ⟨_, rfl⟩
        rw [hi] at hcx hir hid htk
        have hil : i < z0.length := by omega
        have hil1 : i < z1.length := by have := HL.out; omega
        have hil0 : i < len1 := by have := HN0.out; omega
        obtain ⟨b1, f1, e1, g1⟩ := (HW0.out.up hu).at (fun e => by rw [e] at hil; simp at hil)
        obtain ⟨b2, f2, e2, g2⟩ := (HW1.out.up hu).at (fun e => by rw [e] at hil1; simp at hil1)
        have q1 := g1 i hil
        have q2 := g2 i hil1
        rw [Nat.sub_zero, List.getElem?_eq_getElem hil, List.getElem?_eq_getElem hil1] at hid
        have hne := txt_eqT z0[i] z1[i]
        rw [show (z0[i] == z1[i]) = false by rw [beq_eq_false_iff_ne]; intro e; exact hid (by rw [e])] at hne
        have hst := set_txs (mix z0 z1 0 (X.take k)) sp i z1[i] (by rw [HML.out]; exact hil)
        rw [← HMS.out (X.take k) i hil hil1, ← htk] at hst
        have HST := Lib.hid hst
        have hci : i < (fl txC (mix z0 z1 0 (X.take k)) ++ sp).length := by rw [List.length_append, fl_length txC_len, HML.out]; omega
        have p1 := hrow.cell (List.getElem?_eq_getElem hci)
        have p2 := hrow.frozen i
        generalize (fl txC (mix z0 z1 0 (X.take k)) ++ sp)[i] = old at p1
        generalize z0[i] = t0 at *
        generalize z1[i] = t1 at *
        have di1 : decide ((i : Int) < 0) = false := decide_eq_false (by omega)
        have di2 : decide ((i : Int) ≥ (len1 : Int)) = false := decide_eq_false (by omega)
        have di3 : decide (len1 ≤ i) = false := decide_eq_false (by omega)
        clear g1 g2 hid hst hci hir hrow hxs hu htk hi
        subst e1 e2
        go_wp2_with fail
        go_quiet (fail)
        have q3 := ((Up.drewN wr nq).cell (World.block_lt_of_cell? wr _ q2)).trans q2
        have p3 := ((Up.drewN wr nq).cell (World.block_lt_of_cell? wr _ p1)).trans p1
        have p4 := ((Up.drewN wr nq).frozen (World.block_lt_of_cell? wr _ p1)).trans p2
        have HR4 := Lib.hid (HR.out.up (Up.drewN wr nq))
        have HX4 := Lib.hid (HXS.out.up (Up.drewN wr nq))
        have HU4' := Lib.hid (HU.out.trans (Up.drewN wr nq))
        generalize wr.drewN nq = wd at q3 p3 p4 HR4 HX4 HU4' ⊢
        clear q1 q2 p1 p2
        go_wp2_with fail
        have HR5 := Lib.hid (HR4.out.set i (.string (bs t1)))
        rw [HST.out] at HR5
        have HX5 : Hid (Ints (wd.setCell ⟨g, i, none⟩ (.string (bs t1))) w.heap.size (.slice (some ⟨g3, 0, none⟩) x c3) X) := own_other HX4.out HR4.out (by decide)
        have HU5' : Hid (Up w (wd.setCell ⟨g, i, none⟩ (.string (bs t1)))) := Below.setCell HU4'.out (p := ⟨g, i, none⟩) hgw _
        generalize wd.setCell ⟨g, i, none⟩ (.string (bs t1)) = we at HR5 HX5 HU5' ⊢
        go_roundw
        case rel => exact ⟨k + 1, by go_num, ⟨hkX, HR5.out, HX5.out, HU5'.out⟩⟩
        case measure => simp only [intOf]; omega
      · have dk : decide (k < x) = false := decide_eq_false hlt
        rw [List.take_of_length_le (by rw [HX.out]; omega)] at hrow
        have HF := Lib.hid (row_txs hrow (by rw [HML.out, ← HN0.out]) hc1 hc2)
        have HEF2 := Lib.hid (HEF.out _ _ hu HF.out)
        cases he : (mix z0 z1 0 X == z1) with
        | true =>
          rw [he] at HEF2
          clear hrow hxs hu he
          go_wp2_with fail
          refine HEF2.out.mono ?_
          rintro e w6 ⟨rfl, u6⟩
          go_wp2_with fail
          go_ret
          exact ⟨rfl, HU.out.trans u6⟩
        | false =>
          rw [he] at HEF2
          obtain ⟨S, T, hcr⟩ := HCR.out he
          have HCL2 := Lib.hid (fun W (hW : Up wr W) => HCL.out W _ (HU.out.trans hW) (HF.out.up hW))
          rw [hcr] at HCL2
          clear hrow hxs hu he hcr
          go_wp2_with fail
          refine HEF2.out.mono ?_
          rintro e w6 ⟨rfl, u6⟩
          have HU6 := Lib.hid u6
          clear u6
          go_wp2_with fail
          refine (HCL2.out _ HU6.out).mono ?_
          rintro e w7 ⟨rfl, u7⟩
          go_wp2_with fail
          go_ret
          exact ⟨rfl, HU.out.trans (HU6.out.trans u7)⟩
  · have hv : cpV z0 z1 = ([], 0) := if_neg hcp
    rw [hv] at HAB
    have hne : (cpE z0 z1 != 0) = true := by rw [bne_iff_ne]; exact hcp
    simp only at HAB
    generalize cpE z0 z1 = E at *
    clear w0 w1 hlen0 hlen1 hcp hv
    go_enter Try.func9, Try.ntmps9
    go_wp2_with fail
    refine HCC.out.mono ?_
    rintro e w1 ⟨v1, rfl, hi1, u1⟩
    obtain ⟨o1, c1, hv1⟩ := hi1.shape
    subst hv1
    have HI1 := Lib.hid hi1
    have HU1 := Lib.hid (((Up.alloc _ _).trans (Up.alloc _ _)).trans u1)
    clear u1 hi1
    go_wp2_with fail
    refine (HEQ.out _ _ _ HI1.out).mono ?_
    rintro e w2 ⟨rfl, u2⟩
    have HU2 := Lib.hid ((HU1.out.trans (Up.alloc _ _)).trans u2)
    clear u2 HI1
    go_wp2_with fail
    refine (HAB.out _ HU2.out).mono ?_
    rintro e w3 ⟨v3, rfl, hi3, u3⟩
    obtain ⟨o3, c3, hv3⟩ := hi3.shape
    subst hv3
    have HU3 := Lib.hid (HU2.out.trans u3)
    clear u3 hi3
    go_wp2_with fail
    go_ret
    exact ⟨rfl, HU3.out⟩

end Go.Proofs.Ytacbhjjmbepngaa
