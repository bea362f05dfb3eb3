/-
  The walk of the law ListsOwn: what is handed in stays as it is, and what is answered shares nothing with it. Condition: a slice takes at most 2^47 - 4096 bytes (the form's reach).
-/
import Derived.Test.YtemineffflodcaaJListsOwn48
namespace Go.Proofs.Ytemineffflodcaa
open Go.RowKit
open Go.Proofs
open WoolTree

theorem OR.ofRow {w : World} {g T n : Nat} {L sp : List Value} (h : RowC w g T (L ++ sp)) (hL : L.length = n) (hsp : sp.length = 3) (hn : n + 3 ≤ maxLen) : OR w g (g + 1) T 1 (.slice (some ⟨g, 0, none⟩) n (n + 3)) n L :=
  ⟨own_mk (Nat.le_refl _) h (by omega) (by omega) hn (by omega), fun b hb => by
    have e : g = b := by injection hb
    omega⟩

set_option maxRecDepth 100000 in
set_option maxHeartbeats 8000000 in
theorem listsOwn_walk (a0 : Int) (a1 : ByteArray) (a2 : Option Addr) (len2 cap2 : Nat) (z2 : List Int) (a3 : Option Addr) (len3 cap3 : Nat) (z3 : List (List UInt8)) (a4 : Option Addr) (len4 cap4 : Nat) (z4 : List (List UInt8)) (a5 : Int) (w : World)
    (_w0 : (Lit.int .i64 a0).wf = true) (_w1 : a1.size ≤ 140737488351232) (w2 : IsRow .i64 w a2 len2 cap2 z2) (w3 : Txs w (.slice a3 len3 cap3) z3) (w4 : Txs w (.slice a4 len4 cap4) z4) (_w5 : (Lit.int .i64 a5).wf = true) (s2 : cap2 * 8 ≤ 140737488351232) (s3 : cap3 * 16 ≤ 140737488351232) (s4 : cap4 * 16 ≤ 140737488351232) :
    Calls Try.prog 3 #[.int .i64 a0, .string a1, .slice a2 len2 cap2, .slice a3 len3 cap3, .slice a4 len4 cap4, .int .i64 a5] w fun e w' => e = .returned (.bool true) ∧ Up w w' := by
  have hse := (row_seen w2).1
  obtain ⟨zs, hzs⟩ : ∃ zs, z2.take len2 = zs := ⟨_, rfl⟩
  rw [hzs] at hse
  have hE := seen_sl hse
  have lenOf : ∀ (v : Value) (a : Option Addr) (n c m : Nat) (L : List Value) (q : Nat), Sl w q v m L → v = .slice a n c → n = m ∧ m ≤ c := by
    intro v a n c m L q h e
    obtain ⟨o', c', hv, hle, _⟩ := h.slice
    rw [e] at hv
    cases hv
    exact ⟨rfl, hle⟩
  obtain ⟨hn2, hle2⟩ := lenOf _ _ _ _ _ _ _ hE rfl
  obtain ⟨hn3, hle3⟩ := lenOf _ _ _ _ _ _ _ w3 rfl
  obtain ⟨hn4, hle4⟩ := lenOf _ _ _ _ _ _ _ w4 rfl
  have LE : Hid (zs.length * 8 ≤ 140737488351232) := by show _ ≤ _; omega
  have LA : Hid (z3.length * 16 ≤ 140737488351232) := by show _ ≤ _; omega
  have LB : Hid (z4.length * 16 ≤ 140737488351232) := by show _ ≤ _; omega
  subst hn2 hn3 hn4
  have HE0 := Lib.hid hE
  have HA0 := Lib.hid w3
  have HB0 := Lib.hid w4
  have K2 := Lib.hid s2
  have K3 := Lib.hid s3
  have K4 := Lib.hid s4
  have TLA := Lib.hid (fl_length (f := txC) txC_len z3)
  have TLB := Lib.hid (fl_length (f := txC) txC_len z4)
  have LYS := Lib.hid (endsOf_len a1)
  have LPR := Lib.hid (prfV_len z3 a5)
  clear lenOf hse hzs hE hle2 hle3 hle4 w2 w3 w4 s2 s3 s4
  go_enter Try.func3, Try.ntmps3
  go_wp2_with fail
  refine (factors_ok 4 w (by omega) (by omega)).mono ?_
  rintro e W1 ⟨v, l, hf, hll, rfl, hi, u⟩
  clear hll
  obtain rfl := WoolMath.factors_unique hf fac4
  obtain ⟨o0, c0, rfl⟩ := hi.shape
  have HI := Lib.hid hi
  have HU_1 := Lib.hid u
  have S1 : Hid (w.heap.size ≤ W1.heap.size) := u.size
  clear hf hi u
  go_wp2_with fail
  have hlit : Ints (W1.alloc (.cells #[.int .i64 2, .int .i64 2] 3)) 0 (.slice (some ⟨W1.heap.size, 0, none⟩) 2 2) [2, 2] :=
    World.ownsRow_lit W1 _ 2 (Nat.zero_le _) (by unfold maxLen; omega) rfl
  refine (equal_yes _ _ _ _ [2, 2] _ (by simp) (HI.out.up (Up.alloc _ _)) hlit).mono ?_
  rintro e W2 ⟨rfl, u⟩
  have HU_2 := Lib.hid ((HU_1.out.trans (Up.alloc _ _)).trans u)
  have S2 : Hid (W1.heap.size ≤ W2.heap.size) := ((Up.alloc _ _).trans u).size
  clear hlit u HU_1 HI
  go_wp2_with fail
  refine (roomyN_any a2 zs.length cap2 (il zs) (-7) _ (HE0.out.up HU_2.out) (il_one zs) K2.out).mono ?_
  rintro e W3 ⟨g1, rfl, hg1, hr1, u⟩
  have HU_3 := Lib.hid (HU_2.out.trans u)
  have S3 : Hid (W2.heap.size ≤ W3.heap.size) := u.size
  clear u HU_2 
  have HIR_3 := Lib.hid (hr1)
  have HIN_3 := Lib.hid (OR.ofRow hr1 (il_length zs) (by simp) (by have := LE.out; unfold maxLen; omega))
  have G1 : Hid (W2.heap.size ≤ g1 ∧ g1 < W3.heap.size) := ⟨hg1, hr1.lt⟩
  clear hg1 hr1
  go_wp2_with fail
  refine (roomyT_any a3 z3.length cap3 (fl txC z3) ⟨#[109, 97, 114, 107]⟩ _ (HA0.out.up HU_3.out) (fl_one txC_one z3) K3.out).mono ?_
  rintro e W4 ⟨g2, rfl, hg2, hr2, u⟩
  have HIR_4 := Lib.hid (HIR_3.out.up u)
  have HIN_4 := Lib.hid (HIN_3.out.up u)
  have HU_4 := Lib.hid (HU_3.out.trans u)
  have S4 : Hid (W3.heap.size ≤ W4.heap.size) := u.size
  clear u HU_3 HIR_3 HIN_3
  have HAR_4 := Lib.hid (hr2)
  have HAN_4 := Lib.hid (OR.ofRow hr2 (by rw [TLA.out, Nat.mul_one]) (by simp) (by have := LA.out; unfold maxLen; omega))
  have G2 : Hid (W3.heap.size ≤ g2 ∧ g2 < W4.heap.size) := ⟨hg2, hr2.lt⟩
  clear hg2 hr2
  go_wp2_with fail
  refine (roomyT_any a4 z4.length cap4 (fl txC z4) ⟨#[109, 97, 114, 107]⟩ _ (HB0.out.up HU_4.out) (fl_one txC_one z4) K4.out).mono ?_
  rintro e W5 ⟨g3, rfl, hg3, hr3, u⟩
  have HIR_5 := Lib.hid (HIR_4.out.up u)
  have HIN_5 := Lib.hid (HIN_4.out.up u)
  have HAR_5 := Lib.hid (HAR_4.out.up u)
  have HAN_5 := Lib.hid (HAN_4.out.up u)
  have HU_5 := Lib.hid (HU_4.out.trans u)
  have S5 : Hid (W4.heap.size ≤ W5.heap.size) := u.size
  clear u HU_4 HIR_4 HIN_4 HAR_4 HAN_4
  have HBR_5 := Lib.hid (hr3)
  have HBN_5 := Lib.hid (OR.ofRow hr3 (by rw [TLB.out, Nat.mul_one]) (by simp) (by have := LB.out; unfold maxLen; omega))
  have G3 : Hid (W4.heap.size ≤ g3 ∧ g3 < W5.heap.size) := ⟨hg3, hr3.lt⟩
  clear hg3 hr3
  go_wp2_with fail
  refine (less_any a0 20 _ (by omega)).mono ?_
  rintro e w' ⟨rfl, rfl⟩
  obtain ⟨m, hm⟩ : ∃ m, within a0 (2 ^ 20) = m := ⟨_, rfl⟩
  have HM := Lib.hid hm
  rw [hm]
  clear hm
  go_wp2_with fail
  refine (factors_open m _).mono ?_
  rintro e W6 ⟨zx, hfx, hlx, ox, cx, ex, rfl, hx, u⟩
  have HIR_6 := Lib.hid (HIR_5.out.up u)
  have HIN_6 := Lib.hid (HIN_5.out.up u)
  have HAR_6 := Lib.hid (HAR_5.out.up u)
  have HAN_6 := Lib.hid (HAN_5.out.up u)
  have HBR_6 := Lib.hid (HBR_5.out.up u)
  have HBN_6 := Lib.hid (HBN_5.out.up u)
  have HU_6 := Lib.hid (HU_5.out.trans u)
  have S6 : Hid (W5.heap.size ≤ W6.heap.size) := u.size
  clear u HU_5 HIR_5 HIN_5 HAR_5 HAN_5 HBR_5 HBN_5
  have HX_6 := Lib.hid (hx)
  have HFX := Lib.hid hfx
  have LX := Lib.hid hlx
  clear hfx hlx hx
  go_wp2_with fail
  refine (ends_open a1 _).mono ?_
  rintro e W7 ⟨oy, cy, ey, rfl, hy, u⟩
  have HIR_7 := Lib.hid (HIR_6.out.up u)
  have HIN_7 := Lib.hid (HIN_6.out.up u)
  have HAR_7 := Lib.hid (HAR_6.out.up u)
  have HAN_7 := Lib.hid (HAN_6.out.up u)
  have HBR_7 := Lib.hid (HBR_6.out.up u)
  have HBN_7 := Lib.hid (HBN_6.out.up u)
  have HX_7 := Lib.hid (HX_6.out.up u)
  have HU_7 := Lib.hid (HU_6.out.trans u)
  have S7 : Hid (W6.heap.size ≤ W7.heap.size) := u.size
  clear u HU_6 HIR_6 HIN_6 HAR_6 HAN_6 HBR_6 HBN_6 HX_6
  have HY_7 := Lib.hid (hy)
  clear hy
  go_wp2_with fail
  refine (split_open a1 _ zs _ (sl_seen HIN_7.out.sl)).mono ?_
  rintro e W8 ⟨lz, hlz, oz, cz, ez, rfl, hz, u⟩
  have HIR_8 := Lib.hid (HIR_7.out.up u)
  have HIN_8 := Lib.hid (HIN_7.out.up u)
  have HAR_8 := Lib.hid (HAR_7.out.up u)
  have HAN_8 := Lib.hid (HAN_7.out.up u)
  have HBR_8 := Lib.hid (HBR_7.out.up u)
  have HBN_8 := Lib.hid (HBN_7.out.up u)
  have HX_8 := Lib.hid (HX_7.out.up u)
  have HY_8 := Lib.hid (HY_7.out.up u)
  have HU_8 := Lib.hid (HU_7.out.trans u)
  have S8 : Hid (W7.heap.size ≤ W8.heap.size) := u.size
  clear u HU_7 HIR_7 HIN_7 HAR_7 HAN_7 HBR_7 HBN_7 HX_7 HY_7
  have HZ_8 := Lib.hid (hz)
  have LZ := Lib.hid hlz
  clear hlz hz
  go_wp2_with fail
  refine (parse_open a1 _).mono ?_
  rintro e W9 ⟨lt, hlt, ot, ct, et, rfl, ht, u⟩
  have HIR_9 := Lib.hid (HIR_8.out.up u)
  have HIN_9 := Lib.hid (HIN_8.out.up u)
  have HAR_9 := Lib.hid (HAR_8.out.up u)
  have HAN_9 := Lib.hid (HAN_8.out.up u)
  have HBR_9 := Lib.hid (HBR_8.out.up u)
  have HBN_9 := Lib.hid (HBN_8.out.up u)
  have HX_9 := Lib.hid (HX_8.out.up u)
  have HY_9 := Lib.hid (HY_8.out.up u)
  have HZ_9 := Lib.hid (HZ_8.out.up u)
  have HU_9 := Lib.hid (HU_8.out.trans u)
  have S9 : Hid (W8.heap.size ≤ W9.heap.size) := u.size
  clear u HU_8 HIR_8 HIN_8 HAR_8 HAN_8 HBR_8 HBN_8 HX_8 HY_8 HZ_8
  have HT_9 := Lib.hid (ht)
  have LT := Lib.hid hlt
  clear hlt ht
  go_wp2_with fail
  refine (proof_open _ z3 a5 _ HAN_9.out.sl).mono ?_
  rintro e W10 ⟨ou, cu, eu, rfl, hu, u⟩
  have HIR_10 := Lib.hid (HIR_9.out.up u)
  have HIN_10 := Lib.hid (HIN_9.out.up u)
  have HAR_10 := Lib.hid (HAR_9.out.up u)
  have HAN_10 := Lib.hid (HAN_9.out.up u)
  have HBR_10 := Lib.hid (HBR_9.out.up u)
  have HBN_10 := Lib.hid (HBN_9.out.up u)
  have HX_10 := Lib.hid (HX_9.out.up u)
  have HY_10 := Lib.hid (HY_9.out.up u)
  have HZ_10 := Lib.hid (HZ_9.out.up u)
  have HT_10 := Lib.hid (HT_9.out.up u)
  have HU_10 := Lib.hid (HU_9.out.trans u)
  have S10 : Hid (W9.heap.size ≤ W10.heap.size) := u.size
  clear u HU_9 HIR_9 HIN_9 HAR_9 HAN_9 HBR_9 HBN_9 HX_9 HY_9 HZ_9 HT_9
  have HP_10 := Lib.hid (hu)
  clear hu
  go_wp2_with fail
  refine (compare_open _ _ z3 z4 _ HAN_10.out.sl HBN_10.out.sl).mono ?_
  rintro e W11 ⟨zv, ov, cv, qv, ev, hlv, rfl, hv, u⟩
  have HIR_11 := Lib.hid (HIR_10.out.up u)
  have HIN_11 := Lib.hid (HIN_10.out.up u)
  have HAR_11 := Lib.hid (HAR_10.out.up u)
  have HAN_11 := Lib.hid (HAN_10.out.up u)
  have HBR_11 := Lib.hid (HBR_10.out.up u)
  have HBN_11 := Lib.hid (HBN_10.out.up u)
  have HX_11 := Lib.hid (HX_10.out.up u)
  have HY_11 := Lib.hid (HY_10.out.up u)
  have HZ_11 := Lib.hid (HZ_10.out.up u)
  have HT_11 := Lib.hid (HT_10.out.up u)
  have HP_11 := Lib.hid (HP_10.out.up u)
  have HU_11 := Lib.hid (HU_10.out.trans u)
  have S11 : Hid (W10.heap.size ≤ W11.heap.size) := u.size
  clear u HU_10 HIR_10 HIN_10 HAR_10 HAN_10 HBR_10 HBN_10 HX_10 HY_10 HZ_10 HT_10 HP_10
  have HV_11 := Lib.hid (hv)
  have LV := Lib.hid hlv
  clear hlv hv
  go_wp2_with fail
  refine (equalN_sl _ _ zs _ (by have := LE.out; omega) HIN_11.out.sl (HE0.out.up HU_11.out)).mono ?_
  rintro e W12 ⟨rfl, u⟩
  have HIR_12 := Lib.hid (HIR_11.out.up u)
  have HIN_12 := Lib.hid (HIN_11.out.up u)
  have HAR_12 := Lib.hid (HAR_11.out.up u)
  have HAN_12 := Lib.hid (HAN_11.out.up u)
  have HBR_12 := Lib.hid (HBR_11.out.up u)
  have HBN_12 := Lib.hid (HBN_11.out.up u)
  have HX_12 := Lib.hid (HX_11.out.up u)
  have HY_12 := Lib.hid (HY_11.out.up u)
  have HZ_12 := Lib.hid (HZ_11.out.up u)
  have HT_12 := Lib.hid (HT_11.out.up u)
  have HP_12 := Lib.hid (HP_11.out.up u)
  have HV_12 := Lib.hid (HV_11.out.up u)
  have HU_12 := Lib.hid (HU_11.out.trans u)
  have S12 : Hid (W11.heap.size ≤ W12.heap.size) := u.size
  clear u HU_11 HIR_11 HIN_11 HAR_11 HAN_11 HBR_11 HBN_11 HX_11 HY_11 HZ_11 HT_11 HP_11 HV_11
  go_wp2_with fail
  refine (markedN_any g1 zs.length (il zs) (-7) _ HIR_12.out (il_length zs) LE.out).mono ?_
  rintro e W13 ⟨rfl, u⟩
  have HIN_13 := Lib.hid (HIN_12.out.up u)
  have HAR_13 := Lib.hid (HAR_12.out.up u)
  have HAN_13 := Lib.hid (HAN_12.out.up u)
  have HBR_13 := Lib.hid (HBR_12.out.up u)
  have HBN_13 := Lib.hid (HBN_12.out.up u)
  have HX_13 := Lib.hid (HX_12.out.up u)
  have HY_13 := Lib.hid (HY_12.out.up u)
  have HZ_13 := Lib.hid (HZ_12.out.up u)
  have HT_13 := Lib.hid (HT_12.out.up u)
  have HP_13 := Lib.hid (HP_12.out.up u)
  have HV_13 := Lib.hid (HV_12.out.up u)
  have HU_13 := Lib.hid (HU_12.out.trans u)
  have S13 : Hid (W12.heap.size ≤ W13.heap.size) := u.size
  clear u HU_12 HIR_12 HIN_12 HAR_12 HAN_12 HBR_12 HBN_12 HX_12 HY_12 HZ_12 HT_12 HP_12 HV_12
  go_wp2_with fail
  refine (equalT_self _ _ z3 _ (by have := LA.out; omega) HAN_13.out.sl (HA0.out.up HU_13.out)).mono ?_
  rintro e W14 ⟨rfl, u⟩
  have HIN_14 := Lib.hid (HIN_13.out.up u)
  have HAR_14 := Lib.hid (HAR_13.out.up u)
  have HAN_14 := Lib.hid (HAN_13.out.up u)
  have HBR_14 := Lib.hid (HBR_13.out.up u)
  have HBN_14 := Lib.hid (HBN_13.out.up u)
  have HX_14 := Lib.hid (HX_13.out.up u)
  have HY_14 := Lib.hid (HY_13.out.up u)
  have HZ_14 := Lib.hid (HZ_13.out.up u)
  have HT_14 := Lib.hid (HT_13.out.up u)
  have HP_14 := Lib.hid (HP_13.out.up u)
  have HV_14 := Lib.hid (HV_13.out.up u)
  have HU_14 := Lib.hid (HU_13.out.trans u)
  have S14 : Hid (W13.heap.size ≤ W14.heap.size) := u.size
  clear u HU_13 HIN_13 HAR_13 HAN_13 HBR_13 HBN_13 HX_13 HY_13 HZ_13 HT_13 HP_13 HV_13
  go_wp2_with fail
  refine (equalT_self _ _ z4 _ (by have := LB.out; omega) HBN_14.out.sl (HB0.out.up HU_14.out)).mono ?_
  rintro e W15 ⟨rfl, u⟩
  have HIN_15 := Lib.hid (HIN_14.out.up u)
  have HAR_15 := Lib.hid (HAR_14.out.up u)
  have HAN_15 := Lib.hid (HAN_14.out.up u)
  have HBR_15 := Lib.hid (HBR_14.out.up u)
  have HBN_15 := Lib.hid (HBN_14.out.up u)
  have HX_15 := Lib.hid (HX_14.out.up u)
  have HY_15 := Lib.hid (HY_14.out.up u)
  have HZ_15 := Lib.hid (HZ_14.out.up u)
  have HT_15 := Lib.hid (HT_14.out.up u)
  have HP_15 := Lib.hid (HP_14.out.up u)
  have HV_15 := Lib.hid (HV_14.out.up u)
  have HU_15 := Lib.hid (HU_14.out.trans u)
  have S15 : Hid (W14.heap.size ≤ W15.heap.size) := u.size
  clear u HU_14 HIN_14 HAR_14 HAN_14 HBR_14 HBN_14 HX_14 HY_14 HZ_14 HT_14 HP_14 HV_14
  go_wp2_with fail
  refine (markedT_any g2 z3.length (fl txC z3) ⟨#[109, 97, 114, 107]⟩ _ HAR_15.out (by rw [TLA.out, Nat.mul_one]) LA.out).mono ?_
  rintro e W16 ⟨rfl, u⟩
  have HIN_16 := Lib.hid (HIN_15.out.up u)
  have HAN_16 := Lib.hid (HAN_15.out.up u)
  have HBR_16 := Lib.hid (HBR_15.out.up u)
  have HBN_16 := Lib.hid (HBN_15.out.up u)
  have HX_16 := Lib.hid (HX_15.out.up u)
  have HY_16 := Lib.hid (HY_15.out.up u)
  have HZ_16 := Lib.hid (HZ_15.out.up u)
  have HT_16 := Lib.hid (HT_15.out.up u)
  have HP_16 := Lib.hid (HP_15.out.up u)
  have HV_16 := Lib.hid (HV_15.out.up u)
  have HU_16 := Lib.hid (HU_15.out.trans u)
  have S16 : Hid (W15.heap.size ≤ W16.heap.size) := u.size
  clear u HU_15 HIN_15 HAR_15 HAN_15 HBR_15 HBN_15 HX_15 HY_15 HZ_15 HT_15 HP_15 HV_15
  go_wp2_with fail
  refine (markedT_any g3 z4.length (fl txC z4) ⟨#[109, 97, 114, 107]⟩ _ HBR_16.out (by rw [TLB.out, Nat.mul_one]) LB.out).mono ?_
  rintro e W17 ⟨rfl, u⟩
  have HIN_17 := Lib.hid (HIN_16.out.up u)
  have HAN_17 := Lib.hid (HAN_16.out.up u)
  have HBN_17 := Lib.hid (HBN_16.out.up u)
  have HX_17 := Lib.hid (HX_16.out.up u)
  have HY_17 := Lib.hid (HY_16.out.up u)
  have HZ_17 := Lib.hid (HZ_16.out.up u)
  have HT_17 := Lib.hid (HT_16.out.up u)
  have HP_17 := Lib.hid (HP_16.out.up u)
  have HV_17 := Lib.hid (HV_16.out.up u)
  have HU_17 := Lib.hid (HU_16.out.trans u)
  have S17 : Hid (W16.heap.size ≤ W17.heap.size) := u.size
  clear u HU_16 HIN_16 HAN_16 HBR_16 HBN_16 HX_16 HY_16 HZ_16 HT_16 HP_16 HV_16
  go_wp2_with fail
  refine (cloneN_raw _ _ _ _ HX_17.out.sl (il_one _) (by have := LX.out; omega)).mono ?_
  rintro e W18 ⟨vp, rfl, hp, u⟩
  have HIN_18 := Lib.hid (HIN_17.out.up u)
  have HAN_18 := Lib.hid (HAN_17.out.up u)
  have HBN_18 := Lib.hid (HBN_17.out.up u)
  have HX_18 := Lib.hid (HX_17.out.up u)
  have HY_18 := Lib.hid (HY_17.out.up u)
  have HZ_18 := Lib.hid (HZ_17.out.up u)
  have HT_18 := Lib.hid (HT_17.out.up u)
  have HP_18 := Lib.hid (HP_17.out.up u)
  have HV_18 := Lib.hid (HV_17.out.up u)
  have HU_18 := Lib.hid (HU_17.out.trans u)
  have S18 : Hid (W17.heap.size ≤ W18.heap.size) := u.size
  clear u HU_17 HIN_17 HAN_17 HBN_17 HX_17 HY_17 HZ_17 HT_17 HP_17 HV_17
  have CX_18 := Lib.hid (OR.new hp)
  clear hp
  go_wp2_with fail
  refine (cloneN_raw _ _ _ _ HY_18.out.sl (il_one _) (by have := LYS.out; omega)).mono ?_
  rintro e W19 ⟨vq, rfl, hp, u⟩
  have HIN_19 := Lib.hid (HIN_18.out.up u)
  have HAN_19 := Lib.hid (HAN_18.out.up u)
  have HBN_19 := Lib.hid (HBN_18.out.up u)
  have HX_19 := Lib.hid (HX_18.out.up u)
  have HY_19 := Lib.hid (HY_18.out.up u)
  have HZ_19 := Lib.hid (HZ_18.out.up u)
  have HT_19 := Lib.hid (HT_18.out.up u)
  have HP_19 := Lib.hid (HP_18.out.up u)
  have HV_19 := Lib.hid (HV_18.out.up u)
  have CX_19 := Lib.hid (CX_18.out.up u)
  have HU_19 := Lib.hid (HU_18.out.trans u)
  have S19 : Hid (W18.heap.size ≤ W19.heap.size) := u.size
  clear u HU_18 HIN_18 HAN_18 HBN_18 HX_18 HY_18 HZ_18 HT_18 HP_18 HV_18 CX_18
  have CY_19 := Lib.hid (OR.new hp)
  clear hp
  go_wp2_with fail
  refine (cloneT_raw _ _ _ _ HZ_19.out.sl (fl_one txC_one _) (by have := LZ.out; omega)).mono ?_
  rintro e W20 ⟨vr, rfl, hp, u⟩
  have HIN_20 := Lib.hid (HIN_19.out.up u)
  have HAN_20 := Lib.hid (HAN_19.out.up u)
  have HBN_20 := Lib.hid (HBN_19.out.up u)
  have HX_20 := Lib.hid (HX_19.out.up u)
  have HY_20 := Lib.hid (HY_19.out.up u)
  have HZ_20 := Lib.hid (HZ_19.out.up u)
  have HT_20 := Lib.hid (HT_19.out.up u)
  have HP_20 := Lib.hid (HP_19.out.up u)
  have HV_20 := Lib.hid (HV_19.out.up u)
  have CX_20 := Lib.hid (CX_19.out.up u)
  have CY_20 := Lib.hid (CY_19.out.up u)
  have HU_20 := Lib.hid (HU_19.out.trans u)
  have S20 : Hid (W19.heap.size ≤ W20.heap.size) := u.size
  clear u HU_19 HIN_19 HAN_19 HBN_19 HX_19 HY_19 HZ_19 HT_19 HP_19 HV_19 CX_19 CY_19
  have CZ_20 := Lib.hid (OR.new hp)
  clear hp
  go_wp2_with fail
  refine (cloneK_raw _ _ _ _ HT_20.out.sl (tokL_one _) (by have := LT.out; omega)).mono ?_
  rintro e W21 ⟨vc, rfl, hp, u⟩
  have HIN_21 := Lib.hid (HIN_20.out.up u)
  have HAN_21 := Lib.hid (HAN_20.out.up u)
  have HBN_21 := Lib.hid (HBN_20.out.up u)
  have HX_21 := Lib.hid (HX_20.out.up u)
  have HY_21 := Lib.hid (HY_20.out.up u)
  have HZ_21 := Lib.hid (HZ_20.out.up u)
  have HT_21 := Lib.hid (HT_20.out.up u)
  have HP_21 := Lib.hid (HP_20.out.up u)
  have HV_21 := Lib.hid (HV_20.out.up u)
  have CX_21 := Lib.hid (CX_20.out.up u)
  have CY_21 := Lib.hid (CY_20.out.up u)
  have CZ_21 := Lib.hid (CZ_20.out.up u)
  have HU_21 := Lib.hid (HU_20.out.trans u)
  have S21 : Hid (W20.heap.size ≤ W21.heap.size) := u.size
  clear u HU_20 HIN_20 HAN_20 HBN_20 HX_20 HY_20 HZ_20 HT_20 HP_20 HV_20 CX_20 CY_20 CZ_20
  have CT_21 := Lib.hid (OR.new hp)
  clear hp
  go_wp2_with fail
  refine (cloneP_raw _ _ _ _ HP_21.out.sl (fl_one stC_one _) (by have := LPR.out; omega)).mono ?_
  rintro e W22 ⟨vd, rfl, hp, u⟩
  have HIN_22 := Lib.hid (HIN_21.out.up u)
  have HAN_22 := Lib.hid (HAN_21.out.up u)
  have HBN_22 := Lib.hid (HBN_21.out.up u)
  have HX_22 := Lib.hid (HX_21.out.up u)
  have HY_22 := Lib.hid (HY_21.out.up u)
  have HZ_22 := Lib.hid (HZ_21.out.up u)
  have HT_22 := Lib.hid (HT_21.out.up u)
  have HP_22 := Lib.hid (HP_21.out.up u)
  have HV_22 := Lib.hid (HV_21.out.up u)
  have CX_22 := Lib.hid (CX_21.out.up u)
  have CY_22 := Lib.hid (CY_21.out.up u)
  have CZ_22 := Lib.hid (CZ_21.out.up u)
  have CT_22 := Lib.hid (CT_21.out.up u)
  have HU_22 := Lib.hid (HU_21.out.trans u)
  have S22 : Hid (W21.heap.size ≤ W22.heap.size) := u.size
  clear u HU_21 HIN_21 HAN_21 HBN_21 HX_21 HY_21 HZ_21 HT_21 HP_21 HV_21 CX_21 CY_21 CZ_21 CT_21
  have CP_22 := Lib.hid (OR.new hp)
  clear hp
  go_wp2_with fail
  refine (cloneN_raw _ _ _ _ HV_22.out.sl (il_one _) (by have := LV.out; omega)).mono ?_
  rintro e W23 ⟨vf, rfl, hp, u⟩
  have HIN_23 := Lib.hid (HIN_22.out.up u)
  have HAN_23 := Lib.hid (HAN_22.out.up u)
  have HBN_23 := Lib.hid (HBN_22.out.up u)
  have HX_23 := Lib.hid (HX_22.out.up u)
  have HY_23 := Lib.hid (HY_22.out.up u)
  have HZ_23 := Lib.hid (HZ_22.out.up u)
  have HT_23 := Lib.hid (HT_22.out.up u)
  have HP_23 := Lib.hid (HP_22.out.up u)
  have HV_23 := Lib.hid (HV_22.out.up u)
  have CX_23 := Lib.hid (CX_22.out.up u)
  have CY_23 := Lib.hid (CY_22.out.up u)
  have CZ_23 := Lib.hid (CZ_22.out.up u)
  have CT_23 := Lib.hid (CT_22.out.up u)
  have CP_23 := Lib.hid (CP_22.out.up u)
  have HU_23 := Lib.hid (HU_22.out.trans u)
  have S23 : Hid (W22.heap.size ≤ W23.heap.size) := u.size
  clear u HU_22 HIN_22 HAN_22 HBN_22 HX_22 HY_22 HZ_22 HT_22 HP_22 HV_22 CX_22 CY_22 CZ_22 CT_22 CP_22
  have CV_23 := Lib.hid (OR.new hp)
  clear hp
  clear HE0 HA0 HB0 K2 K3 K4 TLA TLB LE LA LB
  go_wp2_with fail
  refine (spoilN_any _ _ _ _ 0 _ HIN_23.out.own).mono ?_
  rintro e W24 ⟨rfl, hg⟩
  have HAN_24 := Lib.hid (HAN_23.out.by HIN_23.out hg (by have q0 := S1.out; have q1 := S2.out; have q2 := S3.out; have q3 := G1.out; have q4 := S4.out; have q5 := G2.out; have q6 := S5.out; have q7 := G3.out; have q8 := S6.out; have q9 := S7.out; have q10 := S8.out; have q11 := S9.out; have q12 := S10.out; have q13 := S11.out; have q14 := S12.out; have q15 := S13.out; have q16 := S14.out; have q17 := S15.out; have q18 := S16.out; have q19 := S17.out; have q20 := S18.out; have q21 := S19.out; have q22 := S20.out; have q23 := S21.out; have q24 := S22.out; have q25 := S23.out; omega))
  have HBN_24 := Lib.hid (HBN_23.out.by HIN_23.out hg (by have q0 := S1.out; have q1 := S2.out; have q2 := S3.out; have q3 := G1.out; have q4 := S4.out; have q5 := G2.out; have q6 := S5.out; have q7 := G3.out; have q8 := S6.out; have q9 := S7.out; have q10 := S8.out; have q11 := S9.out; have q12 := S10.out; have q13 := S11.out; have q14 := S12.out; have q15 := S13.out; have q16 := S14.out; have q17 := S15.out; have q18 := S16.out; have q19 := S17.out; have q20 := S18.out; have q21 := S19.out; have q22 := S20.out; have q23 := S21.out; have q24 := S22.out; have q25 := S23.out; omega))
  have HX_24 := Lib.hid (HX_23.out.by HIN_23.out hg (by have q0 := S1.out; have q1 := S2.out; have q2 := S3.out; have q3 := G1.out; have q4 := S4.out; have q5 := G2.out; have q6 := S5.out; have q7 := G3.out; have q8 := S6.out; have q9 := S7.out; have q10 := S8.out; have q11 := S9.out; have q12 := S10.out; have q13 := S11.out; have q14 := S12.out; have q15 := S13.out; have q16 := S14.out; have q17 := S15.out; have q18 := S16.out; have q19 := S17.out; have q20 := S18.out; have q21 := S19.out; have q22 := S20.out; have q23 := S21.out; have q24 := S22.out; have q25 := S23.out; omega))
  have HY_24 := Lib.hid (HY_23.out.by HIN_23.out hg (by have q0 := S1.out; have q1 := S2.out; have q2 := S3.out; have q3 := G1.out; have q4 := S4.out; have q5 := G2.out; have q6 := S5.out; have q7 := G3.out; have q8 := S6.out; have q9 := S7.out; have q10 := S8.out; have q11 := S9.out; have q12 := S10.out; have q13 := S11.out; have q14 := S12.out; have q15 := S13.out; have q16 := S14.out; have q17 := S15.out; have q18 := S16.out; have q19 := S17.out; have q20 := S18.out; have q21 := S19.out; have q22 := S20.out; have q23 := S21.out; have q24 := S22.out; have q25 := S23.out; omega))
  have HZ_24 := Lib.hid (HZ_23.out.by HIN_23.out hg (by have q0 := S1.out; have q1 := S2.out; have q2 := S3.out; have q3 := G1.out; have q4 := S4.out; have q5 := G2.out; have q6 := S5.out; have q7 := G3.out; have q8 := S6.out; have q9 := S7.out; have q10 := S8.out; have q11 := S9.out; have q12 := S10.out; have q13 := S11.out; have q14 := S12.out; have q15 := S13.out; have q16 := S14.out; have q17 := S15.out; have q18 := S16.out; have q19 := S17.out; have q20 := S18.out; have q21 := S19.out; have q22 := S20.out; have q23 := S21.out; have q24 := S22.out; have q25 := S23.out; omega))
  have HT_24 := Lib.hid (HT_23.out.by HIN_23.out hg (by have q0 := S1.out; have q1 := S2.out; have q2 := S3.out; have q3 := G1.out; have q4 := S4.out; have q5 := G2.out; have q6 := S5.out; have q7 := G3.out; have q8 := S6.out; have q9 := S7.out; have q10 := S8.out; have q11 := S9.out; have q12 := S10.out; have q13 := S11.out; have q14 := S12.out; have q15 := S13.out; have q16 := S14.out; have q17 := S15.out; have q18 := S16.out; have q19 := S17.out; have q20 := S18.out; have q21 := S19.out; have q22 := S20.out; have q23 := S21.out; have q24 := S22.out; have q25 := S23.out; omega))
  have HP_24 := Lib.hid (HP_23.out.by HIN_23.out hg (by have q0 := S1.out; have q1 := S2.out; have q2 := S3.out; have q3 := G1.out; have q4 := S4.out; have q5 := G2.out; have q6 := S5.out; have q7 := G3.out; have q8 := S6.out; have q9 := S7.out; have q10 := S8.out; have q11 := S9.out; have q12 := S10.out; have q13 := S11.out; have q14 := S12.out; have q15 := S13.out; have q16 := S14.out; have q17 := S15.out; have q18 := S16.out; have q19 := S17.out; have q20 := S18.out; have q21 := S19.out; have q22 := S20.out; have q23 := S21.out; have q24 := S22.out; have q25 := S23.out; omega))
  have HV_24 := Lib.hid (HV_23.out.by HIN_23.out hg (by have q0 := S1.out; have q1 := S2.out; have q2 := S3.out; have q3 := G1.out; have q4 := S4.out; have q5 := G2.out; have q6 := S5.out; have q7 := G3.out; have q8 := S6.out; have q9 := S7.out; have q10 := S8.out; have q11 := S9.out; have q12 := S10.out; have q13 := S11.out; have q14 := S12.out; have q15 := S13.out; have q16 := S14.out; have q17 := S15.out; have q18 := S16.out; have q19 := S17.out; have q20 := S18.out; have q21 := S19.out; have q22 := S20.out; have q23 := S21.out; have q24 := S22.out; have q25 := S23.out; omega))
  have CX_24 := Lib.hid (CX_23.out.by HIN_23.out hg (by have q0 := S1.out; have q1 := S2.out; have q2 := S3.out; have q3 := G1.out; have q4 := S4.out; have q5 := G2.out; have q6 := S5.out; have q7 := G3.out; have q8 := S6.out; have q9 := S7.out; have q10 := S8.out; have q11 := S9.out; have q12 := S10.out; have q13 := S11.out; have q14 := S12.out; have q15 := S13.out; have q16 := S14.out; have q17 := S15.out; have q18 := S16.out; have q19 := S17.out; have q20 := S18.out; have q21 := S19.out; have q22 := S20.out; have q23 := S21.out; have q24 := S22.out; have q25 := S23.out; omega))
  have CY_24 := Lib.hid (CY_23.out.by HIN_23.out hg (by have q0 := S1.out; have q1 := S2.out; have q2 := S3.out; have q3 := G1.out; have q4 := S4.out; have q5 := G2.out; have q6 := S5.out; have q7 := G3.out; have q8 := S6.out; have q9 := S7.out; have q10 := S8.out; have q11 := S9.out; have q12 := S10.out; have q13 := S11.out; have q14 := S12.out; have q15 := S13.out; have q16 := S14.out; have q17 := S15.out; have q18 := S16.out; have q19 := S17.out; have q20 := S18.out; have q21 := S19.out; have q22 := S20.out; have q23 := S21.out; have q24 := S22.out; have q25 := S23.out; omega))
  have CZ_24 := Lib.hid (CZ_23.out.by HIN_23.out hg (by have q0 := S1.out; have q1 := S2.out; have q2 := S3.out; have q3 := G1.out; have q4 := S4.out; have q5 := G2.out; have q6 := S5.out; have q7 := G3.out; have q8 := S6.out; have q9 := S7.out; have q10 := S8.out; have q11 := S9.out; have q12 := S10.out; have q13 := S11.out; have q14 := S12.out; have q15 := S13.out; have q16 := S14.out; have q17 := S15.out; have q18 := S16.out; have q19 := S17.out; have q20 := S18.out; have q21 := S19.out; have q22 := S20.out; have q23 := S21.out; have q24 := S22.out; have q25 := S23.out; omega))
  have CT_24 := Lib.hid (CT_23.out.by HIN_23.out hg (by have q0 := S1.out; have q1 := S2.out; have q2 := S3.out; have q3 := G1.out; have q4 := S4.out; have q5 := G2.out; have q6 := S5.out; have q7 := G3.out; have q8 := S6.out; have q9 := S7.out; have q10 := S8.out; have q11 := S9.out; have q12 := S10.out; have q13 := S11.out; have q14 := S12.out; have q15 := S13.out; have q16 := S14.out; have q17 := S15.out; have q18 := S16.out; have q19 := S17.out; have q20 := S18.out; have q21 := S19.out; have q22 := S20.out; have q23 := S21.out; have q24 := S22.out; have q25 := S23.out; omega))
  have CP_24 := Lib.hid (CP_23.out.by HIN_23.out hg (by have q0 := S1.out; have q1 := S2.out; have q2 := S3.out; have q3 := G1.out; have q4 := S4.out; have q5 := G2.out; have q6 := S5.out; have q7 := G3.out; have q8 := S6.out; have q9 := S7.out; have q10 := S8.out; have q11 := S9.out; have q12 := S10.out; have q13 := S11.out; have q14 := S12.out; have q15 := S13.out; have q16 := S14.out; have q17 := S15.out; have q18 := S16.out; have q19 := S17.out; have q20 := S18.out; have q21 := S19.out; have q22 := S20.out; have q23 := S21.out; have q24 := S22.out; have q25 := S23.out; omega))
  have CV_24 := Lib.hid (CV_23.out.by HIN_23.out hg (by have q0 := S1.out; have q1 := S2.out; have q2 := S3.out; have q3 := G1.out; have q4 := S4.out; have q5 := G2.out; have q6 := S5.out; have q7 := G3.out; have q8 := S6.out; have q9 := S7.out; have q10 := S8.out; have q11 := S9.out; have q12 := S10.out; have q13 := S11.out; have q14 := S12.out; have q15 := S13.out; have q16 := S14.out; have q17 := S15.out; have q18 := S16.out; have q19 := S17.out; have q20 := S18.out; have q21 := S19.out; have q22 := S20.out; have q23 := S21.out; have q24 := S22.out; have q25 := S23.out; omega))
  have HU_24 : Hid (Up w W24) := OR.upBy HU_23.out HIN_23.out hg (by have q0 := S1.out; have q1 := S2.out; have q2 := S3.out; have q3 := G1.out; have q4 := S4.out; have q5 := G2.out; have q6 := S5.out; have q7 := G3.out; have q8 := S6.out; have q9 := S7.out; have q10 := S8.out; have q11 := S9.out; have q12 := S10.out; have q13 := S11.out; have q14 := S12.out; have q15 := S13.out; have q16 := S14.out; have q17 := S15.out; have q18 := S16.out; have q19 := S17.out; have q20 := S18.out; have q21 := S19.out; have q22 := S20.out; have q23 := S21.out; have q24 := S22.out; have q25 := S23.out; omega)
  clear hg HU_23 HIN_23 HAN_23 HBN_23 HX_23 HY_23 HZ_23 HT_23 HP_23 HV_23 CX_23 CY_23 CZ_23 CT_23 CP_23 CV_23
  go_wp2_with fail
  refine (spoilT_any _ _ _ _ ⟨#[120]⟩ _ HAN_24.out.own).mono ?_
  rintro e W25 ⟨rfl, hg⟩
  have HBN_25 := Lib.hid (HBN_24.out.by HAN_24.out hg (by have q0 := S1.out; have q1 := S2.out; have q2 := S3.out; have q3 := G1.out; have q4 := S4.out; have q5 := G2.out; have q6 := S5.out; have q7 := G3.out; have q8 := S6.out; have q9 := S7.out; have q10 := S8.out; have q11 := S9.out; have q12 := S10.out; have q13 := S11.out; have q14 := S12.out; have q15 := S13.out; have q16 := S14.out; have q17 := S15.out; have q18 := S16.out; have q19 := S17.out; have q20 := S18.out; have q21 := S19.out; have q22 := S20.out; have q23 := S21.out; have q24 := S22.out; have q25 := S23.out; omega))
  have HX_25 := Lib.hid (HX_24.out.by HAN_24.out hg (by have q0 := S1.out; have q1 := S2.out; have q2 := S3.out; have q3 := G1.out; have q4 := S4.out; have q5 := G2.out; have q6 := S5.out; have q7 := G3.out; have q8 := S6.out; have q9 := S7.out; have q10 := S8.out; have q11 := S9.out; have q12 := S10.out; have q13 := S11.out; have q14 := S12.out; have q15 := S13.out; have q16 := S14.out; have q17 := S15.out; have q18 := S16.out; have q19 := S17.out; have q20 := S18.out; have q21 := S19.out; have q22 := S20.out; have q23 := S21.out; have q24 := S22.out; have q25 := S23.out; omega))
  have HY_25 := Lib.hid (HY_24.out.by HAN_24.out hg (by have q0 := S1.out; have q1 := S2.out; have q2 := S3.out; have q3 := G1.out; have q4 := S4.out; have q5 := G2.out; have q6 := S5.out; have q7 := G3.out; have q8 := S6.out; have q9 := S7.out; have q10 := S8.out; have q11 := S9.out; have q12 := S10.out; have q13 := S11.out; have q14 := S12.out; have q15 := S13.out; have q16 := S14.out; have q17 := S15.out; have q18 := S16.out; have q19 := S17.out; have q20 := S18.out; have q21 := S19.out; have q22 := S20.out; have q23 := S21.out; have q24 := S22.out; have q25 := S23.out; omega))
  have HZ_25 := Lib.hid (HZ_24.out.by HAN_24.out hg (by have q0 := S1.out; have q1 := S2.out; have q2 := S3.out; have q3 := G1.out; have q4 := S4.out; have q5 := G2.out; have q6 := S5.out; have q7 := G3.out; have q8 := S6.out; have q9 := S7.out; have q10 := S8.out; have q11 := S9.out; have q12 := S10.out; have q13 := S11.out; have q14 := S12.out; have q15 := S13.out; have q16 := S14.out; have q17 := S15.out; have q18 := S16.out; have q19 := S17.out; have q20 := S18.out; have q21 := S19.out; have q22 := S20.out; have q23 := S21.out; have q24 := S22.out; have q25 := S23.out; omega))
  have HT_25 := Lib.hid (HT_24.out.by HAN_24.out hg (by have q0 := S1.out; have q1 := S2.out; have q2 := S3.out; have q3 := G1.out; have q4 := S4.out; have q5 := G2.out; have q6 := S5.out; have q7 := G3.out; have q8 := S6.out; have q9 := S7.out; have q10 := S8.out; have q11 := S9.out; have q12 := S10.out; have q13 := S11.out; have q14 := S12.out; have q15 := S13.out; have q16 := S14.out; have q17 := S15.out; have q18 := S16.out; have q19 := S17.out; have q20 := S18.out; have q21 := S19.out; have q22 := S20.out; have q23 := S21.out; have q24 := S22.out; have q25 := S23.out; omega))
  have HP_25 := Lib.hid (HP_24.out.by HAN_24.out hg (by have q0 := S1.out; have q1 := S2.out; have q2 := S3.out; have q3 := G1.out; have q4 := S4.out; have q5 := G2.out; have q6 := S5.out; have q7 := G3.out; have q8 := S6.out; have q9 := S7.out; have q10 := S8.out; have q11 := S9.out; have q12 := S10.out; have q13 := S11.out; have q14 := S12.out; have q15 := S13.out; have q16 := S14.out; have q17 := S15.out; have q18 := S16.out; have q19 := S17.out; have q20 := S18.out; have q21 := S19.out; have q22 := S20.out; have q23 := S21.out; have q24 := S22.out; have q25 := S23.out; omega))
  have HV_25 := Lib.hid (HV_24.out.by HAN_24.out hg (by have q0 := S1.out; have q1 := S2.out; have q2 := S3.out; have q3 := G1.out; have q4 := S4.out; have q5 := G2.out; have q6 := S5.out; have q7 := G3.out; have q8 := S6.out; have q9 := S7.out; have q10 := S8.out; have q11 := S9.out; have q12 := S10.out; have q13 := S11.out; have q14 := S12.out; have q15 := S13.out; have q16 := S14.out; have q17 := S15.out; have q18 := S16.out; have q19 := S17.out; have q20 := S18.out; have q21 := S19.out; have q22 := S20.out; have q23 := S21.out; have q24 := S22.out; have q25 := S23.out; omega))
  have CX_25 := Lib.hid (CX_24.out.by HAN_24.out hg (by have q0 := S1.out; have q1 := S2.out; have q2 := S3.out; have q3 := G1.out; have q4 := S4.out; have q5 := G2.out; have q6 := S5.out; have q7 := G3.out; have q8 := S6.out; have q9 := S7.out; have q10 := S8.out; have q11 := S9.out; have q12 := S10.out; have q13 := S11.out; have q14 := S12.out; have q15 := S13.out; have q16 := S14.out; have q17 := S15.out; have q18 := S16.out; have q19 := S17.out; have q20 := S18.out; have q21 := S19.out; have q22 := S20.out; have q23 := S21.out; have q24 := S22.out; have q25 := S23.out; omega))
  have CY_25 := Lib.hid (CY_24.out.by HAN_24.out hg (by have q0 := S1.out; have q1 := S2.out; have q2 := S3.out; have q3 := G1.out; have q4 := S4.out; have q5 := G2.out; have q6 := S5.out; have q7 := G3.out; have q8 := S6.out; have q9 := S7.out; have q10 := S8.out; have q11 := S9.out; have q12 := S10.out; have q13 := S11.out; have q14 := S12.out; have q15 := S13.out; have q16 := S14.out; have q17 := S15.out; have q18 := S16.out; have q19 := S17.out; have q20 := S18.out; have q21 := S19.out; have q22 := S20.out; have q23 := S21.out; have q24 := S22.out; have q25 := S23.out; omega))
  have CZ_25 := Lib.hid (CZ_24.out.by HAN_24.out hg (by have q0 := S1.out; have q1 := S2.out; have q2 := S3.out; have q3 := G1.out; have q4 := S4.out; have q5 := G2.out; have q6 := S5.out; have q7 := G3.out; have q8 := S6.out; have q9 := S7.out; have q10 := S8.out; have q11 := S9.out; have q12 := S10.out; have q13 := S11.out; have q14 := S12.out; have q15 := S13.out; have q16 := S14.out; have q17 := S15.out; have q18 := S16.out; have q19 := S17.out; have q20 := S18.out; have q21 := S19.out; have q22 := S20.out; have q23 := S21.out; have q24 := S22.out; have q25 := S23.out; omega))
  have CT_25 := Lib.hid (CT_24.out.by HAN_24.out hg (by have q0 := S1.out; have q1 := S2.out; have q2 := S3.out; have q3 := G1.out; have q4 := S4.out; have q5 := G2.out; have q6 := S5.out; have q7 := G3.out; have q8 := S6.out; have q9 := S7.out; have q10 := S8.out; have q11 := S9.out; have q12 := S10.out; have q13 := S11.out; have q14 := S12.out; have q15 := S13.out; have q16 := S14.out; have q17 := S15.out; have q18 := S16.out; have q19 := S17.out; have q20 := S18.out; have q21 := S19.out; have q22 := S20.out; have q23 := S21.out; have q24 := S22.out; have q25 := S23.out; omega))
  have CP_25 := Lib.hid (CP_24.out.by HAN_24.out hg (by have q0 := S1.out; have q1 := S2.out; have q2 := S3.out; have q3 := G1.out; have q4 := S4.out; have q5 := G2.out; have q6 := S5.out; have q7 := G3.out; have q8 := S6.out; have q9 := S7.out; have q10 := S8.out; have q11 := S9.out; have q12 := S10.out; have q13 := S11.out; have q14 := S12.out; have q15 := S13.out; have q16 := S14.out; have q17 := S15.out; have q18 := S16.out; have q19 := S17.out; have q20 := S18.out; have q21 := S19.out; have q22 := S20.out; have q23 := S21.out; have q24 := S22.out; have q25 := S23.out; omega))
  have CV_25 := Lib.hid (CV_24.out.by HAN_24.out hg (by have q0 := S1.out; have q1 := S2.out; have q2 := S3.out; have q3 := G1.out; have q4 := S4.out; have q5 := G2.out; have q6 := S5.out; have q7 := G3.out; have q8 := S6.out; have q9 := S7.out; have q10 := S8.out; have q11 := S9.out; have q12 := S10.out; have q13 := S11.out; have q14 := S12.out; have q15 := S13.out; have q16 := S14.out; have q17 := S15.out; have q18 := S16.out; have q19 := S17.out; have q20 := S18.out; have q21 := S19.out; have q22 := S20.out; have q23 := S21.out; have q24 := S22.out; have q25 := S23.out; omega))
  have HU_25 : Hid (Up w W25) := OR.upBy HU_24.out HAN_24.out hg (by have q0 := S1.out; have q1 := S2.out; have q2 := S3.out; have q3 := G1.out; have q4 := S4.out; have q5 := G2.out; have q6 := S5.out; have q7 := G3.out; have q8 := S6.out; have q9 := S7.out; have q10 := S8.out; have q11 := S9.out; have q12 := S10.out; have q13 := S11.out; have q14 := S12.out; have q15 := S13.out; have q16 := S14.out; have q17 := S15.out; have q18 := S16.out; have q19 := S17.out; have q20 := S18.out; have q21 := S19.out; have q22 := S20.out; have q23 := S21.out; have q24 := S22.out; have q25 := S23.out; omega)
  clear hg HU_24 HAN_24 HBN_24 HX_24 HY_24 HZ_24 HT_24 HP_24 HV_24 CX_24 CY_24 CZ_24 CT_24 CP_24 CV_24
  go_wp2_with fail
  refine (spoilT_any _ _ _ _ ⟨#[121]⟩ _ HBN_25.out.own).mono ?_
  rintro e W26 ⟨rfl, hg⟩
  have HX_26 := Lib.hid (HX_25.out.by HBN_25.out hg (by have q0 := S1.out; have q1 := S2.out; have q2 := S3.out; have q3 := G1.out; have q4 := S4.out; have q5 := G2.out; have q6 := S5.out; have q7 := G3.out; have q8 := S6.out; have q9 := S7.out; have q10 := S8.out; have q11 := S9.out; have q12 := S10.out; have q13 := S11.out; have q14 := S12.out; have q15 := S13.out; have q16 := S14.out; have q17 := S15.out; have q18 := S16.out; have q19 := S17.out; have q20 := S18.out; have q21 := S19.out; have q22 := S20.out; have q23 := S21.out; have q24 := S22.out; have q25 := S23.out; omega))
  have HY_26 := Lib.hid (HY_25.out.by HBN_25.out hg (by have q0 := S1.out; have q1 := S2.out; have q2 := S3.out; have q3 := G1.out; have q4 := S4.out; have q5 := G2.out; have q6 := S5.out; have q7 := G3.out; have q8 := S6.out; have q9 := S7.out; have q10 := S8.out; have q11 := S9.out; have q12 := S10.out; have q13 := S11.out; have q14 := S12.out; have q15 := S13.out; have q16 := S14.out; have q17 := S15.out; have q18 := S16.out; have q19 := S17.out; have q20 := S18.out; have q21 := S19.out; have q22 := S20.out; have q23 := S21.out; have q24 := S22.out; have q25 := S23.out; omega))
  have HZ_26 := Lib.hid (HZ_25.out.by HBN_25.out hg (by have q0 := S1.out; have q1 := S2.out; have q2 := S3.out; have q3 := G1.out; have q4 := S4.out; have q5 := G2.out; have q6 := S5.out; have q7 := G3.out; have q8 := S6.out; have q9 := S7.out; have q10 := S8.out; have q11 := S9.out; have q12 := S10.out; have q13 := S11.out; have q14 := S12.out; have q15 := S13.out; have q16 := S14.out; have q17 := S15.out; have q18 := S16.out; have q19 := S17.out; have q20 := S18.out; have q21 := S19.out; have q22 := S20.out; have q23 := S21.out; have q24 := S22.out; have q25 := S23.out; omega))
  have HT_26 := Lib.hid (HT_25.out.by HBN_25.out hg (by have q0 := S1.out; have q1 := S2.out; have q2 := S3.out; have q3 := G1.out; have q4 := S4.out; have q5 := G2.out; have q6 := S5.out; have q7 := G3.out; have q8 := S6.out; have q9 := S7.out; have q10 := S8.out; have q11 := S9.out; have q12 := S10.out; have q13 := S11.out; have q14 := S12.out; have q15 := S13.out; have q16 := S14.out; have q17 := S15.out; have q18 := S16.out; have q19 := S17.out; have q20 := S18.out; have q21 := S19.out; have q22 := S20.out; have q23 := S21.out; have q24 := S22.out; have q25 := S23.out; omega))
  have HP_26 := Lib.hid (HP_25.out.by HBN_25.out hg (by have q0 := S1.out; have q1 := S2.out; have q2 := S3.out; have q3 := G1.out; have q4 := S4.out; have q5 := G2.out; have q6 := S5.out; have q7 := G3.out; have q8 := S6.out; have q9 := S7.out; have q10 := S8.out; have q11 := S9.out; have q12 := S10.out; have q13 := S11.out; have q14 := S12.out; have q15 := S13.out; have q16 := S14.out; have q17 := S15.out; have q18 := S16.out; have q19 := S17.out; have q20 := S18.out; have q21 := S19.out; have q22 := S20.out; have q23 := S21.out; have q24 := S22.out; have q25 := S23.out; omega))
  have HV_26 := Lib.hid (HV_25.out.by HBN_25.out hg (by have q0 := S1.out; have q1 := S2.out; have q2 := S3.out; have q3 := G1.out; have q4 := S4.out; have q5 := G2.out; have q6 := S5.out; have q7 := G3.out; have q8 := S6.out; have q9 := S7.out; have q10 := S8.out; have q11 := S9.out; have q12 := S10.out; have q13 := S11.out; have q14 := S12.out; have q15 := S13.out; have q16 := S14.out; have q17 := S15.out; have q18 := S16.out; have q19 := S17.out; have q20 := S18.out; have q21 := S19.out; have q22 := S20.out; have q23 := S21.out; have q24 := S22.out; have q25 := S23.out; omega))
  have CX_26 := Lib.hid (CX_25.out.by HBN_25.out hg (by have q0 := S1.out; have q1 := S2.out; have q2 := S3.out; have q3 := G1.out; have q4 := S4.out; have q5 := G2.out; have q6 := S5.out; have q7 := G3.out; have q8 := S6.out; have q9 := S7.out; have q10 := S8.out; have q11 := S9.out; have q12 := S10.out; have q13 := S11.out; have q14 := S12.out; have q15 := S13.out; have q16 := S14.out; have q17 := S15.out; have q18 := S16.out; have q19 := S17.out; have q20 := S18.out; have q21 := S19.out; have q22 := S20.out; have q23 := S21.out; have q24 := S22.out; have q25 := S23.out; omega))
  have CY_26 := Lib.hid (CY_25.out.by HBN_25.out hg (by have q0 := S1.out; have q1 := S2.out; have q2 := S3.out; have q3 := G1.out; have q4 := S4.out; have q5 := G2.out; have q6 := S5.out; have q7 := G3.out; have q8 := S6.out; have q9 := S7.out; have q10 := S8.out; have q11 := S9.out; have q12 := S10.out; have q13 := S11.out; have q14 := S12.out; have q15 := S13.out; have q16 := S14.out; have q17 := S15.out; have q18 := S16.out; have q19 := S17.out; have q20 := S18.out; have q21 := S19.out; have q22 := S20.out; have q23 := S21.out; have q24 := S22.out; have q25 := S23.out; omega))
  have CZ_26 := Lib.hid (CZ_25.out.by HBN_25.out hg (by have q0 := S1.out; have q1 := S2.out; have q2 := S3.out; have q3 := G1.out; have q4 := S4.out; have q5 := G2.out; have q6 := S5.out; have q7 := G3.out; have q8 := S6.out; have q9 := S7.out; have q10 := S8.out; have q11 := S9.out; have q12 := S10.out; have q13 := S11.out; have q14 := S12.out; have q15 := S13.out; have q16 := S14.out; have q17 := S15.out; have q18 := S16.out; have q19 := S17.out; have q20 := S18.out; have q21 := S19.out; have q22 := S20.out; have q23 := S21.out; have q24 := S22.out; have q25 := S23.out; omega))
  have CT_26 := Lib.hid (CT_25.out.by HBN_25.out hg (by have q0 := S1.out; have q1 := S2.out; have q2 := S3.out; have q3 := G1.out; have q4 := S4.out; have q5 := G2.out; have q6 := S5.out; have q7 := G3.out; have q8 := S6.out; have q9 := S7.out; have q10 := S8.out; have q11 := S9.out; have q12 := S10.out; have q13 := S11.out; have q14 := S12.out; have q15 := S13.out; have q16 := S14.out; have q17 := S15.out; have q18 := S16.out; have q19 := S17.out; have q20 := S18.out; have q21 := S19.out; have q22 := S20.out; have q23 := S21.out; have q24 := S22.out; have q25 := S23.out; omega))
  have CP_26 := Lib.hid (CP_25.out.by HBN_25.out hg (by have q0 := S1.out; have q1 := S2.out; have q2 := S3.out; have q3 := G1.out; have q4 := S4.out; have q5 := G2.out; have q6 := S5.out; have q7 := G3.out; have q8 := S6.out; have q9 := S7.out; have q10 := S8.out; have q11 := S9.out; have q12 := S10.out; have q13 := S11.out; have q14 := S12.out; have q15 := S13.out; have q16 := S14.out; have q17 := S15.out; have q18 := S16.out; have q19 := S17.out; have q20 := S18.out; have q21 := S19.out; have q22 := S20.out; have q23 := S21.out; have q24 := S22.out; have q25 := S23.out; omega))
  have CV_26 := Lib.hid (CV_25.out.by HBN_25.out hg (by have q0 := S1.out; have q1 := S2.out; have q2 := S3.out; have q3 := G1.out; have q4 := S4.out; have q5 := G2.out; have q6 := S5.out; have q7 := G3.out; have q8 := S6.out; have q9 := S7.out; have q10 := S8.out; have q11 := S9.out; have q12 := S10.out; have q13 := S11.out; have q14 := S12.out; have q15 := S13.out; have q16 := S14.out; have q17 := S15.out; have q18 := S16.out; have q19 := S17.out; have q20 := S18.out; have q21 := S19.out; have q22 := S20.out; have q23 := S21.out; have q24 := S22.out; have q25 := S23.out; omega))
  have HU_26 : Hid (Up w W26) := OR.upBy HU_25.out HBN_25.out hg (by have q0 := S1.out; have q1 := S2.out; have q2 := S3.out; have q3 := G1.out; have q4 := S4.out; have q5 := G2.out; have q6 := S5.out; have q7 := G3.out; have q8 := S6.out; have q9 := S7.out; have q10 := S8.out; have q11 := S9.out; have q12 := S10.out; have q13 := S11.out; have q14 := S12.out; have q15 := S13.out; have q16 := S14.out; have q17 := S15.out; have q18 := S16.out; have q19 := S17.out; have q20 := S18.out; have q21 := S19.out; have q22 := S20.out; have q23 := S21.out; have q24 := S22.out; have q25 := S23.out; omega)
  clear hg HU_25 HBN_25 HX_25 HY_25 HZ_25 HT_25 HP_25 HV_25 CX_25 CY_25 CZ_25 CT_25 CP_25 CV_25
  go_wp2_with fail
  refine (equalN_sl _ _ zx _ (by have := LX.out; omega) HX_26.out.sl CX_26.out.sl).mono ?_
  rintro e W27 ⟨rfl, u⟩
  have HX_27 := Lib.hid (HX_26.out.up u)
  have HY_27 := Lib.hid (HY_26.out.up u)
  have HZ_27 := Lib.hid (HZ_26.out.up u)
  have HT_27 := Lib.hid (HT_26.out.up u)
  have HP_27 := Lib.hid (HP_26.out.up u)
  have HV_27 := Lib.hid (HV_26.out.up u)
  have CX_27 := Lib.hid (CX_26.out.up u)
  have CY_27 := Lib.hid (CY_26.out.up u)
  have CZ_27 := Lib.hid (CZ_26.out.up u)
  have CT_27 := Lib.hid (CT_26.out.up u)
  have CP_27 := Lib.hid (CP_26.out.up u)
  have CV_27 := Lib.hid (CV_26.out.up u)
  have HU_27 := Lib.hid (HU_26.out.trans u)
  have S27 : Hid (W26.heap.size ≤ W27.heap.size) := u.size
  clear u HU_26 HX_26 HY_26 HZ_26 HT_26 HP_26 HV_26 CX_26 CY_26 CZ_26 CT_26 CP_26 CV_26
  go_wp2_with fail
  refine (equalN_sl _ _ (endsOf a1) _ (by have := LYS.out; omega) HY_27.out.sl CY_27.out.sl).mono ?_
  rintro e W28 ⟨rfl, u⟩
  have HX_28 := Lib.hid (HX_27.out.up u)
  have HY_28 := Lib.hid (HY_27.out.up u)
  have HZ_28 := Lib.hid (HZ_27.out.up u)
  have HT_28 := Lib.hid (HT_27.out.up u)
  have HP_28 := Lib.hid (HP_27.out.up u)
  have HV_28 := Lib.hid (HV_27.out.up u)
  have CX_28 := Lib.hid (CX_27.out.up u)
  have CY_28 := Lib.hid (CY_27.out.up u)
  have CZ_28 := Lib.hid (CZ_27.out.up u)
  have CT_28 := Lib.hid (CT_27.out.up u)
  have CP_28 := Lib.hid (CP_27.out.up u)
  have CV_28 := Lib.hid (CV_27.out.up u)
  have HU_28 := Lib.hid (HU_27.out.trans u)
  have S28 : Hid (W27.heap.size ≤ W28.heap.size) := u.size
  clear u HU_27 HX_27 HY_27 HZ_27 HT_27 HP_27 HV_27 CX_27 CY_27 CZ_27 CT_27 CP_27 CV_27
  go_wp2_with fail
  refine (equalT_self _ _ lz _ (by have := LZ.out; omega) HZ_28.out.sl CZ_28.out.sl).mono ?_
  rintro e W29 ⟨rfl, u⟩
  have HX_29 := Lib.hid (HX_28.out.up u)
  have HY_29 := Lib.hid (HY_28.out.up u)
  have HZ_29 := Lib.hid (HZ_28.out.up u)
  have HT_29 := Lib.hid (HT_28.out.up u)
  have HP_29 := Lib.hid (HP_28.out.up u)
  have HV_29 := Lib.hid (HV_28.out.up u)
  have CX_29 := Lib.hid (CX_28.out.up u)
  have CY_29 := Lib.hid (CY_28.out.up u)
  have CT_29 := Lib.hid (CT_28.out.up u)
  have CP_29 := Lib.hid (CP_28.out.up u)
  have CV_29 := Lib.hid (CV_28.out.up u)
  have HU_29 := Lib.hid (HU_28.out.trans u)
  have S29 : Hid (W28.heap.size ≤ W29.heap.size) := u.size
  clear u HU_28 HX_28 HY_28 HZ_28 HT_28 HP_28 HV_28 CX_28 CY_28 CZ_28 CT_28 CP_28 CV_28
  go_wp2_with fail
  refine (equalT_yes _ _ lt _ (OToks.toks HT_29.out.own) (OToks.toks CT_29.out.own)).mono ?_
  rintro e W30 ⟨rfl, u⟩
  have HX_30 := Lib.hid (HX_29.out.up u)
  have HY_30 := Lib.hid (HY_29.out.up u)
  have HZ_30 := Lib.hid (HZ_29.out.up u)
  have HT_30 := Lib.hid (HT_29.out.up u)
  have HP_30 := Lib.hid (HP_29.out.up u)
  have HV_30 := Lib.hid (HV_29.out.up u)
  have CX_30 := Lib.hid (CX_29.out.up u)
  have CY_30 := Lib.hid (CY_29.out.up u)
  have CP_30 := Lib.hid (CP_29.out.up u)
  have CV_30 := Lib.hid (CV_29.out.up u)
  have HU_30 := Lib.hid (HU_29.out.trans u)
  have S30 : Hid (W29.heap.size ≤ W30.heap.size) := u.size
  clear u HU_29 HX_29 HY_29 HZ_29 HT_29 HP_29 HV_29 CX_29 CY_29 CT_29 CP_29 CV_29
  go_wp2_with fail
  refine (equalP_yes _ _ (prfV z3 a5) _ (by have := LPR.out; omega) HP_30.out.sl CP_30.out.sl).mono ?_
  rintro e W31 ⟨rfl, u⟩
  have HX_31 := Lib.hid (HX_30.out.up u)
  have HY_31 := Lib.hid (HY_30.out.up u)
  have HZ_31 := Lib.hid (HZ_30.out.up u)
  have HT_31 := Lib.hid (HT_30.out.up u)
  have HP_31 := Lib.hid (HP_30.out.up u)
  have HV_31 := Lib.hid (HV_30.out.up u)
  have CX_31 := Lib.hid (CX_30.out.up u)
  have CY_31 := Lib.hid (CY_30.out.up u)
  have CV_31 := Lib.hid (CV_30.out.up u)
  have HU_31 := Lib.hid (HU_30.out.trans u)
  have S31 : Hid (W30.heap.size ≤ W31.heap.size) := u.size
  clear u HU_30 HX_30 HY_30 HZ_30 HT_30 HP_30 HV_30 CX_30 CY_30 CP_30 CV_30
  go_wp2_with fail
  refine (equalN_sl _ _ zv _ (by have := LV.out; omega) HV_31.out.sl CV_31.out.sl).mono ?_
  rintro e W32 ⟨rfl, u⟩
  have HX_32 := Lib.hid (HX_31.out.up u)
  have HY_32 := Lib.hid (HY_31.out.up u)
  have HZ_32 := Lib.hid (HZ_31.out.up u)
  have HT_32 := Lib.hid (HT_31.out.up u)
  have HP_32 := Lib.hid (HP_31.out.up u)
  have HV_32 := Lib.hid (HV_31.out.up u)
  have CX_32 := Lib.hid (CX_31.out.up u)
  have CY_32 := Lib.hid (CY_31.out.up u)
  have HU_32 := Lib.hid (HU_31.out.trans u)
  have S32 : Hid (W31.heap.size ≤ W32.heap.size) := u.size
  clear u HU_31 HX_31 HY_31 HZ_31 HT_31 HP_31 HV_31 CX_31 CY_31 CV_31
  go_wp2_with fail
  refine (spoilN_any _ _ _ _ 1 _ HX_32.out.own).mono ?_
  rintro e W33 ⟨rfl, hg⟩
  have HY_33 := Lib.hid (HY_32.out.by HX_32.out hg (by have q0 := S1.out; have q1 := S2.out; have q2 := S3.out; have q3 := G1.out; have q4 := S4.out; have q5 := G2.out; have q6 := S5.out; have q7 := G3.out; have q8 := S6.out; have q9 := S7.out; have q10 := S8.out; have q11 := S9.out; have q12 := S10.out; have q13 := S11.out; have q14 := S12.out; have q15 := S13.out; have q16 := S14.out; have q17 := S15.out; have q18 := S16.out; have q19 := S17.out; have q20 := S18.out; have q21 := S19.out; have q22 := S20.out; have q23 := S21.out; have q24 := S22.out; have q25 := S23.out; have q26 := S27.out; have q27 := S28.out; have q28 := S29.out; have q29 := S30.out; have q30 := S31.out; have q31 := S32.out; omega))
  have HZ_33 := Lib.hid (HZ_32.out.by HX_32.out hg (by have q0 := S1.out; have q1 := S2.out; have q2 := S3.out; have q3 := G1.out; have q4 := S4.out; have q5 := G2.out; have q6 := S5.out; have q7 := G3.out; have q8 := S6.out; have q9 := S7.out; have q10 := S8.out; have q11 := S9.out; have q12 := S10.out; have q13 := S11.out; have q14 := S12.out; have q15 := S13.out; have q16 := S14.out; have q17 := S15.out; have q18 := S16.out; have q19 := S17.out; have q20 := S18.out; have q21 := S19.out; have q22 := S20.out; have q23 := S21.out; have q24 := S22.out; have q25 := S23.out; have q26 := S27.out; have q27 := S28.out; have q28 := S29.out; have q29 := S30.out; have q30 := S31.out; have q31 := S32.out; omega))
  have HT_33 := Lib.hid (HT_32.out.by HX_32.out hg (by have q0 := S1.out; have q1 := S2.out; have q2 := S3.out; have q3 := G1.out; have q4 := S4.out; have q5 := G2.out; have q6 := S5.out; have q7 := G3.out; have q8 := S6.out; have q9 := S7.out; have q10 := S8.out; have q11 := S9.out; have q12 := S10.out; have q13 := S11.out; have q14 := S12.out; have q15 := S13.out; have q16 := S14.out; have q17 := S15.out; have q18 := S16.out; have q19 := S17.out; have q20 := S18.out; have q21 := S19.out; have q22 := S20.out; have q23 := S21.out; have q24 := S22.out; have q25 := S23.out; have q26 := S27.out; have q27 := S28.out; have q28 := S29.out; have q29 := S30.out; have q30 := S31.out; have q31 := S32.out; omega))
  have HP_33 := Lib.hid (HP_32.out.by HX_32.out hg (by have q0 := S1.out; have q1 := S2.out; have q2 := S3.out; have q3 := G1.out; have q4 := S4.out; have q5 := G2.out; have q6 := S5.out; have q7 := G3.out; have q8 := S6.out; have q9 := S7.out; have q10 := S8.out; have q11 := S9.out; have q12 := S10.out; have q13 := S11.out; have q14 := S12.out; have q15 := S13.out; have q16 := S14.out; have q17 := S15.out; have q18 := S16.out; have q19 := S17.out; have q20 := S18.out; have q21 := S19.out; have q22 := S20.out; have q23 := S21.out; have q24 := S22.out; have q25 := S23.out; have q26 := S27.out; have q27 := S28.out; have q28 := S29.out; have q29 := S30.out; have q30 := S31.out; have q31 := S32.out; omega))
  have HV_33 := Lib.hid (HV_32.out.by HX_32.out hg (by have q0 := S1.out; have q1 := S2.out; have q2 := S3.out; have q3 := G1.out; have q4 := S4.out; have q5 := G2.out; have q6 := S5.out; have q7 := G3.out; have q8 := S6.out; have q9 := S7.out; have q10 := S8.out; have q11 := S9.out; have q12 := S10.out; have q13 := S11.out; have q14 := S12.out; have q15 := S13.out; have q16 := S14.out; have q17 := S15.out; have q18 := S16.out; have q19 := S17.out; have q20 := S18.out; have q21 := S19.out; have q22 := S20.out; have q23 := S21.out; have q24 := S22.out; have q25 := S23.out; have q26 := S27.out; have q27 := S28.out; have q28 := S29.out; have q29 := S30.out; have q30 := S31.out; have q31 := S32.out; omega))
  have CX_33 := Lib.hid (CX_32.out.by HX_32.out hg (by have q0 := S1.out; have q1 := S2.out; have q2 := S3.out; have q3 := G1.out; have q4 := S4.out; have q5 := G2.out; have q6 := S5.out; have q7 := G3.out; have q8 := S6.out; have q9 := S7.out; have q10 := S8.out; have q11 := S9.out; have q12 := S10.out; have q13 := S11.out; have q14 := S12.out; have q15 := S13.out; have q16 := S14.out; have q17 := S15.out; have q18 := S16.out; have q19 := S17.out; have q20 := S18.out; have q21 := S19.out; have q22 := S20.out; have q23 := S21.out; have q24 := S22.out; have q25 := S23.out; have q26 := S27.out; have q27 := S28.out; have q28 := S29.out; have q29 := S30.out; have q30 := S31.out; have q31 := S32.out; omega))
  have CY_33 := Lib.hid (CY_32.out.by HX_32.out hg (by have q0 := S1.out; have q1 := S2.out; have q2 := S3.out; have q3 := G1.out; have q4 := S4.out; have q5 := G2.out; have q6 := S5.out; have q7 := G3.out; have q8 := S6.out; have q9 := S7.out; have q10 := S8.out; have q11 := S9.out; have q12 := S10.out; have q13 := S11.out; have q14 := S12.out; have q15 := S13.out; have q16 := S14.out; have q17 := S15.out; have q18 := S16.out; have q19 := S17.out; have q20 := S18.out; have q21 := S19.out; have q22 := S20.out; have q23 := S21.out; have q24 := S22.out; have q25 := S23.out; have q26 := S27.out; have q27 := S28.out; have q28 := S29.out; have q29 := S30.out; have q30 := S31.out; have q31 := S32.out; omega))
  have HU_33 : Hid (Up w W33) := OR.upBy HU_32.out HX_32.out hg (by have q0 := S1.out; have q1 := S2.out; have q2 := S3.out; have q3 := G1.out; have q4 := S4.out; have q5 := G2.out; have q6 := S5.out; have q7 := G3.out; have q8 := S6.out; have q9 := S7.out; have q10 := S8.out; have q11 := S9.out; have q12 := S10.out; have q13 := S11.out; have q14 := S12.out; have q15 := S13.out; have q16 := S14.out; have q17 := S15.out; have q18 := S16.out; have q19 := S17.out; have q20 := S18.out; have q21 := S19.out; have q22 := S20.out; have q23 := S21.out; have q24 := S22.out; have q25 := S23.out; have q26 := S27.out; have q27 := S28.out; have q28 := S29.out; have q29 := S30.out; have q30 := S31.out; have q31 := S32.out; omega)
  clear hg HU_32 HX_32 HY_32 HZ_32 HT_32 HP_32 HV_32 CX_32 CY_32
  go_wp2_with fail
  refine (spoilN_any _ _ _ _ 1 _ HY_33.out.own).mono ?_
  rintro e W34 ⟨rfl, hg⟩
  have HZ_34 := Lib.hid (HZ_33.out.by HY_33.out hg (by have q0 := S1.out; have q1 := S2.out; have q2 := S3.out; have q3 := G1.out; have q4 := S4.out; have q5 := G2.out; have q6 := S5.out; have q7 := G3.out; have q8 := S6.out; have q9 := S7.out; have q10 := S8.out; have q11 := S9.out; have q12 := S10.out; have q13 := S11.out; have q14 := S12.out; have q15 := S13.out; have q16 := S14.out; have q17 := S15.out; have q18 := S16.out; have q19 := S17.out; have q20 := S18.out; have q21 := S19.out; have q22 := S20.out; have q23 := S21.out; have q24 := S22.out; have q25 := S23.out; have q26 := S27.out; have q27 := S28.out; have q28 := S29.out; have q29 := S30.out; have q30 := S31.out; have q31 := S32.out; omega))
  have HT_34 := Lib.hid (HT_33.out.by HY_33.out hg (by have q0 := S1.out; have q1 := S2.out; have q2 := S3.out; have q3 := G1.out; have q4 := S4.out; have q5 := G2.out; have q6 := S5.out; have q7 := G3.out; have q8 := S6.out; have q9 := S7.out; have q10 := S8.out; have q11 := S9.out; have q12 := S10.out; have q13 := S11.out; have q14 := S12.out; have q15 := S13.out; have q16 := S14.out; have q17 := S15.out; have q18 := S16.out; have q19 := S17.out; have q20 := S18.out; have q21 := S19.out; have q22 := S20.out; have q23 := S21.out; have q24 := S22.out; have q25 := S23.out; have q26 := S27.out; have q27 := S28.out; have q28 := S29.out; have q29 := S30.out; have q30 := S31.out; have q31 := S32.out; omega))
  have HP_34 := Lib.hid (HP_33.out.by HY_33.out hg (by have q0 := S1.out; have q1 := S2.out; have q2 := S3.out; have q3 := G1.out; have q4 := S4.out; have q5 := G2.out; have q6 := S5.out; have q7 := G3.out; have q8 := S6.out; have q9 := S7.out; have q10 := S8.out; have q11 := S9.out; have q12 := S10.out; have q13 := S11.out; have q14 := S12.out; have q15 := S13.out; have q16 := S14.out; have q17 := S15.out; have q18 := S16.out; have q19 := S17.out; have q20 := S18.out; have q21 := S19.out; have q22 := S20.out; have q23 := S21.out; have q24 := S22.out; have q25 := S23.out; have q26 := S27.out; have q27 := S28.out; have q28 := S29.out; have q29 := S30.out; have q30 := S31.out; have q31 := S32.out; omega))
  have HV_34 := Lib.hid (HV_33.out.by HY_33.out hg (by have q0 := S1.out; have q1 := S2.out; have q2 := S3.out; have q3 := G1.out; have q4 := S4.out; have q5 := G2.out; have q6 := S5.out; have q7 := G3.out; have q8 := S6.out; have q9 := S7.out; have q10 := S8.out; have q11 := S9.out; have q12 := S10.out; have q13 := S11.out; have q14 := S12.out; have q15 := S13.out; have q16 := S14.out; have q17 := S15.out; have q18 := S16.out; have q19 := S17.out; have q20 := S18.out; have q21 := S19.out; have q22 := S20.out; have q23 := S21.out; have q24 := S22.out; have q25 := S23.out; have q26 := S27.out; have q27 := S28.out; have q28 := S29.out; have q29 := S30.out; have q30 := S31.out; have q31 := S32.out; omega))
  have CX_34 := Lib.hid (CX_33.out.by HY_33.out hg (by have q0 := S1.out; have q1 := S2.out; have q2 := S3.out; have q3 := G1.out; have q4 := S4.out; have q5 := G2.out; have q6 := S5.out; have q7 := G3.out; have q8 := S6.out; have q9 := S7.out; have q10 := S8.out; have q11 := S9.out; have q12 := S10.out; have q13 := S11.out; have q14 := S12.out; have q15 := S13.out; have q16 := S14.out; have q17 := S15.out; have q18 := S16.out; have q19 := S17.out; have q20 := S18.out; have q21 := S19.out; have q22 := S20.out; have q23 := S21.out; have q24 := S22.out; have q25 := S23.out; have q26 := S27.out; have q27 := S28.out; have q28 := S29.out; have q29 := S30.out; have q30 := S31.out; have q31 := S32.out; omega))
  have CY_34 := Lib.hid (CY_33.out.by HY_33.out hg (by have q0 := S1.out; have q1 := S2.out; have q2 := S3.out; have q3 := G1.out; have q4 := S4.out; have q5 := G2.out; have q6 := S5.out; have q7 := G3.out; have q8 := S6.out; have q9 := S7.out; have q10 := S8.out; have q11 := S9.out; have q12 := S10.out; have q13 := S11.out; have q14 := S12.out; have q15 := S13.out; have q16 := S14.out; have q17 := S15.out; have q18 := S16.out; have q19 := S17.out; have q20 := S18.out; have q21 := S19.out; have q22 := S20.out; have q23 := S21.out; have q24 := S22.out; have q25 := S23.out; have q26 := S27.out; have q27 := S28.out; have q28 := S29.out; have q29 := S30.out; have q30 := S31.out; have q31 := S32.out; omega))
  have HU_34 : Hid (Up w W34) := OR.upBy HU_33.out HY_33.out hg (by have q0 := S1.out; have q1 := S2.out; have q2 := S3.out; have q3 := G1.out; have q4 := S4.out; have q5 := G2.out; have q6 := S5.out; have q7 := G3.out; have q8 := S6.out; have q9 := S7.out; have q10 := S8.out; have q11 := S9.out; have q12 := S10.out; have q13 := S11.out; have q14 := S12.out; have q15 := S13.out; have q16 := S14.out; have q17 := S15.out; have q18 := S16.out; have q19 := S17.out; have q20 := S18.out; have q21 := S19.out; have q22 := S20.out; have q23 := S21.out; have q24 := S22.out; have q25 := S23.out; have q26 := S27.out; have q27 := S28.out; have q28 := S29.out; have q29 := S30.out; have q30 := S31.out; have q31 := S32.out; omega)
  clear hg HU_33 HY_33 HZ_33 HT_33 HP_33 HV_33 CX_33 CY_33
  go_wp2_with fail
  refine (spoilT_any _ _ _ _ ⟨#[]⟩ _ HZ_34.out.own).mono ?_
  rintro e W35 ⟨rfl, hg⟩
  have HT_35 := Lib.hid (HT_34.out.by HZ_34.out hg (by have q0 := S1.out; have q1 := S2.out; have q2 := S3.out; have q3 := G1.out; have q4 := S4.out; have q5 := G2.out; have q6 := S5.out; have q7 := G3.out; have q8 := S6.out; have q9 := S7.out; have q10 := S8.out; have q11 := S9.out; have q12 := S10.out; have q13 := S11.out; have q14 := S12.out; have q15 := S13.out; have q16 := S14.out; have q17 := S15.out; have q18 := S16.out; have q19 := S17.out; have q20 := S18.out; have q21 := S19.out; have q22 := S20.out; have q23 := S21.out; have q24 := S22.out; have q25 := S23.out; have q26 := S27.out; have q27 := S28.out; have q28 := S29.out; have q29 := S30.out; have q30 := S31.out; have q31 := S32.out; omega))
  have HP_35 := Lib.hid (HP_34.out.by HZ_34.out hg (by have q0 := S1.out; have q1 := S2.out; have q2 := S3.out; have q3 := G1.out; have q4 := S4.out; have q5 := G2.out; have q6 := S5.out; have q7 := G3.out; have q8 := S6.out; have q9 := S7.out; have q10 := S8.out; have q11 := S9.out; have q12 := S10.out; have q13 := S11.out; have q14 := S12.out; have q15 := S13.out; have q16 := S14.out; have q17 := S15.out; have q18 := S16.out; have q19 := S17.out; have q20 := S18.out; have q21 := S19.out; have q22 := S20.out; have q23 := S21.out; have q24 := S22.out; have q25 := S23.out; have q26 := S27.out; have q27 := S28.out; have q28 := S29.out; have q29 := S30.out; have q30 := S31.out; have q31 := S32.out; omega))
  have HV_35 := Lib.hid (HV_34.out.by HZ_34.out hg (by have q0 := S1.out; have q1 := S2.out; have q2 := S3.out; have q3 := G1.out; have q4 := S4.out; have q5 := G2.out; have q6 := S5.out; have q7 := G3.out; have q8 := S6.out; have q9 := S7.out; have q10 := S8.out; have q11 := S9.out; have q12 := S10.out; have q13 := S11.out; have q14 := S12.out; have q15 := S13.out; have q16 := S14.out; have q17 := S15.out; have q18 := S16.out; have q19 := S17.out; have q20 := S18.out; have q21 := S19.out; have q22 := S20.out; have q23 := S21.out; have q24 := S22.out; have q25 := S23.out; have q26 := S27.out; have q27 := S28.out; have q28 := S29.out; have q29 := S30.out; have q30 := S31.out; have q31 := S32.out; omega))
  have CX_35 := Lib.hid (CX_34.out.by HZ_34.out hg (by have q0 := S1.out; have q1 := S2.out; have q2 := S3.out; have q3 := G1.out; have q4 := S4.out; have q5 := G2.out; have q6 := S5.out; have q7 := G3.out; have q8 := S6.out; have q9 := S7.out; have q10 := S8.out; have q11 := S9.out; have q12 := S10.out; have q13 := S11.out; have q14 := S12.out; have q15 := S13.out; have q16 := S14.out; have q17 := S15.out; have q18 := S16.out; have q19 := S17.out; have q20 := S18.out; have q21 := S19.out; have q22 := S20.out; have q23 := S21.out; have q24 := S22.out; have q25 := S23.out; have q26 := S27.out; have q27 := S28.out; have q28 := S29.out; have q29 := S30.out; have q30 := S31.out; have q31 := S32.out; omega))
  have CY_35 := Lib.hid (CY_34.out.by HZ_34.out hg (by have q0 := S1.out; have q1 := S2.out; have q2 := S3.out; have q3 := G1.out; have q4 := S4.out; have q5 := G2.out; have q6 := S5.out; have q7 := G3.out; have q8 := S6.out; have q9 := S7.out; have q10 := S8.out; have q11 := S9.out; have q12 := S10.out; have q13 := S11.out; have q14 := S12.out; have q15 := S13.out; have q16 := S14.out; have q17 := S15.out; have q18 := S16.out; have q19 := S17.out; have q20 := S18.out; have q21 := S19.out; have q22 := S20.out; have q23 := S21.out; have q24 := S22.out; have q25 := S23.out; have q26 := S27.out; have q27 := S28.out; have q28 := S29.out; have q29 := S30.out; have q30 := S31.out; have q31 := S32.out; omega))
  have HU_35 : Hid (Up w W35) := OR.upBy HU_34.out HZ_34.out hg (by have q0 := S1.out; have q1 := S2.out; have q2 := S3.out; have q3 := G1.out; have q4 := S4.out; have q5 := G2.out; have q6 := S5.out; have q7 := G3.out; have q8 := S6.out; have q9 := S7.out; have q10 := S8.out; have q11 := S9.out; have q12 := S10.out; have q13 := S11.out; have q14 := S12.out; have q15 := S13.out; have q16 := S14.out; have q17 := S15.out; have q18 := S16.out; have q19 := S17.out; have q20 := S18.out; have q21 := S19.out; have q22 := S20.out; have q23 := S21.out; have q24 := S22.out; have q25 := S23.out; have q26 := S27.out; have q27 := S28.out; have q28 := S29.out; have q29 := S30.out; have q30 := S31.out; have q31 := S32.out; omega)
  clear hg HU_34 HZ_34 HT_34 HP_34 HV_34 CX_34 CY_34
  go_wp2_with fail
  refine (spoilK_any _ _ _ _ 0 0 1 _ HT_35.out.own).mono ?_
  rintro e W36 ⟨rfl, hg⟩
  have HP_36 := Lib.hid (HP_35.out.by HT_35.out hg (by have q0 := S1.out; have q1 := S2.out; have q2 := S3.out; have q3 := G1.out; have q4 := S4.out; have q5 := G2.out; have q6 := S5.out; have q7 := G3.out; have q8 := S6.out; have q9 := S7.out; have q10 := S8.out; have q11 := S9.out; have q12 := S10.out; have q13 := S11.out; have q14 := S12.out; have q15 := S13.out; have q16 := S14.out; have q17 := S15.out; have q18 := S16.out; have q19 := S17.out; have q20 := S18.out; have q21 := S19.out; have q22 := S20.out; have q23 := S21.out; have q24 := S22.out; have q25 := S23.out; have q26 := S27.out; have q27 := S28.out; have q28 := S29.out; have q29 := S30.out; have q30 := S31.out; have q31 := S32.out; omega))
  have HV_36 := Lib.hid (HV_35.out.by HT_35.out hg (by have q0 := S1.out; have q1 := S2.out; have q2 := S3.out; have q3 := G1.out; have q4 := S4.out; have q5 := G2.out; have q6 := S5.out; have q7 := G3.out; have q8 := S6.out; have q9 := S7.out; have q10 := S8.out; have q11 := S9.out; have q12 := S10.out; have q13 := S11.out; have q14 := S12.out; have q15 := S13.out; have q16 := S14.out; have q17 := S15.out; have q18 := S16.out; have q19 := S17.out; have q20 := S18.out; have q21 := S19.out; have q22 := S20.out; have q23 := S21.out; have q24 := S22.out; have q25 := S23.out; have q26 := S27.out; have q27 := S28.out; have q28 := S29.out; have q29 := S30.out; have q30 := S31.out; have q31 := S32.out; omega))
  have CX_36 := Lib.hid (CX_35.out.by HT_35.out hg (by have q0 := S1.out; have q1 := S2.out; have q2 := S3.out; have q3 := G1.out; have q4 := S4.out; have q5 := G2.out; have q6 := S5.out; have q7 := G3.out; have q8 := S6.out; have q9 := S7.out; have q10 := S8.out; have q11 := S9.out; have q12 := S10.out; have q13 := S11.out; have q14 := S12.out; have q15 := S13.out; have q16 := S14.out; have q17 := S15.out; have q18 := S16.out; have q19 := S17.out; have q20 := S18.out; have q21 := S19.out; have q22 := S20.out; have q23 := S21.out; have q24 := S22.out; have q25 := S23.out; have q26 := S27.out; have q27 := S28.out; have q28 := S29.out; have q29 := S30.out; have q30 := S31.out; have q31 := S32.out; omega))
  have CY_36 := Lib.hid (CY_35.out.by HT_35.out hg (by have q0 := S1.out; have q1 := S2.out; have q2 := S3.out; have q3 := G1.out; have q4 := S4.out; have q5 := G2.out; have q6 := S5.out; have q7 := G3.out; have q8 := S6.out; have q9 := S7.out; have q10 := S8.out; have q11 := S9.out; have q12 := S10.out; have q13 := S11.out; have q14 := S12.out; have q15 := S13.out; have q16 := S14.out; have q17 := S15.out; have q18 := S16.out; have q19 := S17.out; have q20 := S18.out; have q21 := S19.out; have q22 := S20.out; have q23 := S21.out; have q24 := S22.out; have q25 := S23.out; have q26 := S27.out; have q27 := S28.out; have q28 := S29.out; have q29 := S30.out; have q30 := S31.out; have q31 := S32.out; omega))
  have HU_36 : Hid (Up w W36) := OR.upBy HU_35.out HT_35.out hg (by have q0 := S1.out; have q1 := S2.out; have q2 := S3.out; have q3 := G1.out; have q4 := S4.out; have q5 := G2.out; have q6 := S5.out; have q7 := G3.out; have q8 := S6.out; have q9 := S7.out; have q10 := S8.out; have q11 := S9.out; have q12 := S10.out; have q13 := S11.out; have q14 := S12.out; have q15 := S13.out; have q16 := S14.out; have q17 := S15.out; have q18 := S16.out; have q19 := S17.out; have q20 := S18.out; have q21 := S19.out; have q22 := S20.out; have q23 := S21.out; have q24 := S22.out; have q25 := S23.out; have q26 := S27.out; have q27 := S28.out; have q28 := S29.out; have q29 := S30.out; have q30 := S31.out; have q31 := S32.out; omega)
  clear hg HU_35 HT_35 HP_35 HV_35 CX_35 CY_35
  go_wp2_with fail
  refine (spoilP_any _ _ _ _ false 1 _ HP_36.out.own).mono ?_
  rintro e W37 ⟨rfl, hg⟩
  have HV_37 := Lib.hid (HV_36.out.by HP_36.out hg (by have q0 := S1.out; have q1 := S2.out; have q2 := S3.out; have q3 := G1.out; have q4 := S4.out; have q5 := G2.out; have q6 := S5.out; have q7 := G3.out; have q8 := S6.out; have q9 := S7.out; have q10 := S8.out; have q11 := S9.out; have q12 := S10.out; have q13 := S11.out; have q14 := S12.out; have q15 := S13.out; have q16 := S14.out; have q17 := S15.out; have q18 := S16.out; have q19 := S17.out; have q20 := S18.out; have q21 := S19.out; have q22 := S20.out; have q23 := S21.out; have q24 := S22.out; have q25 := S23.out; have q26 := S27.out; have q27 := S28.out; have q28 := S29.out; have q29 := S30.out; have q30 := S31.out; have q31 := S32.out; omega))
  have CX_37 := Lib.hid (CX_36.out.by HP_36.out hg (by have q0 := S1.out; have q1 := S2.out; have q2 := S3.out; have q3 := G1.out; have q4 := S4.out; have q5 := G2.out; have q6 := S5.out; have q7 := G3.out; have q8 := S6.out; have q9 := S7.out; have q10 := S8.out; have q11 := S9.out; have q12 := S10.out; have q13 := S11.out; have q14 := S12.out; have q15 := S13.out; have q16 := S14.out; have q17 := S15.out; have q18 := S16.out; have q19 := S17.out; have q20 := S18.out; have q21 := S19.out; have q22 := S20.out; have q23 := S21.out; have q24 := S22.out; have q25 := S23.out; have q26 := S27.out; have q27 := S28.out; have q28 := S29.out; have q29 := S30.out; have q30 := S31.out; have q31 := S32.out; omega))
  have CY_37 := Lib.hid (CY_36.out.by HP_36.out hg (by have q0 := S1.out; have q1 := S2.out; have q2 := S3.out; have q3 := G1.out; have q4 := S4.out; have q5 := G2.out; have q6 := S5.out; have q7 := G3.out; have q8 := S6.out; have q9 := S7.out; have q10 := S8.out; have q11 := S9.out; have q12 := S10.out; have q13 := S11.out; have q14 := S12.out; have q15 := S13.out; have q16 := S14.out; have q17 := S15.out; have q18 := S16.out; have q19 := S17.out; have q20 := S18.out; have q21 := S19.out; have q22 := S20.out; have q23 := S21.out; have q24 := S22.out; have q25 := S23.out; have q26 := S27.out; have q27 := S28.out; have q28 := S29.out; have q29 := S30.out; have q30 := S31.out; have q31 := S32.out; omega))
  have HU_37 : Hid (Up w W37) := OR.upBy HU_36.out HP_36.out hg (by have q0 := S1.out; have q1 := S2.out; have q2 := S3.out; have q3 := G1.out; have q4 := S4.out; have q5 := G2.out; have q6 := S5.out; have q7 := G3.out; have q8 := S6.out; have q9 := S7.out; have q10 := S8.out; have q11 := S9.out; have q12 := S10.out; have q13 := S11.out; have q14 := S12.out; have q15 := S13.out; have q16 := S14.out; have q17 := S15.out; have q18 := S16.out; have q19 := S17.out; have q20 := S18.out; have q21 := S19.out; have q22 := S20.out; have q23 := S21.out; have q24 := S22.out; have q25 := S23.out; have q26 := S27.out; have q27 := S28.out; have q28 := S29.out; have q29 := S30.out; have q30 := S31.out; have q31 := S32.out; omega)
  clear hg HU_36 HP_36 HV_36 CX_36 CY_36
  go_wp2_with fail
  refine (spoilN_any _ _ _ _ 1 _ HV_37.out.own).mono ?_
  rintro e W38 ⟨rfl, hg⟩
  have CX_38 := Lib.hid (CX_37.out.by HV_37.out hg (by have q0 := S1.out; have q1 := S2.out; have q2 := S3.out; have q3 := G1.out; have q4 := S4.out; have q5 := G2.out; have q6 := S5.out; have q7 := G3.out; have q8 := S6.out; have q9 := S7.out; have q10 := S8.out; have q11 := S9.out; have q12 := S10.out; have q13 := S11.out; have q14 := S12.out; have q15 := S13.out; have q16 := S14.out; have q17 := S15.out; have q18 := S16.out; have q19 := S17.out; have q20 := S18.out; have q21 := S19.out; have q22 := S20.out; have q23 := S21.out; have q24 := S22.out; have q25 := S23.out; have q26 := S27.out; have q27 := S28.out; have q28 := S29.out; have q29 := S30.out; have q30 := S31.out; have q31 := S32.out; omega))
  have CY_38 := Lib.hid (CY_37.out.by HV_37.out hg (by have q0 := S1.out; have q1 := S2.out; have q2 := S3.out; have q3 := G1.out; have q4 := S4.out; have q5 := G2.out; have q6 := S5.out; have q7 := G3.out; have q8 := S6.out; have q9 := S7.out; have q10 := S8.out; have q11 := S9.out; have q12 := S10.out; have q13 := S11.out; have q14 := S12.out; have q15 := S13.out; have q16 := S14.out; have q17 := S15.out; have q18 := S16.out; have q19 := S17.out; have q20 := S18.out; have q21 := S19.out; have q22 := S20.out; have q23 := S21.out; have q24 := S22.out; have q25 := S23.out; have q26 := S27.out; have q27 := S28.out; have q28 := S29.out; have q29 := S30.out; have q30 := S31.out; have q31 := S32.out; omega))
  have HU_38 : Hid (Up w W38) := OR.upBy HU_37.out HV_37.out hg (by have q0 := S1.out; have q1 := S2.out; have q2 := S3.out; have q3 := G1.out; have q4 := S4.out; have q5 := G2.out; have q6 := S5.out; have q7 := G3.out; have q8 := S6.out; have q9 := S7.out; have q10 := S8.out; have q11 := S9.out; have q12 := S10.out; have q13 := S11.out; have q14 := S12.out; have q15 := S13.out; have q16 := S14.out; have q17 := S15.out; have q18 := S16.out; have q19 := S17.out; have q20 := S18.out; have q21 := S19.out; have q22 := S20.out; have q23 := S21.out; have q24 := S22.out; have q25 := S23.out; have q26 := S27.out; have q27 := S28.out; have q28 := S29.out; have q29 := S30.out; have q30 := S31.out; have q31 := S32.out; omega)
  clear hg HU_37 HV_37 CX_37 CY_37
  go_wp2_with fail
  refine (less_any a0 20 _ (by omega)).mono ?_
  rintro e w' ⟨rfl, rfl⟩
  rw [HM.out]
  go_wp2_with fail
  refine (factors_open m _).mono ?_
  rintro e W39 ⟨zw, hfw, hlw, ow, cw, ew, rfl, hw, u⟩
  have CX_39 := Lib.hid (CX_38.out.up u)
  have CY_39 := Lib.hid (CY_38.out.up u)
  have HU_39 := Lib.hid (HU_38.out.trans u)
  have S39 : Hid (W38.heap.size ≤ W39.heap.size) := u.size
  clear u HU_38 CX_38 CY_38
  have HW_39 := Lib.hid (hw)
  obtain rfl := FacIs.same HFX.out hfw
  clear hfw hlw hw
  go_wp2_with fail
  refine (ends_open a1 _).mono ?_
  rintro e W40 ⟨on, cn, en, rfl, hn, u⟩
  have CX_40 := Lib.hid (CX_39.out.up u)
  have CY_40 := Lib.hid (CY_39.out.up u)
  have HW_40 := Lib.hid (HW_39.out.up u)
  have HU_40 := Lib.hid (HU_39.out.trans u)
  have S40 : Hid (W39.heap.size ≤ W40.heap.size) := u.size
  clear u HU_39 CX_39 CY_39 HW_39
  have HN_40 := Lib.hid (hn)
  clear hn
  go_wp2_with fail
  refine (equalN_sl _ _ zx _ (by have := LX.out; omega) HW_40.out.sl CX_40.out.sl).mono ?_
  rintro e W41 ⟨rfl, u⟩
  have CX_41 := Lib.hid (CX_40.out.up u)
  have CY_41 := Lib.hid (CY_40.out.up u)
  have HW_41 := Lib.hid (HW_40.out.up u)
  have HN_41 := Lib.hid (HN_40.out.up u)
  have HU_41 := Lib.hid (HU_40.out.trans u)
  have S41 : Hid (W40.heap.size ≤ W41.heap.size) := u.size
  clear u HU_40 CX_40 CY_40 HW_40 HN_40
  go_wp2_with fail
  refine (equalN_sl _ _ (endsOf a1) _ (by have := LYS.out; omega) HN_41.out.sl CY_41.out.sl).mono ?_
  rintro e W42 ⟨rfl, u⟩
  have CX_42 := Lib.hid (CX_41.out.up u)
  have CY_42 := Lib.hid (CY_41.out.up u)
  have HW_42 := Lib.hid (HW_41.out.up u)
  have HN_42 := Lib.hid (HN_41.out.up u)
  have HU_42 := Lib.hid (HU_41.out.trans u)
  have S42 : Hid (W41.heap.size ≤ W42.heap.size) := u.size
  clear u HU_41 CX_41 CY_41 HW_41 HN_41
  go_wp2_with fail
  go_ret
  exact ⟨rfl, HU_42.out⟩

end Go.Proofs.Ytemineffflodcaa
