/-
  The law SyncFew, walked: for every list, all places and every text the Go text returns true; nothing that was there turns. Conditions: as each says.
-/
import Derived.Test.YtacbhjjmbepngaaLawSync1
import Derived.Test.YtacbhjjmbepngaaIntRow
namespace Go.Proofs.Ytacbhjjmbepngaa
open Go.RowKit
open Go.Proofs
open WoolTree

theorem cmp_abc : cpE [[97], [98], [99]] [[97], [98], [99]] = 0 ∧ cpV [[97], [98], [99]] [[97], [98], [99]] = ([], 1) := by decide +kernel

theorem set_txs3 (l : List (List UInt8)) (sp : List Value) (i : Nat) (t : List UInt8) (h : i < l.length) : (fl txC l ++ sp).set i (.string (bs t)) = fl txC (l.set i t) ++ sp := by
  have hl := fl_length (f := txC) txC_len l
  rw [List.set_append_left _ _ (by rw [hl]; omega)]
  congr 1
  have e := fl_set (f := txC) txC_len l i h t
  rw [e, Nat.mul_one, List.set_eq_take_append_cons_drop, if_pos (by rw [hl]; omega)]
  rfl

/-- a text of a row of texts of the call's own, set -/
theorem OTxs.store {w : World} {base n c : Nat} {o : Option Addr} {l : List (List UInt8)} (h : OTxs w base (.slice o n c) l) (i : Nat) (t : List UInt8) (hi : i < l.length) :
    ∃ g, o = some ⟨g, 0, none⟩ ∧ base ≤ g ∧ w.cell? ⟨g, i, none⟩ = some (.string (bs l[i])) ∧ w.frozen? ⟨g, i, none⟩ = false ∧ OTxs (w.setCell ⟨g, i, none⟩ (.string (bs t))) base (.slice o n c) (l.set i t) := by
  rcases own_row h with ⟨_, h0, _⟩ | ⟨g, cap, sp, e, hb, hr, h3, h4, h5⟩
  · omega
  · simp only [Value.slice.injEq] at e
    obtain ⟨rfl, rfl, rfl⟩ := e
    have hset := set_txs3 l sp i t hi
    have hci : i < (fl txC l ++ sp).length := by rw [List.length_append, fl_length txC_len]; omega
    have hg := fl_get txC_len l i hi 0 (by omega)
    rw [Nat.mul_one, Nat.add_zero] at hg
    refine ⟨g, rfl, hb, hr.cell (by rw [List.getElem?_append_left (by rw [fl_length txC_len]; omega)]; exact hg), hr.frozen i, ?_⟩
    have hr2 := hr.set i (.string (bs t))
    rw [hset] at hr2
    unfold OTxs
    rw [List.length_set]
    exact own_mk hb hr2 (by rw [fl_length txC_len, List.length_set]) h3 h4 h5

theorem dif_new : ∀ (a b : List (List UInt8)) (i : Nat) (y : List UInt8) (_ : a.length = b.length) (hi : i < b.length), a[i]? = some b[i] → b[i] ≠ y → dif a (b.set i y) = dif a b + 1
  | [], b, i, y, h, hi, _, _ => by simp at h; omega
  | x :: r, [], i, y, h, hi, _, _ => by simp at h
  | x :: r, z :: s, 0, y, h, hi, h1, h2 => by
    simp at h1 h2
    subst h1
    rw [List.set_cons_zero, dif, dif, if_neg h2, if_pos rfl]; omega
  | x :: r, z :: s, i + 1, y, h, hi, h1, h2 => by
    rw [List.set_cons_succ, dif, dif]
    have := dif_new r s i y (by simpa using h) (by simpa using hi) (by simpa using h1) (by simpa using h2)
    omega

theorem dif_le : ∀ a b : List (List UInt8), dif a b ≤ a.length
  | [], b => by simp [dif]
  | x :: r, [] => by simp [dif]
  | x :: r, y :: s => by
    have := dif_le r s
    rw [dif, List.length_cons]
    split <;> omega

structure FwI (z : List (List UInt8)) (s : List UInt8) (w : World) (vb : Value) (B : List (List UInt8)) (wr : World) : Prop where
  len : B.length = z.length
  eq : ∀ j : Nat, z[j]? = B[j]? ∨ B[j]? = some s
  own : OTxs wr w.heap.size vb B
  up : Up w wr

def FwRel (z : List (List UInt8)) (s : List UInt8) (w : World) (vb : Value) (n : Nat) (many i : Value) (wr : World) : Prop :=
  ∃ (k M : Nat) (B : List (List UInt8)), k ≤ n ∧ i = .int .i64 (k : Int) ∧ many = .int .i64 (M : Int) ∧ M = dif z B ∧ FwI z s w vb B wr

def LvlRel2 (n : Nat) (i : Value) : Prop := ∃ j : Nat, j ≤ 5 ∧ (∀ k, k < j → 2 ^ k < n) ∧ i = .int .i64 (j : Int)

set_option maxRecDepth 100000 in
set_option maxHeartbeats 600000 in
theorem syncFew_core (a0 : Option Addr) (len0 cap0 : Nat) (z0 : List (List UInt8)) (a1 : Option Addr) (len1 cap1 : Nat) (z1 : List Int) (s : List UInt8) (w : World) (w0 : Txs w (.slice a0 len0 cap0) z0) (w1 : IsRow .i64 w a1 len1 cap1 z1) (s0 : cap0 * 16 ≤ 140737488351232) :
    Calls Try.prog 10 #[.slice a0 len0 cap0, .slice a1 len1 cap1, .string (bs s)] w fun e w' => e = .returned (.bool true) ∧ Up w w' := by
  have hl1 := Txs.lit w [[97], [98], [99]] 3 rfl (by omega)
  have hl2 := Txs.lit (w.alloc (.cells (fl txC [[97], [98], [99]]).toArray 9)) [[97], [98], [99]] 3 rfl (by omega)
  rw [show (w.alloc (.cells (fl txC [[97], [98], [99]]).toArray 9)).heap.size = w.heap.size + 1 by simp] at hl2
  have hcc := compareT_any _ _ _ _ _ (hl1.up (Up.alloc _ _)) hl2
  unfold CmpPost at hcc
  rw [cmp_abc.1, cmp_abc.2] at hcc
  have HCC : Hid (Calls Try.prog 26 #[.slice (some ⟨w.heap.size, 0, none⟩) 3 3, .slice (some ⟨w.heap.size + 1, 0, none⟩) 3 3] ((w.alloc (.cells #[.string ⟨#[97]⟩, .string ⟨#[98]⟩, .string ⟨#[99]⟩] 9)).alloc (.cells #[.string ⟨#[97]⟩, .string ⟨#[98]⟩, .string ⟨#[99]⟩] 9)) fun e w' => ∃ v, e = .returned (.tuple #[v, .int .i64 1, .int .i64 0]) ∧ Ints w' ((w.alloc (.cells #[.string ⟨#[97]⟩, .string ⟨#[98]⟩, .string ⟨#[99]⟩] 9)).alloc (.cells #[.string ⟨#[97]⟩, .string ⟨#[98]⟩, .string ⟨#[99]⟩] 9)).heap.size v [] ∧ Up ((w.alloc (.cells #[.string ⟨#[97]⟩, .string ⟨#[98]⟩, .string ⟨#[99]⟩] 9)).alloc (.cells #[.string ⟨#[97]⟩, .string ⟨#[98]⟩, .string ⟨#[99]⟩] 9)) w') := hcc
  clear hcc hl1 hl2
  obtain ⟨hlen0, hcap0⟩ := w0.len
  obtain ⟨hc1, hc2, hc3⟩ := w1.cells
  have HW0 := Lib.hid w0
  have HAT := Lib.hid hc3
  have HCN := Lib.hid (fun W (hW : Up w W) => cloneT_any _ z0 W (w0.up hW) (by omega))
  unfold ClTPost at HCN
  have HN0 := Lib.hid hlen0
  rw [← hlen0] at hcap0
  unfold maxLen at hc2
  clear w0 w1 hc3 hlen0
  go_enter Try.func10, Try.ntmps10
  go_wp2_with fail
  refine HCC.out.mono ?_
  rintro e w1 ⟨v1, rfl, hi1, u1⟩
  obtain ⟨o1, c1, hv1⟩ := hi1.shape
  subst hv1
  have HU1 := Lib.hid (((Up.alloc _ _).trans (Up.alloc _ _)).trans u1)
  clear u1 hi1
  go_wp2_with fail
  refine (HCN.out _ HU1.out).mono ?_
  rintro e w2 ⟨v2, rfl, ho2, u2⟩
  obtain ⟨o2, c2, hv2, _, _⟩ := ho2.txs.slice
  subst hv2
  rw [← HN0.out] at ho2 ⊢
  have HO2 : Hid (OTxs w2 w.heap.size (.slice o2 len0 c2) z0) := own_baseT ho2 HU1.out.size
  have HU2 := Lib.hid (HU1.out.trans u2)
  clear u2 ho2
  go_wp2_with fail
  go_loopw [11, 13, 35] (fun m _ i wr => FwRel z0 s w (.slice o2 len0 c2) len1 m i wr) (fun _ _ i _ => len1 - (intOf i).toNat)
  case atStart => exact ⟨0, 0, z0, Nat.zero_le _, rfl, rfl, (dif_self z0).symm, ⟨rfl, fun j => .inl rfl, HO2.out, HU2.out⟩⟩
  case round =>
    obtain ⟨k, M, B, hk, rfl, rfl, hM, hB, hBe, hown, hu⟩ := hrel
    have HM := Lib.hid hM
    have HB := Lib.hid hB
    have HBE := Lib.hid hBe
    have HOWN := Lib.hid hown
    have HU := Lib.hid hu
    have hdl := dif_le z0 B
    rw [← hM, ← HN0.out] at hdl
    by_cases hlt : k < len1
    · have dk : decide (k < len1) = true := decide_eq_true hlt
      rcases HAT.out with h0 | ⟨b, off, rfl, hat⟩
      · omega
      have hz := hat k hlt
      rw [← hu.cell (World.block_lt_of_cell? w _ hz)] at hz
      generalize z1.getD k 0 = x at hz
      by_cases hn0 : len0 = 0
      · have d0 : ((len0 : Int) == 0) = true := by rw [hn0]; rfl
        clear hM hB hBe hown hu hat
        go_wp2_with fail
        go_roundw
        case rel => exact ⟨k + 1, M, B, hlt, by go_num, rfl, HM.out, ⟨HB.out, HBE.out, HOWN.out, HU.out⟩⟩
        case measure => simp only [intOf]; omega
      · have d0 : ((len0 : Int) == 0) = false := by rw [beq_eq_false_iff_ne]; omega
        have HWI := Lib.hid (fun W => within_any x (len0 : Int) W (by omega) (by omega))
        rw [Int.toNat_natCast] at HWI
        have hI := within_lt x len0 (by omega)
        obtain ⟨I, hII⟩ : ∃ I, within x len0 = I := ⟨_, rfl⟩
        rw [hII] at HWI hI
        have hIB : I < B.length := by rw [hB, ← HN0.out]; exact hI
        obtain ⟨g, rfl, hg, q1, q2, hst⟩ := hown.store I s hIB
        have hqq := txt_eqT B[I] s
        have hz0 := hBe I
        rw [List.getElem?_eq_getElem hIB] at hz0
        by_cases hy : B[I] = s
        · have hne : ((bs B[I]).toList == (bs s).toList) = true := by rw [hqq, beq_iff_eq]; exact hy
          generalize B[I] = y at *
          clear hM hB hBe hown hu hat hII hqq hst hy hz0
          go_wp2_with fail
          refine (HWI.out _).mono ?_
          rintro e w3 ⟨rfl, rfl⟩
          go_wp2_with fail
          go_roundw
          case rel => exact ⟨k + 1, M, B, hlt, by go_num, rfl, HM.out, ⟨HB.out, HBE.out, HOWN.out, HU.out⟩⟩
          case measure => simp only [intOf]; omega
        · have hne : ((bs B[I]).toList == (bs s).toList) = false := by rw [hqq, beq_eq_false_iff_ne]; exact hy
          have hz1 : z0[I]? = some B[I] := by
            rcases hz0 with h | h
            · exact h
            · exact absurd (Option.some.inj h) hy
          have hdn := dif_new z0 B I s hB.symm hIB hz1 hy
          have HDN := Lib.hid hdn
          have HST := Lib.hid hst
          have hBe2 : ∀ j : Nat, z0[j]? = (B.set I s)[j]? ∨ (B.set I s)[j]? = some s := by
            intro j
            by_cases e : I = j
            · subst e; right; rw [List.getElem?_set_self hIB]
            · rw [List.getElem?_set_ne e]; exact hBe j
          have HBE2 := Lib.hid hBe2
          have HB2 : Hid ((B.set I s).length = z0.length) := by show _ = _; rw [List.length_set]; exact hB
          generalize B[I] = y at *
          clear hM hB hBe hown hu hat hII hqq hst hy hz0 hz1 hdn hBe2
          go_wp2_with fail
          refine (HWI.out _).mono ?_
          rintro e w3 ⟨rfl, rfl⟩
          go_wp2_with fail
          have HU3 : Hid (Up w (wr.setCell ⟨g, I, none⟩ (.string (bs s)))) := Below.setCell HU.out (p := ⟨g, I, none⟩) hg _
          generalize wr.setCell ⟨g, I, none⟩ (.string (bs s)) = wc at HST HU3 ⊢
          go_roundw
          case rel => exact ⟨k + 1, M + 1, B.set I s, hlt, by go_num, by go_num, by rw [HDN.out, HM.out], ⟨HB2.out, HBE2.out, HST.out, HU3.out⟩⟩
          case measure => simp only [intOf]; omega
    · have dk : decide (k < len1) = false := decide_eq_false hlt
      have HCM := Lib.hid (fun W (hW : Up wr W) => compareT_any _ _ z0 B W ((HW0.out.up HU.out).up hW) (HOWN.out.txs.up hW))
      unfold CmpPost at HCM
      by_cases hcp : cpE z0 B = 0
      · obtain ⟨ha, hb, hl⟩ := cpE_ok hcp
        obtain ⟨h0, h32, sa⟩ := chkT_ok ha
        have hv : cpV z0 B = cm TH z0.length z0 B 0 := if_pos hcp
        rw [hcp, hv] at HCM
        have hfew := fun h hh => cm_few TH h z0.length z0 B 0 h0 hh hl
        have hmany := (cm_short z0.length z0 B 0 h0 (Nat.le_refl _)).2
        rw [← HN0.out] at hfew hmany h0 h32
        rw [← HN0.out] at HCM
        rw [← hM] at hfew
        generalize cm TH len0 z0 B 0 = r at *
        obtain ⟨X, N⟩ := r
        simp only at HCM hfew hmany
        have HFW := Lib.hid hfew
        clear hM hB hBe hown hu hcp ha hb hl sa hv hfew
        go_wp2_with fail
        refine (HCM.out _ (Up.refl _)).mono ?_
        rintro e w3 ⟨v3, rfl, hi3, u3⟩
        obtain ⟨o3, c3, hv3⟩ := hi3.shape
        subst hv3
        have HU3 := Lib.hid (HU.out.trans u3)
        clear u3 hi3
        go_wp2_with fail
        go_loop [17] (fun i => LvlRel2 len0 i) (fun i => 6 - (intOf i).toNat)
        case atStart => exact ⟨0, by omega, fun k hk => by omega, rfl⟩
        case round =>
          obtain ⟨j, hj, hkk, rfl⟩ := hrel
          have HK := Lib.hid hkk
          clear hkk
          obtain ⟨K, hKK⟩ : ∃ K, 2 ^ j = K := ⟨_, rfl⟩
          have HKK := Lib.hid hKK
          have hsh := shl_oneL j K (by omega) hKK
          clear hKK
          by_cases h3 : K < len0
          · have d3 : decide (K < len0) = true := decide_eq_true h3
            have hj4 : j + 1 ≤ 5 := by
              apply Nat.lt_of_not_le
              intro h5
              have : j = 5 := by omega
              subst this
              have := HKK.out
              simp at this
              omega
            go_wp2_with fail
            go_round
            case rel =>
              refine ⟨j + 1, hj4, fun k hk => ?_, by go_num⟩
              by_cases e : k = j
              · subst e; rw [HKK.out]; exact h3
              · exact HK.out k (by omega)
            case measure => simp only [intOf]; omega
          · have d3 : decide (K < len0) = false := decide_eq_false h3
            have hfin := HFW.out j (by rw [HKK.out]; omega)
            have hM32 : M ≤ 32 := by omega
            have hj6 : j = 0 ∨ j = 1 ∨ j = 2 ∨ j = 3 ∨ j = 4 ∨ j = 5 := by omega
            rcases hj6 with rfl | rfl | rfl | rfl | rfl | rfl
            all_goals
              obtain rfl := HKK.out
              clear hsh hj
              simp only [Nat.reducePow, Nat.reduceMul] at h3 d3 hfin
              go_wp2_with fail
              go_ret
              refine ⟨?_, HU3.out⟩
              show Ending.returned (.bool (decide ((N : Int) ≤ _))) = _
              rw [decide_eq_true (by omega)]
      · have hv : cpV z0 B = ([], 0) := if_neg hcp
        rw [hv] at HCM
        have hne : (cpE z0 B != 0) = true := by rw [bne_iff_ne]; exact hcp
        simp only at HCM
        rw [hB, ← HN0.out] at *
        generalize cpE z0 B = E at *
        clear hM hBe hown hu hcp hv
        go_wp2_with fail
        refine (HCM.out _ (Up.refl _)).mono ?_
        rintro e w3 ⟨v3, rfl, hi3, u3⟩
        obtain ⟨o3, c3, hv3⟩ := hi3.shape
        subst hv3
        have HU3 := Lib.hid (HU.out.trans u3)
        clear u3 hi3
        go_wp2_with fail
        go_ret
        exact ⟨rfl, HU3.out⟩

theorem syncFew_walk (a0 : Option Addr) (len0 cap0 : Nat) (z0 : List (List UInt8)) (a1 : Option Addr) (len1 cap1 : Nat) (z1 : List Int) (a2 : ByteArray) (w : World) (w0 : Txs w (.slice a0 len0 cap0) z0) (w1 : IsRow .i64 w a1 len1 cap1 z1) (_w2 : a2.size ≤ 140737488351232) (s0 : cap0 * 16 ≤ 140737488351232) :
    Calls Try.prog 10 #[.slice a0 len0 cap0, .slice a1 len1 cap1, .string a2] w fun e w' => e = .returned (.bool true) ∧ Up w w' := by
  have := syncFew_core a0 len0 cap0 z0 a1 len1 cap1 z1 a2.data.toList w w0 w1 s0
  rwa [bs_of] at this

end Go.Proofs.Ytacbhjjmbepngaa
