/-
  The law SegKeeps: cleaning keeps what is live, and takes no more room. Condition: the rows can be read.
-/
import Derived.Test.YtalbfhoffhhjmaaSegR
import Derived.Test.YtalbfhoffhhjmaaSegS
import Derived.Test.YtalbfhoffhhjmaaSegU
import Derived.Test.YtalbfhoffhhjmaaSegV
import Derived.Test.YtalbfhoffhhjmaaRSeg1
import Derived.Test.YtalbfhoffhhjmaaRSeg2
import Derived.Test.YtalbfhoffhhjmaaBagJ
import Derived.Deep.RegionHeld3
import Derived.Deep.QuietTactic
import Derived.BigQuiet
namespace Go.Proofs.Ytalbfhoffhhjmaa
open Go.RowKit
open Go.Proofs
open WoolBag
open WoolSeg

theorem fpaS : fp 65581 [97] = 353 := by kernel_rfl
theorem fpbS : fp 65581 [98] = 354 := by kernel_rfl
theorem FPaS : FP [97] = 353 := by unfold FP; rw [fpaS]; rfl
theorem FPbS : FP [98] = 354 := by unfold FP; rw [fpbS]; rfl

theorem one_eqS : one1 = [⟨353, 0, [97], 1⟩] := by
  have h := put_new (F := FP) (l := []) (t := [97]) Bag.nil (by simp) (by simp) (by simp)
  unfold one1
  rw [h]
  have hn : new FP [] [97] = ⟨353, 0, [97], 1⟩ := by
    unfold new
    rw [FPaS, nfree_stop (by rfl)]
    rfl
  rw [hn]
  rfl

theorem two_eqS : twoL = [⟨353, 0, [97], 1⟩, ⟨354, 0, [98], 1⟩] := by
  obtain ⟨i, h, ht⟩ := one_put
  have h2 := put_new (F := FP) (l := one1) (t := [98]) (put_spec h).1 (by simp) (fun x hx e => by rw [ht x hx] at e; cases e) (by rw [one_len]; omega)
  unfold twoL
  rw [h2, one_eqS]
  have hn : new FP [⟨353, 0, [97], 1⟩] [98] = ⟨354, 0, [98], 1⟩ := by
    unfold new
    rw [FPbS, nfree_stop (by rfl)]
    rfl
  rw [hn]
  rfl

theorem fits_rr : fits [((true, 353, 0), [97]), ((true, 353, 0), [97])] = [[((true, 353, 0), [97]), ((true, 353, 0), [97])]] := by decide
theorem right_rr : Right [[((true, 353, 0), [97]), ((true, 353, 0), [97])]] := by
  have h := fits_right [((true, 353, 0), [97]), ((true, 353, 0), [97])]
  rw [fits_rr] at h
  exact h
theorem live_rr : WoolSeg.live FP [[((true, 353, 0), [97]), ((true, 353, 0), [97])]] twoL = ([9], 0) := by
  rw [live_ok right_rr two_bag, two_eqS]
  have e : (alive [⟨353, 0, [97], 1⟩, ⟨354, 0, [98], 1⟩] [[((true, 353, 0), [97]), ((true, 353, 0), [97])]]).map takes = [9] := by decide
  rw [e]

theorem recs_new2 (w : World) (r : Rc) : ORecs (w.alloc (.cells (rcC r ++ rcC r).toArray 30)) w.heap.size (.slice (some ⟨w.heap.size, 0, none⟩) 2 2) [r, r] := by
  have h : RowC (w.alloc (.cells (rcC r ++ rcC r).toArray 30)) w.heap.size 30 (rcC r ++ rcC r) := heap_alloc_new w _
  have := own_mk (m := 4) (n := 2) (cap := 2) (L := rcC r ++ rcC r) (sp := []) (Nat.le_refl w.heap.size) (by rw [List.append_nil]; exact h) (by rw [List.length_append, rcC_len]) (Nat.le_refl _) (by unfold maxLen; omega) (by simp)
  have e : fl rcC [r, r] = rcC r ++ rcC r := by
    show rcC r ++ (rcC r ++ []) = _
    rw [List.append_nil]
  unfold ORecs
  rw [e]
  exact this

theorem ns_new1 (w : World) (n : Nat) : Ns (w.alloc (.cells #[.int .i64 (n : Int)] 3)) (.slice (some ⟨w.heap.size, 0, none⟩) 1 1) [n] := by
  have h : RowC (w.alloc (.cells #[.int .i64 (n : Int)] 3)) w.heap.size 3 [.int .i64 (n : Int)] := heap_alloc_new w _
  have : ONs (w.alloc (.cells #[.int .i64 (n : Int)] 3)) w.heap.size (.slice (some ⟨w.heap.size, 0, none⟩) 1 1) [n] := own_mk (m := 1) (n := 1) (cap := 1) (L := [.int .i64 (n : Int)]) (sp := []) (Nat.le_refl w.heap.size) (by rw [List.append_nil]; exact h) rfl (Nat.le_refl _) (by unfold maxLen; omega) (by simp)
  exact this.ns

theorem takes_step2 {l : List (List Rc)} {k : Nat} (h : k < l.length) : ((l.take (k + 1)).map takes).sum = ((l.take k).map takes).sum + takes l[k] := by
  rw [List.take_succ_eq_append_getElem h, List.map_append, List.sum_append]
  simp
theorem takes_most : ∀ (l : List (List Rc)), (∀ s ∈ l, takes s ≤ 200) → (l.map takes).sum ≤ l.length * 200
  | [], _ => by simp
  | s :: l, h => by
    have h1 := h s (List.mem_cons_self ..)
    have h2 := takes_most l fun x hx => h x (List.mem_cons_of_mem _ hx)
    rw [List.map_cons, List.sum_cons, List.length_cons]
    omega
theorem takes_part (l : List (List Rc)) (k : Nat) : ((l.take k).map takes).sum ≤ (l.map takes).sum := by
  conv => rhs; rw [← List.take_append_drop k l, List.map_append, List.sum_append]
  omega

theorem keep_cases {L : List (List Rc)} (b : List Itm) (hR : Right L) : (∃ eL eC, (eL ≠ 0 ∨ eC ≠ 0) ∧ WoolSeg.live FP L b = ([], eL) ∧ WoolSeg.clean FP L b = ([], eC)) ∨ (Bag FP b ∧ L ≠ []) := by
  by_cases hb : Bag FP b
  · by_cases hn : L = []
    · subst hn
      exact .inl ⟨0, 4, .inr (by omega), by rw [live_ok hR hb]; rfl, clean_none hb⟩
    · exact .inr ⟨hb, hn⟩
  · have h1 := live_bad hR hb
    have h2 := clean_bad hR hb
    exact .inl ⟨_, _, .inl h1.2, h1.1, h2.1⟩

theorem keep_main {L : List (List Rc)} {b : List Itm} (hR : Right L) (hb : Bag FP b) (hn : L ≠ []) : ∃ (Y : List (List Rc)) (A1 A2 : List Nat) (S : Nat) (H : List Rc), WoolSeg.live FP L b = (A1, 0) ∧ WoolSeg.clean FP L b = (Y, 0) ∧ Right Y ∧ Y.length ≤ L.length ∧ WoolSeg.live FP Y b = (A2, 0) ∧ A1.sum = S ∧ A2.sum = S ∧ S ≤ 3200 ∧ (Y.map takes).sum ≤ (L.map takes).sum ∧ (L.map takes).sum ≤ 3200 ∧ held b L = H ∧ held b Y = H := by
  have hRY := cleaned_right (b := b) hR hn
  have hh := cleaned_held (b := b) hn
  have hs : takes (alive b (cleaned b L)).flatten = takes (alive b L).flatten := live_same hb hh
  refine ⟨cleaned b L, _, _, takes (alive b L).flatten, held b L, live_ok hR hb, clean_ok hR hb hn, hRY.1, hRY.2, live_ok hRY.1 hb, live_sum b L, by rw [live_sum, hs], ?_, ?_, ?_, rfl, hh⟩
  · rw [← live_sum]
    have := takes_most _ (alive_takes (b := b) hR)
    rw [alive_length] at this
    have := hR.len
    omega
  · rw [takes_flatten, takes_flatten]
    exact cleaned_takes hn
  · have := takes_most L fun s h => (hR.seg s h).room
    have := hR.len
    omega

/-- the sum of what segments take, so far -/
def KTRel (L : List (List Rc)) (w : World) (n i : Value) (wr : World) : Prop :=
  ∃ k : Nat, k ≤ L.length ∧ i = .int .i64 (k : Int) ∧ n = .int .i64 ((((L.take k).map takes).sum : Nat) : Int) ∧ Up w wr

set_option maxRecDepth 100000 in
set_option maxHeartbeats 8000000 in
theorem segKeeps_walk (a0 : Option Addr) (len0 cap0 : Nat) (z0 : List Rc) (a1 : Option Addr) (len1 cap1 : Nat) (z1 : List Itm) (w : World) (w0 : Recs w (.slice a0 len0 cap0) z0) (w1 : Items w (.slice a1 len1 cap1) z1) :
    Calls Try.prog 3 #[.slice a0 len0 cap0, .slice a1 len1 cap1] w fun e w' => e = .returned (.bool true) ∧ Up w w' := by
  have HF1 : Hid (∀ W : World, Calls Try.prog 8 #[.slice (some ⟨W.heap.size, 0, none⟩) 2 2] (W.alloc (.cells #[.bool true, .int .i64 353, .int .i64 0, .string (bs [97]), .bool true, .int .i64 353, .int .i64 0, .string (bs [97])] 30)) (SgPost (W.alloc (.cells #[.bool true, .int .i64 353, .int .i64 0, .string (bs [97]), .bool true, .int .i64 353, .int .i64 0, .string (bs [97])] 30)) [[((true, 353, 0), [97]), ((true, 353, 0), [97])]])) := fun W => by
    have h1 := fits_any _ [((true, 353, 0), [97]), ((true, 353, 0), [97])] _ (recs_new2 W ((true, 353, 0), [97])).recs
    rw [fits_rr] at h1
    exact h1
  have HL1 : Hid (∀ v u W, Sgs W v [[((true, 353, 0), [97]), ((true, 353, 0), [97])]] → Items W u twoL → Calls Try.prog 9 #[v, u] W (LivePost W ([9], 0))) := fun v u W hv hu => by
    have h1 := live_any v u _ twoL W hv hu (Right.small right_rr)
    rw [live_rr] at h1
    exact h1
  have HF2 := Lib.hid (fun W (hW : Up w W) => fits_any _ z0 W (w0.up hW))
  have HR2 := Lib.hid (fits_right z0)
  have HB := Lib.hid w1
  generalize fits z0 = L2 at HF2 HR2
  clear w0 w1
  go_enter Try.func3, Try.ntmps3
  go_wp2_with fail
  refine (two_open _).mono ?_
  rintro e w1 ⟨o1, c1, rfl, ho1, u1⟩
  have HX1 := Lib.hid ho1.items
  have HU1 := Lib.hid u1
  obtain ⟨o1', c1', hv, hle, hmx, h4⟩ := ho1.items
  have hlen2 := two_len
  simp only [Value.slice.injEq] at hv
  obtain ⟨rfl, h22, rfl⟩ := hv
  clear h22
  rcases h4 with h4 | ⟨bb, off, rfl, h4⟩
  · rw [h4] at hlen2; simp at hlen2
  have hc0 := h4 0 (by omega)
  have h20 : twoL[0]'(by omega) = ⟨353, 0, [97], 1⟩ := by simp only [two_eqS]; rfl
  rw [h20] at hc0
  simp only [Nat.zero_mul, Nat.add_zero] at hc0
  have p0 := hc0.1
  have p2 := hc0.2.2.1
  clear hc0 ho1 u1 h4 hle hmx hlen2 h20
  go_wp2_with fail
  go_region_held3 (fun U => U.cell? ⟨bb, off, none⟩ = some (.int .i64 353) ∧ U.cell? ⟨bb, off + 2, none⟩ = some (.string (bs [97]))) (go_keep) (fail)
  have HR0 : Hid (RowC (w1.alloc (.cells #[.bool true, .int .i64 353, .int .i64 0, .string (bs [97])] 30)).drew w1.heap.size 30 [.bool true, .int .i64 353, .int .i64 0, .string (bs [97])]) := RowC.up (heap_alloc_new w1 _) (Up.drew _)
  have hv := (Up.alloc w1 (.cells #[.bool true, .int .i64 353, .int .i64 0, .string (bs [97])] 30)).trans (Up.drew _)
  have HX2 := Lib.hid (HX1.out.up hv)
  have HU2 := Lib.hid (HU1.out.trans hv)
  clear hv p0 p2 HX1 HU1
  generalize (w1.alloc (.cells #[.bool true, .int .i64 353, .int .i64 0, .string (bs [97])] 30)).drew = W2 at HR0 HX2 HU2 ⊢
  generalize w1.heap.size = P at HR0 ⊢
  have r0 := HR0.out.cell (j := 0) rfl
  have r1 := HR0.out.cell (j := 1) rfl
  have r2 := HR0.out.cell (j := 2) rfl
  have r3 := HR0.out.cell (j := 3) rfl
  clear HR0
  go_wp2_with fail
  refine (HF1.out _).mono ?_
  rintro e w3 ⟨v3, rfl, ho3, u3⟩
  have hv3 := (Up.alloc W2 (.cells #[.bool true, .int .i64 353, .int .i64 0, .string (bs [97]), .bool true, .int .i64 353, .int .i64 0, .string (bs [97])] 30)).trans u3
  have HX3 := Lib.hid (HX2.out.up hv3)
  have HU3 := Lib.hid (HU2.out.trans hv3)
  have HO3 := Lib.hid ho3.sgs
  obtain ⟨o3, c3, hs3, _, _⟩ := ho3.sgs.slice
  rw [List.length_singleton] at hs3
  subst hs3
  clear ho3 u3 hv3 HX2 HU2 r0 r1 r2 r3
  go_wp2_with fail
  refine (HL1.out _ _ _ HO3.out HX3.out).mono ?_
  rintro e w4 ⟨v4, rfl, ho4, u4⟩
  have HU4 := Lib.hid (HU3.out.trans u4)
  have HN4 := Lib.hid ho4.ns
  obtain ⟨o4, c4, hs4, _, _⟩ := ho4.ns.slice
  rw [show ([9], (0 : Int)).1.length = 1 from rfl] at hs4
  subst hs4
  have HQ9 : Hid (Ns (w4.alloc (.cells #[.int .i64 9] 3)) (.slice (some ⟨w4.heap.size, 0, none⟩) 1 1) [9]) := ns_new1 w4 9
  clear ho4 u4 HX3 HU3 HO3
  go_wp2_with fail
  refine (equalN_yes _ _ [9] _ (HN4.out.up (Up.alloc _ _)) HQ9.out (by simp)).mono ?_
  rintro e w5 ⟨rfl, u5⟩
  have HU5 : Hid (Up w w5) := HU4.out.trans ((Up.alloc _ _).trans u5)
  clear u5 HU4 HN4 HQ9 HF1 HL1
  generalize Value.slice (some ⟨bb, off, none⟩) 2 c1 = x5
  rcases keep_cases z1 HR2.out with ⟨eL, eC, hne, hl, hc⟩ | ⟨hbag, hnn⟩
  · have HLV : Hid (∀ v u W, Sgs W v L2 → Items W u z1 → Calls Try.prog 9 #[v, u] W (LivePost W ([], eL))) := fun v u W hv hu => by
      have h1 := live_any v u L2 z1 W hv hu (Right.small HR2.out)
      rw [hl] at h1
      exact h1
    have HCL : Hid (∀ v u W, Sgs W v L2 → Items W u z1 → Calls Try.prog 11 #[v, u] W (PutSPost W ([], eC))) := fun v u W hv hu => by
      have h1 := cleanS_any v u L2 z1 W hv hu (Right.small HR2.out)
      rw [hc] at h1
      exact h1
    clear hl hc
    go_wp2_with fail
    refine (HF2.out _ HU5.out).mono ?_
    rintro e w6 ⟨v6, rfl, ho6, u6⟩
    have HU6 := Lib.hid (HU5.out.trans u6)
    have HO6 := Lib.hid ho6.sgs
    clear ho6 u6 HU5
    go_wp2_with fail
    refine (HLV.out _ _ _ HO6.out (HB.out.up HU6.out)).mono ?_
    rintro e w7 ⟨v7, rfl, ho7, u7⟩
    have HU7 := Lib.hid (HU6.out.trans u7)
    have HO7 := Lib.hid (HO6.out.up u7)
    clear ho7 u7 HU6 HO6
    go_wp2_with fail
    refine (HCL.out _ _ _ HO7.out (HB.out.up HU7.out)).mono ?_
    rintro e w8 ⟨v8, rfl, ho8, u8⟩
    have HU8 := Lib.hid (HU7.out.trans u8)
    obtain ⟨o8, c8, hs8, _, _⟩ := ho8.sgs.slice
    rw [show (([] : List (List Rc)), eC).1.length = 0 from rfl] at hs8
    subst hs8
    clear ho8 u8 HU7 HO7
    by_cases heL : eL = 0
    · subst heL
      have d2 : (eC != 0) = true := by
        rw [bne_iff_ne]
        rcases hne with h | h
        · exact absurd rfl h
        · exact h
      clear hne
      go_wp2_with fail
      go_ret
      exact ⟨rfl, HU8.out⟩
    · have d2 : (eL != 0) = true := bne_iff_ne.2 heL
      clear hne heL
      go_wp2_with fail
      go_ret
      exact ⟨rfl, HU8.out⟩
  · obtain ⟨Y, A1, A2, S, H, hl, hc, hRY, hYL, hlY, hA1, hA2, hS, hT2, hT, hH1, hH2⟩ := keep_main HR2.out hbag hnn
    have HLV : Hid (∀ v u W, Sgs W v L2 → Items W u z1 → Calls Try.prog 9 #[v, u] W (LivePost W (A1, 0))) := fun v u W hv hu => by
      have h1 := live_any v u L2 z1 W hv hu (Right.small HR2.out)
      rw [hl] at h1
      exact h1
    have HCL : Hid (∀ v u W, Sgs W v L2 → Items W u z1 → Calls Try.prog 11 #[v, u] W (PutSPost W (Y, 0))) := fun v u W hv hu => by
      have h1 := cleanS_any v u L2 z1 W hv hu (Right.small HR2.out)
      rw [hc] at h1
      exact h1
    have HLY : Hid (∀ v u W, Sgs W v Y → Items W u z1 → Calls Try.prog 9 #[v, u] W (LivePost W (A2, 0))) := fun v u W hv hu => by
      have h1 := live_any v u Y z1 W hv hu (Right.small hRY)
      rw [hlY] at h1
      exact h1
    have HCK : Hid (∀ v W, Sgs W v Y → Calls Try.prog 12 #[v] W fun e w' => e = .returned (.int .i64 0) ∧ Up W w') := fun v W hv => checkSg_right v Y W hv hRY
    have HAL : Hid (∀ v u W, Sgs W v L2 → Items W u z1 → Calls Try.prog 16 #[v, u] W (RsPost W H)) := fun v u W hv hu => by
      have h1 := alive_any v u L2 z1 W hv hu HR2.out hbag
      rw [hH1] at h1
      exact h1
    have HAY : Hid (∀ v u W, Sgs W v Y → Items W u z1 → Calls Try.prog 16 #[v, u] W (RsPost W H)) := fun v u W hv hu => by
      have h1 := alive_any v u Y z1 W hv hu hRY hbag
      rw [hH2] at h1
      exact h1
    have HS1 : Hid (∀ v W, Ns W v A1 → Calls Try.prog 14 #[v] W fun e w' => e = .returned (.int .i64 ((S : Nat) : Int)) ∧ Up W w') := fun v W hv => by
      have h1 := sum1_any v A1 W hv (by omega)
      rw [hA1] at h1
      exact h1
    have HS2 : Hid (∀ v W, Ns W v A2 → Calls Try.prog 14 #[v] W fun e w' => e = .returned (.int .i64 ((S : Nat) : Int)) ∧ Up W w') := fun v W hv => by
      have h1 := sum1_any v A2 W hv (by omega)
      rw [hA2] at h1
      exact h1
    have HTL : Hid (∀ k (h : k < L2.length) v W, Recs W v L2[k] → Calls Try.prog 13 #[v] W fun e w' => e = .returned (.int .i64 ((takes L2[k] : Nat) : Int)) ∧ Up W w') := fun k h v W hv => refTakes_any v _ W hv (by have := (HR2.out.seg _ (List.getElem_mem h)).room; omega)
    have HTY : Hid (∀ k (h : k < Y.length) v W, Recs W v Y[k] → Calls Try.prog 13 #[v] W fun e w' => e = .returned (.int .i64 ((takes Y[k] : Nat) : Int)) ∧ Up W w') := fun k h v W hv => refTakes_any v _ W hv (by have := (hRY.seg _ (List.getElem_mem h)).room; omega)
    have hl16 := HR2.out.len
    have hy16 := hRY.len
    obtain ⟨T1, hT1⟩ : ∃ T, (L2.map takes).sum = T := ⟨_, rfl⟩
    obtain ⟨T2, hT2'⟩ : ∃ T, (Y.map takes).sum = T := ⟨_, rfl⟩
    have HPL := Lib.hid (takes_part L2)
    have HPY := Lib.hid (takes_part Y)
    rw [hT1] at hT hT2 HPL
    rw [hT2'] at hT2 HPY
    have HT1 := Lib.hid hT1
    have HT2 := Lib.hid hT2'
    obtain ⟨n2, hn2⟩ : ∃ n, L2.length = n := ⟨_, rfl⟩
    obtain ⟨m2, hm2⟩ : ∃ n, Y.length = n := ⟨_, rfl⟩
    have HN2 := Lib.hid hn2
    have HM2 := Lib.hid hm2
    rw [hn2] at hl16 hYL
    rw [hm2] at hy16 hYL
    have HH := Lib.hid (show m2 ≤ n2 ∧ n2 ≤ 16 ∧ S ≤ 3200 ∧ T2 ≤ T1 ∧ T1 ≤ 3200 from ⟨hYL, hl16, hS, hT2, hT⟩)
    clear hl hc hRY hYL hlY hA1 hA2 hS hT2 hT hH1 hH2 hl16 hy16 hT1 hT2' hn2 hm2 hbag hnn HR2
    go_wp2_with fail
    refine (HF2.out _ HU5.out).mono ?_
    rintro e w6 ⟨v6, rfl, ho6, u6⟩
    have HU6 := Lib.hid (HU5.out.trans u6)
    have HO6 := Lib.hid ho6.sgs
    obtain ⟨o6, c6, hs6, _, _⟩ := ho6.sgs.slice
    rw [HN2.out] at hs6
    subst hs6
    clear ho6 u6 HU5 HF2
    go_wp2_with fail
    refine (HLV.out _ _ _ HO6.out (HB.out.up HU6.out)).mono ?_
    rintro e w7 ⟨v7, rfl, ho7, u7⟩
    have HU7 := Lib.hid (HU6.out.trans u7)
    have HO7 := Lib.hid (HO6.out.up u7)
    have HA7 := Lib.hid ho7.ns
    obtain ⟨o7, c7, hs7, _, _⟩ := ho7.ns.slice
    generalize List.length _ = nA at hs7
    subst hs7
    clear ho7 u7 HU6 HO6 HLV
    go_wp2_with fail
    refine (HCL.out _ _ _ HO7.out (HB.out.up HU7.out)).mono ?_
    rintro e w8 ⟨v8, rfl, ho8, u8⟩
    have HU8 := Lib.hid (HU7.out.trans u8)
    have HO8 := Lib.hid (HO7.out.up u8)
    have HA8 := Lib.hid (HA7.out.up u8)
    have HY8 := Lib.hid ho8.sgs
    obtain ⟨o8, c8, hs8, _, _⟩ := ho8.sgs.slice
    rw [show (Y, (0 : Int)).1.length = m2 from HM2.out] at hs8
    subst hs8
    clear ho8 u8 HU7 HO7 HA7 HCL
    go_wp2_with fail
    refine (HLY.out _ _ _ HY8.out (HB.out.up HU8.out)).mono ?_
    rintro e w9 ⟨v9, rfl, ho9, u9⟩
    have HU9 := Lib.hid (HU8.out.trans u9)
    have HO9 := Lib.hid (HO8.out.up u9)
    have HA9 := Lib.hid (HA8.out.up u9)
    have HY9 := Lib.hid (HY8.out.up u9)
    have HB9 := Lib.hid ho9.ns
    obtain ⟨o9, c9, hs9, _, _⟩ := ho9.ns.slice
    generalize List.length _ = nB at hs9
    subst hs9
    clear ho9 u9 HU8 HO8 HA8 HY8 HLY
    go_wp2_with fail
    refine (HCK.out _ _ HY9.out).mono ?_
    rintro e wa ⟨rfl, ua⟩
    have HUa := Lib.hid (HU9.out.trans ua)
    have HOa := Lib.hid (HO9.out.up ua)
    have HAa := Lib.hid (HA9.out.up ua)
    have HYa := Lib.hid (HY9.out.up ua)
    have HBa := Lib.hid (HB9.out.up ua)
    clear ua HU9 HO9 HA9 HY9 HB9 HCK
    have hmn : m2 ≤ n2 := HH.out.1
    have dm : decide (n2 < m2) = false := decide_eq_false (by omega)
    go_wp2_with fail
    go_loopw [15, 99] (fun n i wr => KTRel L2 wa n i wr) (fun _ i _ => n2 - (intOf i).toNat)
    case atStart => exact ⟨0, Nat.zero_le _, rfl, rfl, Up.refl _⟩
    case round =>
      obtain ⟨k, hk, rfl, rfl, hu⟩ := hrel
      rw [HN2.out] at hk
      have HU := Lib.hid hu
      by_cases hlt : k < n2
      · have hkL : k < L2.length := by rw [HN2.out]; exact hlt
        obtain ⟨bA, offA, hoA, hat⟩ := HOa.out.at (by intro e; rw [e] at hkL; simp at hkL)
        obtain ⟨x, a0', hx⟩ := hat k hkL
        subst hoA
        rw [← hu.cell (World.block_lt_of_cell? _ _ a0')] at a0'
        have HTX := Lib.hid (HTL.out k hkL x wr (hx.up hu))
        have hst := takes_step2 hkL
        have hle := HPL.out (k + 1)
        have hm3 := HH.out.2.2.2.2
        have hk15 : k ≤ 15 := by have := HH.out.2.1; omega
        obtain ⟨t, ht⟩ : ∃ t, takes L2[k] = t := ⟨_, rfl⟩
        rw [ht] at hst HTX
        obtain ⟨q1, hq1⟩ : ∃ q1, ((L2.take (k + 1)).map takes).sum = q1 := ⟨_, rfl⟩
        have HQ := Lib.hid hq1
        rw [hq1] at hst hle
        generalize ((L2.take k).map takes).sum = q at hst ⊢
        have HST := Lib.hid hst
        have p1 : IntKind.i64.wrap ((q : Int) + (t : Int)) = (q1 : Int) := by rw [show (q : Int) + (t : Int) = (q1 : Int) by omega]; exact IntWalk.i64_in _ (by omega)
        have d1 : decide (k < n2) = true := decide_eq_true hlt
        clear hat hu hx ht hq1 hst hle hm3
        go_wp2_with fail
        refine HTX.out.mono ?_
        rintro e wt ⟨rfl, ut⟩
        have HUt : Hid (Up wa wt) := HU.out.trans ut
        clear ut
        go_wp2_with fail
        go_roundw
        case rel => exact ⟨k + 1, by rw [HN2.out]; omega, by go_num, congrArg (Value.int IntKind.i64) (by rw [HQ.out]), HUt.out⟩
        case measure => simp only [intOf]; omega
      · have d1 : decide (k < n2) = false := decide_eq_false hlt
        rw [List.take_of_length_le (by rw [HN2.out]; omega), HT1.out]
        have HUb := Lib.hid (HUa.out.trans hu)
        have HOb := Lib.hid (HOa.out.up hu)
        have HAb := Lib.hid (HAa.out.up hu)
        have HYb := Lib.hid (HYa.out.up hu)
        have HBb := Lib.hid (HBa.out.up hu)
        clear HUa HOa HAa HYa HBa hu HU
        obtain ⟨wb, hwb⟩ : ∃ W, W = wr := ⟨_, rfl⟩
        subst hwb
        go_wp2_with fail
        go_loopw [16, 110] (fun n i wr => KTRel Y wb n i wr) (fun _ i _ => m2 - (intOf i).toNat)
        case atStart => exact ⟨0, Nat.zero_le _, rfl, rfl, Up.refl _⟩
        case round =>
          obtain ⟨j, hj, rfl, rfl, hu⟩ := hrel
          rw [HM2.out] at hj
          have HU := Lib.hid hu
          by_cases hltj : j < m2
          · have hkL : j < Y.length := by rw [HM2.out]; exact hltj
            obtain ⟨bA, offA, hoA, hat⟩ := HYb.out.at (by intro e; rw [e] at hkL; simp at hkL)
            obtain ⟨x, a0', hx⟩ := hat j hkL
            subst hoA
            rw [← hu.cell (World.block_lt_of_cell? _ _ a0')] at a0'
            have HTX := Lib.hid (HTY.out j hkL x wr (hx.up hu))
            have hst := takes_step2 hkL
            have hle := HPY.out (j + 1)
            have hm3 := HH.out.2.2.2.2
            have hm4 := HH.out.2.2.2.1
            have hj15 : j ≤ 15 := by have := HH.out.2.1; have := HH.out.1; omega
            obtain ⟨t, ht⟩ : ∃ t, takes Y[j] = t := ⟨_, rfl⟩
            rw [ht] at hst HTX
            obtain ⟨q1, hq1⟩ : ∃ q1, ((Y.take (j + 1)).map takes).sum = q1 := ⟨_, rfl⟩
            have HQ := Lib.hid hq1
            rw [hq1] at hst hle
            generalize ((Y.take j).map takes).sum = q at hst ⊢
            have HST := Lib.hid hst
            have p1 : IntKind.i64.wrap ((q : Int) + (t : Int)) = (q1 : Int) := by rw [show (q : Int) + (t : Int) = (q1 : Int) by omega]; exact IntWalk.i64_in _ (by omega)
            have d2 : decide (j < m2) = true := decide_eq_true hltj
            clear hat hu hx ht hq1 hst hle hm3 hm4
            go_wp2_with fail
            refine HTX.out.mono ?_
            rintro e wt ⟨rfl, ut⟩
            have HUt : Hid (Up wb wt) := HU.out.trans ut
            clear ut
            go_wp2_with fail
            go_roundw
            case rel => exact ⟨j + 1, by rw [HM2.out]; omega, by go_num, congrArg (Value.int IntKind.i64) (by rw [HQ.out]), HUt.out⟩
            case measure => simp only [intOf]; omega
          · have d2 : decide (j < m2) = false := decide_eq_false hltj
            rw [List.take_of_length_le (by rw [HM2.out]; omega), HT2.out]
            have HUc := Lib.hid (HUb.out.trans hu)
            have HOc := Lib.hid (HOb.out.up hu)
            have HAc := Lib.hid (HAb.out.up hu)
            have HYc := Lib.hid (HYb.out.up hu)
            have HBc := Lib.hid (HBb.out.up hu)
            have hTT : T2 ≤ T1 := HH.out.2.2.2.1
            have d3 : decide (T2 ≤ T1) = true := decide_eq_true hTT
            clear HUb HOb HAb HYb HBb hu HU
            go_wp2_with fail
            refine (HS1.out _ _ HAc.out).mono ?_
            rintro e wd ⟨rfl, ud⟩
            have HUd := Lib.hid (HUc.out.trans ud)
            have HOd := Lib.hid (HOc.out.up ud)
            have HYd := Lib.hid (HYc.out.up ud)
            have HBd := Lib.hid (HBc.out.up ud)
            clear HUc HOc HAc HYc HBc ud
            go_wp2_with fail
            refine (HS2.out _ _ HBd.out).mono ?_
            rintro e we ⟨rfl, ue⟩
            have HUe := Lib.hid (HUd.out.trans ue)
            have HOe := Lib.hid (HOd.out.up ue)
            have HYe := Lib.hid (HYd.out.up ue)
            clear HUd HOd HYd HBd ue
            go_wp2_with fail
            refine (HAL.out _ _ _ HOe.out (HB.out.up HUe.out)).mono ?_
            rintro e wf ⟨vf, rfl, hof, uf⟩
            have HUf := Lib.hid (HUe.out.trans uf)
            have HYf := Lib.hid (HYe.out.up uf)
            have HRf := Lib.hid hof.recs
            clear HUe HOe HYe hof uf
            go_wp2_with fail
            refine (HAY.out _ _ _ HYf.out (HB.out.up HUf.out)).mono ?_
            rintro e wg ⟨vg, rfl, hog, ug⟩
            have HUg := Lib.hid (HUf.out.trans ug)
            have HRg := Lib.hid (HRf.out.up ug)
            have HRh := Lib.hid hog.recs
            clear HUf HYf HRf hog ug
            go_wp2_with fail
            refine (equalR_yes _ _ H _ HRg.out HRh.out).mono ?_
            rintro e wh ⟨rfl, uh⟩
            have HUh := Lib.hid (HUg.out.trans uh)
            clear uh
            go_wp2_with fail
            go_ret
            exact ⟨rfl, HUh.out⟩

end Go.Proofs.Ytalbfhoffhhjmaa
