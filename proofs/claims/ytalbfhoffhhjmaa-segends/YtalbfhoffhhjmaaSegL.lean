/-
  What find of package seg returns: the live records of each segment. Conditions: the rows can be read, and their lengths fit.
-/
import Derived.Test.YtalbfhoffhhjmaaSegK
import Derived.Test.YtalbfhoffhhjmaaBag4
namespace Go.Proofs.Ytalbfhoffhhjmaa
open Go.RowKit
open Go.Proofs
open WoolBag
open WoolSeg

def FoRel (l : List (List Rc)) (b : List Itm) (W0 : World) (B2 g n : Nat) (lat i : Value) (wr : World) : Prop :=
  ∃ k : Nat, k ≤ n ∧ i = .int .i64 (k : Int) ∧ Up W0 wr ∧ (k < n → FoS W0 B2 g n (found b l k []) (l.drop k).flatten lat wr) ∧ (k = n → OSgs wr W0.heap.size (.slice (some ⟨g, 0, none⟩) n n) (alive b l))

def FiRel (l : List (List Rc)) (b : List Itm) (W0 : World) (B2 g n k : Nat) (s L : List Rc) (lat i : Value) (wr : World) : Prop :=
  ∃ (j : Nat) (pre : List Rc), j ≤ s.length ∧ i = .int .i64 (j : Int) ∧ aliveS b s L = pre ++ aliveS b (s.drop j) L ∧ pre.length ≤ j ∧ FoS W0 B2 g n (found b l k pre) (s.drop j ++ L) lat wr

theorem FoRel.next {l : List (List Rc)} {b : List Itm} {W0 wr : World} {B2 g n k : Nat} {lat : Value} {pre : List Rc} (hn : l.length = n) (hk : k < n) (hB : W0.heap.size ≤ B2) (hp : aliveS b (l[k]'(by omega)) (l.drop (k + 1)).flatten = pre) (h : FoS W0 B2 g n (found b l k pre) (l.drop (k + 1)).flatten lat wr) : FoRel l b W0 B2 g n lat (.int .i64 ((k + 1 : Nat) : Int)) wr := by
  subst hn
  refine ⟨k + 1, by omega, rfl, h.up, fun hlt => ?_, fun he => ?_⟩
  · rw [← hp, found_next b l k hlt] at h
    exact h
  · rw [← hp, found_end b l k hk he] at h
    obtain ⟨C, h1, h2⟩ := h.out
    exact ⟨C, h1, h2.base hB⟩

set_option maxRecDepth 100000 in
set_option maxHeartbeats 8000000 in
theorem find_any' (v vb : Value) (l : List (List Rc)) (b : List Itm) (w : World) (h : Sgs w v l) (hb : Items w vb b) (hm : ∀ s ∈ l, s.length ≤ 1000000000000000) :
    Calls Try.prog 30 #[v, vb] w (PutSPost w (findV l b)) := by
  have HCK := Lib.hid (checkSg_any v l w h hm)
  have HCB := Lib.hid (fun W (hW : Up w W) => check_any vb b W (hb.up hW))
  have HUS := Lib.hid (fun W r (hW : Up w W) => usedS_any vb b r W (hb.up hW))
  have HCC := Lib.hid (fun W (hW : Up w W) (hT : l.flatten.length ≤ 1000000) => concatR_any v l W (h.up hW) hT)
  have HX := Lib.hid h
  obtain ⟨R, hR⟩ : ∃ R, findV l b = R := ⟨_, rfl⟩
  rw [hR]
  unfold findV at hR
  have hck := chk_range l
  have HRT : Hid (WoolSeg.chk l = 0 → Right l) := fun e => chk_zero.1 e
  obtain ⟨o, c, rfl, hc1, hc2⟩ := h.slice
  obtain ⟨ob, cb, rfl, hcb1⟩ := hb.slice
  unfold maxLen at hc2 hcb1
  obtain ⟨K, hK⟩ : ∃ K, WoolSeg.chk l = K := ⟨_, rfl⟩
  obtain ⟨M, hM⟩ : ∃ M, WoolBag.chk FP b = M := ⟨_, rfl⟩
  rw [hK] at hR HCK hck HRT
  rw [hM] at hR HCB
  have HRR := Lib.hid hR
  obtain ⟨n, hn⟩ : ∃ n, l.length = n := ⟨_, rfl⟩
  have HN := Lib.hid hn
  rw [hn] at HCK HCC HX hc1 ⊢
  obtain ⟨nb, hnb⟩ : ∃ nb, b.length = nb := ⟨_, rfl⟩
  rw [hnb] at HCB HUS ⊢
  clear h hb hm hK hM hR hn hnb
  go_enter Try.func30, Try.ntmps30
  go_wp2_with fail
  refine HCK.out.mono ?_
  rintro e w1 ⟨rfl, u1⟩
  have HU1 := Lib.hid u1
  clear u1
  have hrr' := HRR.out
  by_cases hk : K = 0
  · subst hk
    rw [if_neg (by simp)] at hrr'
    have HRI := Lib.hid (HRT.out rfl)
    have HV := Lib.hid hrr'
    clear hrr' hck HRT
    go_wp2_with fail
    refine (HCB.out _ HU1.out).mono ?_
    rintro e w2 ⟨rfl, u2⟩
    have HU2 : Hid (Up w w2) := HU1.out.trans u2
    clear u2
    have hv := HV.out
    by_cases hm : M = 0
    · subst hm
      rw [if_neg (by simp)] at hv
      have HV2 := Lib.hid hv
      clear hv
      have hn16 : n ≤ 16 := by have := HRI.out.len; rw [HN.out] at this; exact this
      have hmk := run_nils n hn16
      have HFL : Hid (l.flatten.length ≤ 1000000) := by
        show _ ≤ _
        have h1 := takes_len l.flatten
        have h2 : ∀ (l : List (List Rc)), (∀ s ∈ l, Seg s) → takes l.flatten ≤ l.length * 200 := by
          intro l
          induction l with
          | nil => intro _; simp [takes]
          | cons s l ih =>
            intro h
            rw [List.flatten_cons, takes_append, List.length_cons]
            have := (h s (List.mem_cons_self ..)).room
            have := ih fun s hs => h s (List.mem_cons_of_mem _ hs)
            omega
        have h3 := h2 l HRI.out.seg
        have h4 := HRI.out.len
        omega
      go_wp2_with fail
      have HNO : Hid (OSl (w2.alloc (.cells (Array.replicate n (Value.slice none 0 0)) 22)) w2.heap.size (.slice (some ⟨w2.heap.size, 0, none⟩) n n) (List.replicate n (Value.slice none 0 0))) := nils_own n hn16 w2
      have hg3 : w2.heap.size < (w2.alloc (.cells (Array.replicate n (Value.slice none 0 0)) 22)).heap.size := by simp
      have HG3 := Lib.hid hg3
      have HU3 : Hid (Up w (w2.alloc (.cells (Array.replicate n (Value.slice none 0 0)) 22))) := HU2.out.trans (Up.alloc _ _)
      generalize (w2.alloc (.cells (Array.replicate n (Value.slice none 0 0)) 22)) = w3 at HNO HG3 HU3 ⊢
      have HG : Hid (w.heap.size ≤ w2.heap.size) := HU2.out.size
      generalize w2.heap.size = g at HNO HG3 HG ⊢
      clear hg3 hmk
      refine (HCC.out _ HU3.out HFL.out).mono ?_
      rintro e w4 ⟨lat, rfl, hlat, u4, hfr⟩
      have HU4 : Hid (Up w w4) := HU3.out.trans u4
      have HB4 : Hid (w.heap.size ≤ w4.heap.size) := HU4.out.size
      have HFO : Hid (FoRel l b w w4.heap.size g n lat (.int .i64 ((0 : Nat) : Int)) w4) := by
        refine ⟨0, Nat.zero_le _, rfl, HU4.out, fun h0 => ?_, fun h0 => ?_⟩
        · refine ⟨⟨_, own_baseS (own_upS HNO.out u4) HG.out, ?_⟩, hlat, fun b' hb' => ?_, HU4.out, Nat.le_refl _⟩
          · rw [found_start b l (by rw [HN.out]; exact h0), HN.out]
            exact nils_rows _ _ _
          · have h1 := hfr b' hb'
            have h2 := HG3.out
            exact ⟨by omega, h1.2⟩
        · have hl : l = [] := List.eq_nil_of_length_eq_zero (by rw [HN.out]; omega)
          subst h0
          have h1 := own_baseS (own_upS HNO.out u4) HG.out
          rw [hl]
          exact ⟨[], h1, OSr.nil _ _⟩
      obtain ⟨oL, cL, hlv, _, _⟩ := hlat.slice
      obtain ⟨TL, hTL⟩ : ∃ TL, l.flatten.length = TL := ⟨_, rfl⟩
      rw [hTL] at hlv
      clear hTL
      clear hlat u4 hfr
      subst hlv
      go_wp2_with fail
      go_loopw [9, 31] (fun lt i wr => FoRel l b w w4.heap.size g n lt i wr) (fun _ i _ => n - (intOf i).toNat)
      case atStart => exact HFO.out
      case round =>
        obtain ⟨k, hk, rfl, hu, hfs, hdone⟩ := hrel
        by_cases hlt : k < n
        · have hkl : k < l.length := by rw [HN.out]; exact hlt
          have hf0 := hfs hlt
          obtain ⟨bX, offX, rfl, hat⟩ := HX.out.at (by rintro rfl; simp at hkl)
          obtain ⟨x, a0, hx⟩ := hat k hkl
          rw [← hu.cell (World.block_lt_of_cell? w _ a0)] at a0
          obtain ⟨o', c', hxe, hcx1, hcx2⟩ := hx.slice
          rw [List.drop_eq_getElem_cons hkl, List.flatten_cons] at hf0
          obtain ⟨L, hL⟩ : ∃ L, (l.drop (k + 1)).flatten = L := ⟨_, rfl⟩
          rw [hL] at hf0
          have HNX : Hid (∀ pre lat wF, aliveS b l[k] L = pre → FoS w w4.heap.size g n (found b l k pre) L lat wF → FoRel l b w w4.heap.size g n lat (.int .i64 ((k + 1 : Nat) : Int)) wF) := fun pre lat wF hp hF => by
            rw [← hL] at hp hF
            exact FoRel.next HN.out hlt HB4.out hp hF
          have hs25 : l[k].length ≤ 25 := by have h1 := takes_len l[k]; have h2 := (HRI.out.seg _ (List.getElem_mem hkl)).room; omega
          obtain ⟨s, hs⟩ : ∃ s, l[k] = s := ⟨_, rfl⟩
          rw [hs] at hf0 HNX hx hxe hcx1 hs25
          have HF0 := Lib.hid hf0
          have HXX := Lib.hid hx
          subst hxe
          have d1 : decide (k < n) = true := decide_eq_true hlt
          unfold maxLen at hcx2
          clear hfs hdone hf0 hat hx hL hs hu
          go_wp2_with fail
          go_loopw [9, 38] (fun lt i wx => FiRel l b w w4.heap.size g n k s L lt i wx) (fun _ i _ => s.length - (intOf i).toNat)
          case atStart => exact ⟨0, [], Nat.zero_le _, rfl, rfl, Nat.le_refl _, HF0.out⟩
          case round =>
            obtain ⟨j, pre, hj, rfl, hp, hpl, hf⟩ := hrel
            by_cases hlj : j < s.length
            · rw [List.drop_eq_getElem_cons hlj, List.cons_append] at hf
              rw [List.drop_eq_getElem_cons hlj, aliveS_take] at hp
              obtain ⟨bX, offX, rfl, hat⟩ := HXX.out.at (by rintro rfl; simp at hlj)
              obtain ⟨a0, a1, a2, a3⟩ := hat j hlj
              have hu := hf.up
              rw [← hu.cell (World.block_lt_of_cell? w _ a0)] at a0
              rw [← hu.cell (World.block_lt_of_cell? w _ a1)] at a1
              rw [← hu.cell (World.block_lt_of_cell? w _ a2)] at a2
              rw [← hu.cell (World.block_lt_of_cell? w _ a3)] at a3
              obtain ⟨x, hx⟩ : ∃ x, s[j] = x := ⟨_, rfl⟩
              obtain ⟨rest, hrest⟩ : ∃ rest, s.drop (j + 1) ++ L = rest := ⟨_, rfl⟩
              rw [hx, hrest] at hf hp
              rw [hx] at a0 a1 a2 a3
              obtain ⟨bl, offl, cl, hlv, hcl1, hcl2, hft, hft1⟩ := hf.tail
              subst hlv
              unfold maxLen at hcl2
              have HFT := Lib.hid hft
              have HF1 := Lib.hid hft1
              have HUX := Lib.hid (fun W (hW : Up w W) => HUS.out W x hW)
              have hrC : rcC x = [.bool x.1.1, .int .i64 x.1.2.1, .int .i64 x.1.2.2, .string (bs x.2)] := rfl
              have HRC := Lib.hid hrC
              have HCT := Lib.hid (fun W lv (hW : Recs W lv rest) => containsR_any lv rest x W hW)
              unfold rcA at HUX HCT
              have HNEXT : Hid (∀ (pre2 : List Rc) (lt : Value) (wF : World), (if WoolSeg.used b x = true ∧ rest.contains x = false then [x] else []) = pre2 → FoS w w4.heap.size g n (found b l k (pre ++ pre2)) rest lt wF → FiRel l b w w4.heap.size g n k s L lt (.int .i64 ((j + 1 : Nat) : Int)) wF) := fun pre2 lt wF h2 hF => by
                rw [h2] at hp
                refine ⟨j + 1, pre ++ pre2, by omega, rfl, by rw [hp, List.append_assoc], ?_, by rw [hrest]; exact hF⟩
                have : pre2.length ≤ 1 := by
                  rw [← h2]
                  split <;> simp
                rw [List.length_append]
                omega
              have HUu := Lib.hid hu
              have d2 : decide (j < s.length) = true := decide_eq_true hlj
              have hrl : ((1 : Nat)) ≤ rest.length + 1 := by omega
              have HKL : Hid (k < l.length) := hkl
              have HPL : Hid (pre.length ≤ 25) := by show _ ≤ _; omega
              have hpre : pre ++ [] = pre := List.append_nil pre
              have HPRE := Lib.hid hpre
              obtain ⟨RL, hRL⟩ : ∃ RL, rest.length = RL := ⟨_, rfl⟩
              have HRL := Lib.hid hRL
              rw [hRL] at HFT HF1 hcl1 hrl ⊢
              clear hf hp hat hx hrest hft hft1 hrC hu hpre hRL
              generalize x.1.1 = x0 at *
              generalize x.1.2.1 = x1 at *
              generalize x.1.2.2 = x2 at *
              generalize bs x.2 = x3 at *
              go_wp2_with fail
              · have HFA : Hid (FoS w w4.heap.size g n (found b l k pre) rest (.slice (some ⟨bl, offl, none⟩) RL 0) wr) := HF1.out (by first | assumption | omega)
                have hal := Up.alloc wr (.cells #[.bool x0, .int .i64 x1, .int .i64 x2, .string x3] 30)
                have hrow : RowC (wr.alloc (.cells #[.bool x0, .int .i64 x1, .int .i64 x2, .string x3] 30)) wr.heap.size 30 [.bool x0, .int .i64 x1, .int .i64 x2, .string x3] := heap_alloc_new wr _
                refine (HUX.out _ (HUu.out.trans hal)).mono ?_
                rintro e w5 ⟨rfl, u5⟩
                have HU5 : Hid (Up wr w5) := hal.trans u5
                have HR5 := Lib.hid (hrow.up u5)
                clear hal hrow u5
                cases hus : WoolSeg.used b x with
                | false =>
                  have hnx := HNEXT.out [] _ _ (by rw [hus]; simp) (by rw [HPRE.out]; exact HFA.out.ups HU5.out)
                  have HNX2 := Lib.hid hnx
                  clear hnx
                  go_wp2_with fail
                  go_roundw
                  case rel => exact HNX2.out
                  case measure => simp only [intOf]; omega
                | true =>
                  have r0 := HR5.out.cell (j := 0) rfl
                  have r1 := HR5.out.cell (j := 1) rfl
                  have r2 := HR5.out.cell (j := 2) rfl
                  have r3 := HR5.out.cell (j := 3) rfl
                  go_wp2_with fail
                  refine (HCT.out _ _ (HFA.out.ups HU5.out).rd).mono ?_
                  rintro e w6 ⟨rfl, u6⟩
                  have HU6 : Hid (Up wr w6) := HU5.out.trans u6
                  have HR6 := Lib.hid (HR5.out.up u6)
                  clear u6 r0 r1 r2 r3
                  cases hct : rest.contains x with
                  | true =>
                    have hnx := HNEXT.out [] _ _ (by rw [hus, hct]; simp) (by rw [HPRE.out]; exact HFA.out.ups HU6.out)
                    have HNX2 := Lib.hid hnx
                    clear hnx
                    go_wp2_with fail
                    go_roundw
                    case rel => exact HNX2.out
                    case measure => simp only [intOf]; omega
                  | false =>
                    have hf6 := HFA.out.ups HU6.out
                    have hnx := fun wF => HNEXT.out [x] (.slice (some ⟨bl, offl, none⟩) RL 0) wF (by rw [hus, hct]; simp)
                    have HNX2 := Lib.hid hnx
                    obtain ⟨C, h1, h2⟩ := hf6.out
                    have hGl : (found b l k pre).length = l.length := found_length b l k pre HKL.out
                    have hkG : k < (found b l k pre).length := by rw [hGl]; exact HKL.out
                    have hkC : k < C.length := by have := h2.len; omega
                    have hok := h2.own k hkG
                    rw [found_get b l k pre HKL.out] at hok
                    obtain ⟨oP, cP, hCk, _, _⟩ := hok.recs.slice
                    obtain ⟨m, hm⟩ : ∃ m, pre.length = m := ⟨_, rfl⟩
                    have hm25 := HPL.out
                    rw [hm] at hCk hm25
                    have HCK2 : Hid (C[k]'hkC = .slice oP m cP) := hCk
                    have HOR : Hid (∀ W, Up w6 W → W.ownsRow w4.heap.size 30 4 (.slice oP m cP) m (fl rcC pre)) := fun W hW => by
                      have h := hok.up hW
                      rw [hCk] at h
                      unfold ORecs at h
                      rw [hm] at h
                      exact h
                    have HGR : Hid (∀ (W wA : World) gA cA, Up w6 W → wA.ownsRow w4.heap.size 30 4 (.slice (some ⟨gA, 0, none⟩) (m + 1) cA) (m + 1) (fl rcC pre ++ [.bool x0, .int .i64 x1, .int .i64 x2, .string x3]) → W.grownBy wA (Value.slice oP m cP).ownBlock → ((Value.slice oP m cP).ownBlock = some gA ∨ gA = W.heap.size) →
                        wA.frozen? ⟨g, k, none⟩ = false ∧ wA.cell? ⟨g, k, none⟩ = some (.slice oP m cP) ∧ FiRel l b w w4.heap.size g n k s L (.slice (some ⟨bl, offl, none⟩) RL 0) (.int .i64 ((j + 1 : Nat) : Int)) (wA.setCell ⟨g, k, none⟩ (.slice (some ⟨gA, 0, none⟩) (m + 1) cA))) := fun W wA gA cA hW hown hgr hat => by
                      have ho : ORecs wA w4.heap.size (.slice (some ⟨gA, 0, none⟩) (m + 1) cA) (pre ++ [x]) := by
                        unfold ORecs
                        rw [List.length_append, hm, List.length_singleton, fl_append]
                        show wA.ownsRow _ _ 4 _ _ (fl rcC pre ++ (rcC x ++ []))
                        rw [List.append_nil, HRC.out]
                        exact hown
                      rw [← HCK2.out] at hgr hat
                      obtain ⟨q1, q2, q3⟩ := FoS.more (hf6.ups hW) hkG HG.out HB4.out (own_upS h1 hW) (h2.up hW) ho hgr (by
                        rcases hat with e | e
                        · exact .inl e.symm
                        · exact .inr ⟨gA, rfl, by omega⟩)
                      rw [HCK2.out] at q2
                      rw [found_set b l k pre (pre ++ [x]) HKL.out] at q3
                      exact ⟨q1, q2, HNX2.out _ q3⟩
                    have e6 : w6.cell? ⟨g, k, none⟩ = some (.slice oP m cP) := by
                      obtain ⟨g', ee, hc⟩ : ∃ g', (some (⟨g, 0, none⟩ : Addr)) = some ⟨g', 0, none⟩ ∧ w6.cell? ⟨g', k, none⟩ = some (C[k]'hkC) := by
                        rcases own_row h1 with ⟨hv, _, _⟩ | ⟨g', cap, sp, hv, _, hrw, _, _, _⟩
                        · cases hv
                        · simp only [Value.slice.injEq] at hv
                          refine ⟨g', hv.1, hrw.cell ?_⟩
                          rw [List.getElem?_append_left hkC, List.getElem?_eq_getElem hkC]
                      cases ee
                      rw [hc, hCk]
                    have c0 := HR6.out.cell (j := 0) rfl
                    have c1 := HR6.out.cell (j := 1) rfl
                    have c2 := HR6.out.cell (j := 2) rfl
                    have c3 := HR6.out.cell (j := 3) rfl
                    have k0 : w6.drew.cell? ⟨wr.heap.size, 0, none⟩ = some (.bool x0) := c0
                    have k1 : w6.drew.cell? ⟨wr.heap.size, 1, none⟩ = some (.int .i64 x1) := c1
                    have k2 : w6.drew.cell? ⟨wr.heap.size, 2, none⟩ = some (.int .i64 x2) := c2
                    have k3 : w6.drew.cell? ⟨wr.heap.size, 3, none⟩ = some (.string x3) := c3
                    have k4 : w6.drew.cell? ⟨g, k, none⟩ = some (.slice oP m cP) := e6
                    have e7 := Lib.cell?_alloc_some (.cells #[.bool x0, .int .i64 x1, .int .i64 x2, .string x3] 30) e6
                    have HS6 : Hid (w4.heap.size ≤ w6.heap.size) := hf6.sz
                    obtain ⟨i1, hi, hz0, hz1, hz2⟩ := rcInfo'
                    have HI1 := Lib.hid hi
                    have HY0 := Lib.hid hz0
                    have HY1 := Lib.hid hz1
                    have HY2 := Lib.hid hz2
                    have hkn : (k : Int) < (n : Int) := by omega
                    have hk0 : (0 : Int) ≤ (k : Int) := Int.natCast_nonneg _
                    clear hi hz0 hz1 hz2 hnx hf6 h1 h2 hGl hkG hok hm hCk
                    go_wp2_with fail
                    go_region_law (refine step_append_lies _ rfl (.tmp 58) (.tmp 60) 22 rfl w4.heap.size 30 i1 _ 4 40 Try.underlying22 HI1.out HY0.out HY1.out HY2.out rfl (by decide) (.slice oP m cP) m (fl rcC pre) (by simp [Act.eval]) (by first | exact HOR.out _ ((Up.drew _).trans (Up.alloc _ _)) | exact HOR.out _ ((Up.alloc _ _).trans (Up.drew _))) ⟨w6.heap.size, 0, none⟩ 1 1 [.bool x0, .int .i64 x1, .int .i64 x2, .string x3] (by simp [Act.eval]) rfl (World.news_of_block (cs := #[.bool x0, .int .i64 x1, .int .i64 x2, .string x3]) (t := 30) (fr := (0, 0)) (by first | exact heap_alloc_new w6.drew _ | exact heap_alloc_new w6 _)) (by intro u hu; simp at hu; rcases hu with rfl | rfl | rfl | rfl <;> rfl) (by omega) (by unfold maxLen; omega) (by omega) (by have := HS6.out; simp; omega) _ rfl ?_; intro gA cA wA hA hgA hatA hltA; obtain ⟨zf, zc, zs⟩ := HGR.out _ wA gA cA (by first | exact (Up.drew _).trans (Up.alloc _ _) | exact (Up.alloc _ _).trans (Up.drew _)) hA hgA hatA; have HS1 := Lib.hid zs; clear hA hgA hatA hltA zs)
                    all_goals
                      go_wp2_with fail
                      go_roundw
                      case rel => exact HS1.out
                      case measure => simp only [intOf]; omega
              · have HFA : Hid (FoS w w4.heap.size g n (found b l k pre) rest (.slice (some ⟨bl, offl + 4, none⟩) RL (cl - 1)) wr) := HFT.out
                have hal := Up.alloc wr (.cells #[.bool x0, .int .i64 x1, .int .i64 x2, .string x3] 30)
                have hrow : RowC (wr.alloc (.cells #[.bool x0, .int .i64 x1, .int .i64 x2, .string x3] 30)) wr.heap.size 30 [.bool x0, .int .i64 x1, .int .i64 x2, .string x3] := heap_alloc_new wr _
                refine (HUX.out _ (HUu.out.trans hal)).mono ?_
                rintro e w5 ⟨rfl, u5⟩
                have HU5 : Hid (Up wr w5) := hal.trans u5
                have HR5 := Lib.hid (hrow.up u5)
                clear hal hrow u5
                cases hus : WoolSeg.used b x with
                | false =>
                  have hnx := HNEXT.out [] _ _ (by rw [hus]; simp) (by rw [HPRE.out]; exact HFA.out.ups HU5.out)
                  have HNX2 := Lib.hid hnx
                  clear hnx
                  go_wp2_with fail
                  go_roundw
                  case rel => exact HNX2.out
                  case measure => simp only [intOf]; omega
                | true =>
                  have r0 := HR5.out.cell (j := 0) rfl
                  have r1 := HR5.out.cell (j := 1) rfl
                  have r2 := HR5.out.cell (j := 2) rfl
                  have r3 := HR5.out.cell (j := 3) rfl
                  go_wp2_with fail
                  refine (HCT.out _ _ (HFA.out.ups HU5.out).rd).mono ?_
                  rintro e w6 ⟨rfl, u6⟩
                  have HU6 : Hid (Up wr w6) := HU5.out.trans u6
                  have HR6 := Lib.hid (HR5.out.up u6)
                  clear u6 r0 r1 r2 r3
                  cases hct : rest.contains x with
                  | true =>
                    have hnx := HNEXT.out [] _ _ (by rw [hus, hct]; simp) (by rw [HPRE.out]; exact HFA.out.ups HU6.out)
                    have HNX2 := Lib.hid hnx
                    clear hnx
                    go_wp2_with fail
                    go_roundw
                    case rel => exact HNX2.out
                    case measure => simp only [intOf]; omega
                  | false =>
                    have hf6 := HFA.out.ups HU6.out
                    have hnx := fun wF => HNEXT.out [x] (.slice (some ⟨bl, offl + 4, none⟩) RL (cl - 1)) wF (by rw [hus, hct]; simp)
                    have HNX2 := Lib.hid hnx
                    obtain ⟨C, h1, h2⟩ := hf6.out
                    have hGl : (found b l k pre).length = l.length := found_length b l k pre HKL.out
                    have hkG : k < (found b l k pre).length := by rw [hGl]; exact HKL.out
                    have hkC : k < C.length := by have := h2.len; omega
                    have hok := h2.own k hkG
                    rw [found_get b l k pre HKL.out] at hok
                    obtain ⟨oP, cP, hCk, _, _⟩ := hok.recs.slice
                    obtain ⟨m, hm⟩ : ∃ m, pre.length = m := ⟨_, rfl⟩
                    have hm25 := HPL.out
                    rw [hm] at hCk hm25
                    have HCK2 : Hid (C[k]'hkC = .slice oP m cP) := hCk
                    have HOR : Hid (∀ W, Up w6 W → W.ownsRow w4.heap.size 30 4 (.slice oP m cP) m (fl rcC pre)) := fun W hW => by
                      have h := hok.up hW
                      rw [hCk] at h
                      unfold ORecs at h
                      rw [hm] at h
                      exact h
                    have HGR : Hid (∀ (W wA : World) gA cA, Up w6 W → wA.ownsRow w4.heap.size 30 4 (.slice (some ⟨gA, 0, none⟩) (m + 1) cA) (m + 1) (fl rcC pre ++ [.bool x0, .int .i64 x1, .int .i64 x2, .string x3]) → W.grownBy wA (Value.slice oP m cP).ownBlock → ((Value.slice oP m cP).ownBlock = some gA ∨ gA = W.heap.size) →
                        wA.frozen? ⟨g, k, none⟩ = false ∧ wA.cell? ⟨g, k, none⟩ = some (.slice oP m cP) ∧ FiRel l b w w4.heap.size g n k s L (.slice (some ⟨bl, offl + 4, none⟩) RL (cl - 1)) (.int .i64 ((j + 1 : Nat) : Int)) (wA.setCell ⟨g, k, none⟩ (.slice (some ⟨gA, 0, none⟩) (m + 1) cA))) := fun W wA gA cA hW hown hgr hat => by
                      have ho : ORecs wA w4.heap.size (.slice (some ⟨gA, 0, none⟩) (m + 1) cA) (pre ++ [x]) := by
                        unfold ORecs
                        rw [List.length_append, hm, List.length_singleton, fl_append]
                        show wA.ownsRow _ _ 4 _ _ (fl rcC pre ++ (rcC x ++ []))
                        rw [List.append_nil, HRC.out]
                        exact hown
                      rw [← HCK2.out] at hgr hat
                      obtain ⟨q1, q2, q3⟩ := FoS.more (hf6.ups hW) hkG HG.out HB4.out (own_upS h1 hW) (h2.up hW) ho hgr (by
                        rcases hat with e | e
                        · exact .inl e.symm
                        · exact .inr ⟨gA, rfl, by omega⟩)
                      rw [HCK2.out] at q2
                      rw [found_set b l k pre (pre ++ [x]) HKL.out] at q3
                      exact ⟨q1, q2, HNX2.out _ q3⟩
                    have e6 : w6.cell? ⟨g, k, none⟩ = some (.slice oP m cP) := by
                      obtain ⟨g', ee, hc⟩ : ∃ g', (some (⟨g, 0, none⟩ : Addr)) = some ⟨g', 0, none⟩ ∧ w6.cell? ⟨g', k, none⟩ = some (C[k]'hkC) := by
                        rcases own_row h1 with ⟨hv, _, _⟩ | ⟨g', cap, sp, hv, _, hrw, _, _, _⟩
                        · cases hv
                        · simp only [Value.slice.injEq] at hv
                          refine ⟨g', hv.1, hrw.cell ?_⟩
                          rw [List.getElem?_append_left hkC, List.getElem?_eq_getElem hkC]
                      cases ee
                      rw [hc, hCk]
                    have c0 := HR6.out.cell (j := 0) rfl
                    have c1 := HR6.out.cell (j := 1) rfl
                    have c2 := HR6.out.cell (j := 2) rfl
                    have c3 := HR6.out.cell (j := 3) rfl
                    have k0 : w6.drew.cell? ⟨wr.heap.size, 0, none⟩ = some (.bool x0) := c0
                    have k1 : w6.drew.cell? ⟨wr.heap.size, 1, none⟩ = some (.int .i64 x1) := c1
                    have k2 : w6.drew.cell? ⟨wr.heap.size, 2, none⟩ = some (.int .i64 x2) := c2
                    have k3 : w6.drew.cell? ⟨wr.heap.size, 3, none⟩ = some (.string x3) := c3
                    have k4 : w6.drew.cell? ⟨g, k, none⟩ = some (.slice oP m cP) := e6
                    have e7 := Lib.cell?_alloc_some (.cells #[.bool x0, .int .i64 x1, .int .i64 x2, .string x3] 30) e6
                    have HS6 : Hid (w4.heap.size ≤ w6.heap.size) := hf6.sz
                    obtain ⟨i1, hi, hz0, hz1, hz2⟩ := rcInfo'
                    have HI1 := Lib.hid hi
                    have HY0 := Lib.hid hz0
                    have HY1 := Lib.hid hz1
                    have HY2 := Lib.hid hz2
                    have hkn : (k : Int) < (n : Int) := by omega
                    have hk0 : (0 : Int) ≤ (k : Int) := Int.natCast_nonneg _
                    clear hi hz0 hz1 hz2 hnx hf6 h1 h2 hGl hkG hok hm hCk
                    go_wp2_with fail
                    go_region_law (refine step_append_lies _ rfl (.tmp 58) (.tmp 60) 22 rfl w4.heap.size 30 i1 _ 4 40 Try.underlying22 HI1.out HY0.out HY1.out HY2.out rfl (by decide) (.slice oP m cP) m (fl rcC pre) (by simp [Act.eval]) (by first | exact HOR.out _ ((Up.drew _).trans (Up.alloc _ _)) | exact HOR.out _ ((Up.alloc _ _).trans (Up.drew _))) ⟨w6.heap.size, 0, none⟩ 1 1 [.bool x0, .int .i64 x1, .int .i64 x2, .string x3] (by simp [Act.eval]) rfl (World.news_of_block (cs := #[.bool x0, .int .i64 x1, .int .i64 x2, .string x3]) (t := 30) (fr := (0, 0)) (by first | exact heap_alloc_new w6.drew _ | exact heap_alloc_new w6 _)) (by intro u hu; simp at hu; rcases hu with rfl | rfl | rfl | rfl <;> rfl) (by omega) (by unfold maxLen; omega) (by omega) (by have := HS6.out; simp; omega) _ rfl ?_; intro gA cA wA hA hgA hatA hltA; obtain ⟨zf, zc, zs⟩ := HGR.out _ wA gA cA (by first | exact (Up.drew _).trans (Up.alloc _ _) | exact (Up.alloc _ _).trans (Up.drew _)) hA hgA hatA; have HS1 := Lib.hid zs; clear hA hgA hatA hltA zs)
                    all_goals
                      go_wp2_with fail
                      go_roundw
                      case rel => exact HS1.out
                      case measure => simp only [intOf]; omega
            · have d2 : decide (j < s.length) = false := decide_eq_false hlj
              have hdr : s.drop j = [] := List.drop_of_length_le (by omega)
              rw [hdr, List.nil_append] at hf
              rw [hdr, show aliveS b [] L = [] from rfl, List.append_nil] at hp
              have hnx := HNX.out _ _ _ hp hf
              have HNN := Lib.hid hnx
              clear hnx hf hp hdr
              go_wp2_with fail
              go_roundw
              case rel => exact HNN.out
              case measure => simp only [intOf]; omega
        · have d1 : decide (k < n) = false := decide_eq_false hlt
          have HOV := Lib.hid (hdone (by omega))
          have HUE := Lib.hid hu
          clear hfs hdone hu
          go_wp2_with fail
          refine bodyPost_ret (v := .tuple #[.slice (some ⟨g, 0, none⟩) n n, .int .i64 0]) (by simp [results, Try.results30, go_sem]) rfl ?_
          rw [← HV2.out]
          exact ⟨_, rfl, HOV.out, HUE.out⟩
    · rw [if_pos hm] at hv
      have HV2 := Lib.hid hv
      have d1 : (M != 0) = true := by rw [bne_iff_ne]; exact hm
      clear hv
      go_wp2_with fail
      refine bodyPost_ret (v := .tuple #[.slice none 0 0, .int .i64 M]) (by simp [results, Try.results30, go_sem]) rfl ?_
      rw [← HV2.out]
      exact ⟨_, rfl, OSgs.nil _ _, HU2.out⟩
  · rw [if_pos hk] at hrr'
    have HV := Lib.hid hrr'
    have d1 : (K != 0) = true := by rw [bne_iff_ne]; exact hk
    clear hrr' hck
    go_wp2_with fail
    refine bodyPost_ret (v := .tuple #[.slice none 0 0, .int .i64 K]) (by simp [results, Try.results30, go_sem]) rfl ?_
    rw [← HV.out]
    exact ⟨_, rfl, OSgs.nil _ _, HU1.out⟩

end Go.Proofs.Ytalbfhoffhhjmaa
