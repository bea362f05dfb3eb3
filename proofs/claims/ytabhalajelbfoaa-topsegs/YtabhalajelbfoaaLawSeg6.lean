/-
  The law TopSegs: of blocks that lie in segments, cleaned again and again, each that is used can be had. Condition: the arguments can be read.
-/
import Derived.Test.YtabhalajelbfoaaSegR
import Derived.Test.YtabhalajelbfoaaSegY
import Derived.Test.YtabhalajelbfoaaSegZ
import Derived.Test.YtabhalajelbfoaaBagJ
import Derived.Test.YtabhalajelbfoaaTreeV
import Derived.Test.YtabhalajelbfoaaIntRow
import Derived.Test.YtabhalajelbfoaaWithin
import Derived.Test.YtabhalajelbfoaaKeep
import Derived.Deep.RegionHeld3
import Derived.Deep.DeepCutAuto
import Derived.Deep.CutBlock
import Derived.Deep.QuietTactic
import Derived.BigQuiet
namespace Go.Proofs.Ytabhalajelbfoaa
open Go.RowKit
open Go.Proofs
open WoolBag
open WoolSeg

theorem begunG_any (w : World) : Calls Try.prog 4 #[] w fun e w' => e = .returned (.bool true) ∧ Up w w' := by
  have hm : WoolMath.mul 3 3 = 5 := by decide +kernel
  have HM := Lib.hid hm
  clear hm
  go_enter Try.func4, Try.ntmps4
  go_wp2_with fail
  refine (mulN 3 3 _ (by omega) (by omega) (by rw [HM.out]; omega)).mono ?_
  rintro e w1 ⟨rfl, u1⟩
  rw [HM.out]
  go_wp2_with fail
  go_ret
  exact ⟨rfl, u1⟩

/-- what lies in rows of other types stays when identifiers are written -/
theorem own_other {w w' : World} {base base' T m n : Nat} {v vi : Value} {L : List Value} {ids : List IdS} (h : w.ownsRow base T m v n L) (hT : T ≠ 29) (hi : OIdS w base' vi ids) (hg : w.grownBy w' vi.ownBlock) : w'.ownsRow base T m v n L :=
  own_grownS h hg fun b hb e => by
    rcases own_row hi with ⟨e1, _⟩ | ⟨g, cap, sp, e1, _, hrow, _⟩
    · rw [e1] at e; cases e
    · rw [e1] at e
      cases e
      exact own_apartS h hrow hT hb
theorem OSgs.other {w w' : World} {base base' : Nat} {v vi : Value} {l : List (List Rc)} {ids : List IdS} (h : OSgs w base v l) (hi : OIdS w base' vi ids) (hg : w.grownBy w' vi.ownBlock) : OSgs w' base v l := by
  obtain ⟨C, h1, h2⟩ := h
  exact ⟨C, own_other h1 (by decide) hi hg, ⟨h2.len, fun k hk => own_other (h2.own k hk) (by decide) hi hg, h2.apart⟩⟩

/-- what has been put so far: a bag, segments, identifiers -/
def TsRel (N : Nat) (W0 : World) (vb vl vi i : Value) (wr : World) : Prop :=
  ∃ (k : Nat) (b : List Itm) (l : List (List Rc)) (ids : List IdS), k ≤ N ∧ i = .int .i64 (k : Int) ∧ Kept FP b l ids ∧ ids.length ≤ k ∧ OItems wr W0.heap.size vb b ∧ OSgs wr W0.heap.size vl l ∧ OIdS wr W0.heap.size vi ids ∧ Up W0 wr

/-- what is left when some were dropped -/
def TdRel (N : Nat) (l : List (List Rc)) (vl : Value) (W0 : World) (vb vi i : Value) (wr : World) : Prop :=
  ∃ (k : Nat) (b : List Itm) (ids : List IdS), k ≤ N ∧ i = .int .i64 (k : Int) ∧ Kept FP b l ids ∧ ids.length ≤ 40 ∧ OItems wr W0.heap.size vb b ∧ OSgs wr W0.heap.size vl l ∧ OIdS wr W0.heap.size vi ids ∧ Up W0 wr

/-- what is left when segments were cleaned -/
def TcRel (N : Nat) (b : List Itm) (W0 : World) (vl i : Value) (wr : World) : Prop :=
  ∃ (k : Nat) (l : List (List Rc)), k ≤ N ∧ i = .int .i64 (k : Int) ∧ Has FP b l ∧ Sgs wr vl l ∧ Up W0 wr

def TdEnd (l : List (List Rc)) (vl : Value) (W0 : World) (vb : Value) (wr : World) : Prop :=
  ∃ (b : List Itm) (ids : List IdS), Kept FP b l ids ∧ OItems wr W0.heap.size vb b ∧ OSgs wr W0.heap.size vl l ∧ Up W0 wr

def TcEnd (b : List Itm) (W0 : World) (vl : Value) (wr : World) : Prop :=
  ∃ l : List (List Rc), Has FP b l ∧ Sgs wr vl l ∧ Up W0 wr

def TeRel (N : Nat) (W0 : World) (i : Value) (wr : World) : Prop := ∃ k : Nat, k ≤ N ∧ i = .int .i64 (k : Int) ∧ Up W0 wr

set_option maxRecDepth 100000 in
set_option maxHeartbeats 8000000 in
theorem topSegs_walk (a0 : Option Addr) (len0 cap0 : Nat) (z0 : List (List UInt8)) (a1 : Option Addr) (len1 cap1 : Nat) (z1 : List Int) (a2 : Int) (w : World) (w0 : Txs w (.slice a0 len0 cap0) z0) (w1 : IsRow .i64 w a1 len1 cap1 z1) (_w2 : (Lit.int .i64 a2).wf = true) :
    Calls Try.prog 3 #[.slice a0 len0 cap0, .slice a1 len1 cap1, .int .i64 a2] w fun e w' => e = .returned (.bool true) ∧ Up w w' := by
  have HTX := Lib.hid w0
  have HIC := Lib.hid w1.cells
  obtain ⟨hi1, hi2, _⟩ := HIC.out
  have hle : len0 = z0.length ∧ len0 ≤ cap0 ∧ cap0 ≤ maxLen := by
    obtain ⟨o', c', hv, h1, h2⟩ := w0.slice
    simp only [Value.slice.injEq] at hv
    obtain ⟨_, rfl, rfl⟩ := hv
    exact ⟨rfl, h1, h2⟩
  obtain ⟨hl0, hl1, hl2⟩ := hle
  unfold maxLen at hi2 hl2
  obtain ⟨N, hN⟩ : ∃ N, min len0 40 = N := ⟨_, rfl⟩
  have hN40 : N ≤ 40 := by omega
  have hN0 : N ≤ len0 := by omega
  have hNi : min (len0 : Int) 40 = (N : Int) := by omega
  have hNz : N ≤ z0.length := by omega
  have HFR := Lib.hid (w0.front N hNz)
  have HLF : Hid ((z0.take N).length = N) := by show _ = _; rw [List.length_take]; omega
  generalize z0.take N = Z at HFR HLF
  have HCAP : Hid (len1 ≤ cap1 ∧ cap1 ≤ 2 ^ 63 - 1) := ⟨hi1, hi2⟩
  obtain ⟨i0, hi, hz0, hz1, hz2⟩ := idnInfo'
  have HI := Lib.hid hi
  have HZ0 := Lib.hid hz0
  have HZ1 := Lib.hid hz1
  have HZ2 := Lib.hid hz2
  clear w0 w1 hi hz0 hz1 hz2 hNz hN hl0
  go_enter Try.func3, Try.ntmps3
  go_wp2_with fail
  refine (begunG_any _).mono ?_
  rintro e w1 ⟨rfl, u1⟩
  have HU1 := Lib.hid u1
  have HST : Hid (TsRel N w1 (.slice none 0 0) (.slice none 0 0) (.slice none 0 0) (.int .i64 0) w1) := ⟨0, [], [], [], Nat.zero_le _, rfl, Kept.nil, Nat.le_refl _, OItems.nil _ _, OSgs.nil _ _, OIdS.nil _ _, Up.refl _⟩
  clear u1
  have hNc : N ≤ cap0 := by omega
  go_wp2_with fail
  go_loopw [7, 8, 9, 33] (fun vb vl vi i wr => TsRel N w1 vb vl vi i wr) (fun _ _ _ i _ => N - (intOf i).toNat)
  case atStart => exact HST.out
  case round =>
    obtain ⟨k, b, l, ids, hk, rfl, hkept, hil, hib, hsl, hoi, hu⟩ := hrel
    by_cases hlt : k < N
    · have hkZ : k < Z.length := by rw [HLF.out]; exact hlt
      obtain ⟨bA, offA, hoA, hat⟩ := (HFR.out.up (HU1.out.trans hu)).at (by intro e; rw [e] at hkZ; simp at hkZ)
      have a0' := hat k hkZ
      subst hoA
      obtain ⟨t, ht⟩ : ∃ t, Z[k] = t := ⟨_, rfl⟩
      rw [ht] at a0'
      obtain ⟨⟨B, ⟨ib, is, iN⟩, E⟩, hP⟩ : ∃ R, WoolBag.put FP b t = R := ⟨_, rfl⟩
      obtain ⟨⟨m, E2⟩, hS⟩ : ∃ R, WoolSeg.put l ((ib, is, iN), t) = R := ⟨_, rfl⟩
      have HPUT := Lib.hid (put_open u7 b t wr hib.items B ib is iN E hP)
      have HSAME : Hid (∀ W, Up wr W → TsRel N w1 u7 u8 u9 (.int .i64 ((k + 1 : Nat) : Int)) W) := fun W hW => ⟨k + 1, b, l, ids, by omega, rfl, hkept, by omega, hib.up hW, hsl.up hW, hoi.up hW, hu.trans hW⟩
      have HPS : Hid (∀ W, Up wr W → Calls Try.prog 6 #[u8, .agg #[.bool ib, .int .i64 is, .int .i64 iN, .string (bs t)]] W (PutSPost W (m, E2))) := fun W hW => by
        have h1 := putS_any u8 l ((ib, is, iN), t) W (hsl.sgs.up hW) (Right.small hkept.right)
        rw [hS] at h1
        exact h1
      have HKP : Hid (E = 0 → E2 = 0 → Kept FP B m (ids ++ [(ib, is, iN)])) := fun h1 h2 => by
        subst h1
        subst h2
        exact hkept.put hP hS
      have HOI := Lib.hid hoi
      have HU := Lib.hid hu
      have HIL := Lib.hid hil
      have d1 : decide (k < N) = true := decide_eq_true hlt
      generalize bs t = tt at a0' HPUT HPS
      clear hat hP hS hkept hil hib hsl hoi hu ht hkZ
      go_wp2_with fail
      refine HPUT.out.mono ?_
      rintro e w2 ⟨o2, c2, rfl, ho2, u2⟩
      have HU2 := Lib.hid u2
      have HI2 : Hid (OItems w2 w1.heap.size (.slice o2 B.length c2) B) := ho2.base HU.out.size
      clear ho2 u2 a0' HPUT
      by_cases hE : E = 0
      case neg =>
        have d2 : (E != 0) = true := bne_iff_ne.2 hE
        clear hE
        go_wp2_with fail
        go_roundw
        case rel =>
          have := HSAME.out _ (HU2.out.trans (Up.alloc w2 (.cells #[.bool ib, .int .i64 is, .int .i64 iN] 29)))
          simpa using this
        case measure => simp only [intOf]; omega
      subst hE
      have HKQ := Lib.hid (HKP.out rfl)
      clear HKP
      go_wp2_with fail
      refine (HPS.out _ (HU2.out.trans (Up.alloc _ _))).mono ?_
      rintro e w3 ⟨v3, rfl, ho3, u3⟩
      have hal := (Up.alloc w2 (.cells #[.bool ib, .int .i64 is, .int .i64 iN] 29)).trans u3
      have HU3 : Hid (Up wr w3) := HU2.out.trans hal
      have HI3 := Lib.hid (HI2.out.up hal)
      have HS3 : Hid (OSgs w3 w1.heap.size v3 m) := ho3.base ((HU.out.trans (HU2.out.trans (Up.alloc _ _))).size)
      have HR3 : Hid (RowC w3 w2.heap.size 29 [.bool ib, .int .i64 is, .int .i64 iN]) := RowC.up (heap_alloc_new w2 _) u3
      clear ho3 u3 hal HPS HI2 HU2
      by_cases hE2 : E2 = 0
      case neg =>
        have d2 : (E2 != 0) = true := bne_iff_ne.2 hE2
        clear hE2
        go_wp2_with fail
        go_roundw
        case rel =>
          have := HSAME.out _ HU3.out
          simpa using this
        case measure => simp only [intOf]; omega
      subst hE2
      have HK2 := Lib.hid (HKQ.out rfl)
      have r0 := HR3.out.cell (j := 0) rfl
      have r1 := HR3.out.cell (j := 1) rfl
      have r2 := HR3.out.cell (j := 2) rfl
      have HO3 : Hid (OIdS w3 w1.heap.size u9 ids) := HOI.out.up HU3.out
      have HUW : Hid (Up w1 w3) := HU.out.trans HU3.out
      clear HKQ HR3 HSAME HOI HU
      go_wp2_with (at_builtin; refine wpList_append_own _ rfl _ _ 27 rfl w1.heap.size 29 i0 _ 3 24 Try.underlying27 HI.out HZ0.out HZ1.out HZ2.out rfl (by decide) _ _ _ rfl (World.ownsRow.alloc HO3.out _) ⟨w3.heap.size, 0, none⟩ 1 1 [.bool ib, .int .i64 is, .int .i64 iN] rfl ?qc1 ?qc2 ?qc3 ?qc4 ?qc5 ?qc6 ?_)
      case qc1 => rfl
      case qc2 =>
        have hr : RowC (w3.alloc (.cells #[.bool ib, .int .i64 is, .int .i64 iN] 29)) w3.heap.size 29 [.bool ib, .int .i64 is, .int .i64 iN] := heap_alloc_new w3 _
        intro j u hj
        rw [add_offS]
        have := hr.cell hj
        simpa using this
      case qc3 => simp [Value.oneCell']
      case qc4 => have := HIL.out; unfold maxLen; omega
      case qc5 => have := HIL.out; omega
      case qc6 =>
        have := HUW.out.size
        simp
        omega
      intro v4 w4 hown hgrow hnil
      have hu4 : Up w1 w4 := Below.grown (HUW.out.trans (Up.alloc _ _)) hgrow (HUW.out.trans (Up.alloc _ _)).size (fun q hq => (World.ownsRow.lt HO3.out q hq).1)
      have HREL : Hid (TsRel N w1 (.slice o2 B.length c2) v3 v4 (.int .i64 ((k + 1 : Nat) : Int)) w4) := by
        refine ⟨k + 1, B, m, ids ++ [(ib, is, iN)], by omega, rfl, HK2.out, ?_, ?_, ?_, ?_, hu4⟩
        · rw [List.length_append]; have := HIL.out; simp; omega
        · exact own_other (HI3.out.up (Up.alloc _ _)) (by decide) (HO3.out.up (Up.alloc _ _)) hgrow
        · exact (HS3.out.up (Up.alloc _ _)).other (HO3.out.up (Up.alloc _ _)) hgrow
        · unfold OIdS
          rw [List.length_append, fl_append]
          exact hown
      clear hown hgrow hnil hu4
      go_wp2_with fail
      go_roundw
      case rel => have := HREL.out; simpa using this
      case measure => simp only [intOf]; omega
    · have d1 : decide (k < N) = false := decide_eq_false hlt
      have hTD : TdRel len1 l u8 w1 u7 u9 (.int .i64 0) wr := ⟨0, b, ids, Nat.zero_le _, rfl, hkept, by omega, hib, hsl, hoi, hu⟩
      have HTD := Lib.hid hTD
      have HOL := Lib.hid hsl
      clear hTD hkept hil hib hsl hoi hu hlt hk
      have hcp := HCAP.out
      go_upto_block 2 with fail
      go_cut [7, 9] from 17 to 93 (fun vb _ wx => TdEnd l u8 w1 vb wx)
      case first =>
        go_wp2_with fail
        go_loopw [7, 9, 65] (fun vb vi i wr => TdRel len1 l u8 w1 vb vi i wr) (fun _ _ i _ => len1 - (intOf i).toNat)
        case atStart => exact HTD.out
        case round =>
          obtain ⟨k2, b2, ids2, hk2, rfl, hkept, hil, hib, hsl, hoi, hu⟩ := hrel
          have HEND : Hid (TdEnd l u8 w1 u7 wr) := ⟨b2, ids2, hkept, hib, hsl, hu⟩
          by_cases hlt : k2 < len1
          · rcases HIC.out.2.2 with h0 | ⟨bB, offB, hoB, hatB⟩
            · omega
            subst hoB
            have c0 := hatB k2 hlt
            rw [← (HU1.out.trans hu).cell (World.block_lt_of_cell? _ _ c0)] at c0
            generalize z1.getD k2 0 = d at c0
            have d1 : decide (k2 < len1) = true := decide_eq_true hlt
            clear hatB
            rcases own_row hoi with ⟨hv, h0, _⟩ | ⟨g, cap, sp, hv, hg, hrow, hc1, hc2, hc3⟩
            · subst hv
              clear hkept hib hsl hoi hu
              go_wp2_with fail
              go_meet
              exact HEND.out
            · obtain ⟨nI, hnI⟩ : ∃ nI, ids2.length = nI := ⟨_, rfl⟩
              rw [hnI] at hv
              by_cases hz : nI = 0
              · subst hz
                subst hv
                clear hkept hib hsl hoi hu hnI
                go_wp2_with fail
                go_meet
                exact HEND.out
              · have HDR : Hid (∀ q (hq : q < ids2.length), ∃ B, WoolBag.drop FP b2 ids2[q] = (B, 0) ∧ Kept FP B l (ids2.eraseIdx q)) := fun q hq => hkept.drop hq
                have HIDS := Lib.hid hoi
                have HIB := Lib.hid hib
                have HSL := Lib.hid hsl
                have HUr := Lib.hid hu
                have HROW := Lib.hid hrow
                have HNI := Lib.hid hnI
                subst hv
                have hnp : 0 < nI := by omega
                have hn40 : nI ≤ 40 := by omega
                have hncap : nI ≤ cap := by omega
                have d2 : (nI == 0) = false := by rw [beq_eq_false_iff_ne]; exact hz
                have d3 : ((nI : Int) == 0) = false := by rw [beq_eq_false_iff_ne]; omega
                unfold maxLen at hc2
                clear hkept hib hsl hoi hu hrow hil hnI hc1 hc3
                go_wp2_with fail
                refine (within_some _ _ nI _ rfl hnp (by omega)).mono ?_
                rintro e w4 ⟨q, hq, rfl, rfl⟩
                have hqI : q < ids2.length := by rw [HNI.out]; exact hq
                obtain ⟨B, hd, hkB⟩ := HDR.out q hqI
                obtain ⟨⟨ib, is, iN⟩, hI⟩ : ∃ x, ids2[q] = x := ⟨_, rfl⟩
                have hlen3 := fl_length (f := idnC) idnC_len ids2
                have hcell : ∀ j u, j < 3 → (idnC (ib, is, iN))[j]? = some u → wr.cell? ⟨g, q * 3 + j, none⟩ = some u := fun j u hj hu => by
                  refine HROW.out.cell ?_
                  rw [List.getElem?_append_left (by rw [hlen3]; omega), fl_get idnC_len ids2 q hqI j hj, hI]
                  exact hu
                have q0 := hcell 0 _ (by omega) rfl
                have q1 := hcell 1 _ (by omega) rfl
                have q2 := hcell 2 _ (by omega) rfl
                rw [Nat.add_zero] at q0
                rw [hI] at hd
                have HDRO := Lib.hid (drop_open u7 b2 ib is iN wr HIB.out.items B 0 hd)
                have HKB := Lib.hid hkB
                have hq0 : (0 : Int) ≤ (q : Int) := Int.natCast_nonneg _
                have hqn : (q : Int) < (nI : Int) := by omega
                have HDEL : Hid (∀ W, Up wr W → Calls Try.prog 9 #[.slice (some ⟨g, 0, none⟩) nI cap, .int .i64 (q : Int), .int .i64 ((q : Int) + 1)] W fun e w' => ∃ v', e = .returned v' ∧ OIdS w' w1.heap.size v' (ids2.eraseIdx q) ∧ W.grownBy w' (Value.slice (some ⟨g, 0, none⟩) nI cap).ownBlock ∧ v'.ownBlock = (Value.slice (some ⟨g, 0, none⟩) nI cap).ownBlock) := fun W hW => deleteId_own ids2 q (q + 1) _ _ W (HIDS.out.up hW) rfl hqI
                have p1 : IntKind.i64.wrap ((q : Int) + 1) = (q : Int) + 1 := IntWalk.i64_in _ (by omega)
                clear hcell hd hkB hI hlen3 HDR hqI
                go_wp2_with fail
                refine HDRO.out.mono ?_
                rintro e w5 ⟨o5, c5, rfl, ho5, u5⟩
                have HU5 := Lib.hid u5
                have HI5 : Hid (OItems w5 w1.heap.size (.slice o5 B.length c5) B) := ho5.base HUr.out.size
                clear ho5 u5 HDRO q0 q1 q2
                go_wp2_with fail
                refine (HDEL.out _ HU5.out).mono ?_
                rintro e w6 ⟨v6, rfl, ho6, hg6, _⟩
                have HREL : Hid (TdRel len1 l u8 w1 (.slice o5 B.length c5) v6 (.int .i64 ((k2 + 1 : Nat) : Int)) w6) := by
                  refine ⟨k2 + 1, B, ids2.eraseIdx q, by omega, rfl, HKB.out, ?_, ?_, ?_, ho6, ?_⟩
                  · have h1 := List.length_eraseIdx_le ids2 q
                    have h2 := HNI.out
                    omega
                  · exact own_other HI5.out (by decide) (HIDS.out.up HU5.out) hg6
                  · exact (HSL.out.up HU5.out).other (HIDS.out.up HU5.out) hg6
                  · exact Below.grown (HUr.out.trans HU5.out) hg6 (HUr.out.trans HU5.out).size (fun b hb => (World.ownsRow.lt HIDS.out b hb).1)
                clear ho6 hg6
                go_wp2_with fail
                go_roundw
                case rel => have := HREL.out; simpa using this
                case measure => simp only [intOf]; omega
          · have d1 : decide (k2 < len1) = false := decide_eq_false hlt
            clear hkept hib hsl hoi hu
            go_wp2_with fail
            go_meet
            exact HEND.out
      case rest =>
        obtain ⟨b2, ids2, hkept, hib, hsl, hu⟩ := hcut
        have HHA := Lib.hid hkept.hasAll
        have HS7 := Lib.hid hsl.sgs
        have HIT7 := Lib.hid hib.items
        have HU7 : Hid (Up w wc) := HU1.out.trans hu
        obtain ⟨o7, c7, hv7, _⟩ := hib.items.slice
        obtain ⟨n4, hn4⟩ : ∃ n4, b2.length = n4 := ⟨_, rfl⟩
        have HN4 := Lib.hid hn4
        rw [hn4] at hv7
        subst hv7
        obtain ⟨w7, hw7⟩ : ∃ W, W = wc := ⟨_, rfl⟩
        subst hw7
        clear hkept hib hsl hu HTD HOL hn4 HST
        go_wp2_with fail
        refine (within_some _ _ 20 _ rfl (by omega) (by omega)).mono ?_
        rintro e w4 ⟨D, hD, rfl, rfl⟩
        have HTC : Hid (TcRel D b2 w7 u8 (.int .i64 0) w7) := ⟨0, l, Nat.zero_le _, rfl, HHA.out, HS7.out, Up.refl _⟩
        go_upto_block 4 with fail
        go_cut [8] from 20 to 109 (fun vl wx => TcEnd b2 w7 vl wx)
        case first =>
          go_wp2_with fail
          go_loopw [8, 96] (fun vl i wr => TcRel D b2 w7 vl i wr) (fun _ i _ => D - (intOf i).toNat)
          case atStart => exact HTC.out
          case round =>
            obtain ⟨k3, l3, hk3, rfl, hh, hs, hu⟩ := hrel
            have HEND : Hid (TcEnd b2 w7 u8 wr) := ⟨l3, hh, hs, hu⟩
            by_cases hlt3 : k3 < D
            · have d1 : decide (k3 < D) = true := decide_eq_true hlt3
              have HCL := Lib.hid (cleanS_any u8 _ l3 b2 wr hs (HIT7.out.up hu) (Right.small hh.right))
              have hk19 : k3 ≤ 19 := by omega
              by_cases hn : l3 = []
              · have hc : WoolSeg.clean FP l3 b2 = ([], 4) := by rw [hn]; exact clean_none hh.bag
                rw [hc] at HCL
                have HU := Lib.hid hu
                have HH := Lib.hid (show Has FP b2 l3 from hh)
                have HSR := Lib.hid hs
                clear hh hs hu hc hn
                go_wp2_with fail
                refine HCL.out.mono ?_
                rintro e w8 ⟨v8, rfl, ho8, u8'⟩
                have HEND2 : Hid (TcEnd b2 w7 u8 w8) := ⟨l3, HH.out, HSR.out.up u8', HU.out.trans u8'⟩
                clear ho8 u8'
                go_wp2_with fail
                go_meet
                exact HEND2.out
              · obtain ⟨hc, hh2⟩ := hh.clean hn
                rw [hc] at HCL
                have HU := Lib.hid hu
                have HH := Lib.hid hh2
                clear hh hs hu hc hn hh2
                go_wp2_with fail
                refine HCL.out.mono ?_
                rintro e w8 ⟨v8, rfl, ho8, u8'⟩
                have HREL : Hid (TcRel D b2 w7 v8 (.int .i64 ((k3 + 1 : Nat) : Int)) w8) := ⟨k3 + 1, _, by omega, rfl, HH.out, ho8.sgs, HU.out.trans u8'⟩
                clear ho8 u8'
                go_wp2_with fail
                go_roundw
                case rel => have := HREL.out; simpa using this
                case measure => simp only [intOf]; omega
            · have d1 : decide (k3 < D) = false := decide_eq_false hlt3
              clear hh hs hu
              go_wp2_with fail
              go_meet
              exact HEND.out
        case rest =>
          obtain ⟨l3, hh, hs, hu⟩ := hcut
          have HH := Lib.hid hh
          have HS8 := Lib.hid hs
          have HU8 : Hid (Up w wc) := HU7.out.trans hu
          have HIT8 : Hid (Items wc (.slice o7 n4 c7) b2) := HIT7.out.up hu
          obtain ⟨w8, hw8⟩ : ∃ W, W = wc := ⟨_, rfl⟩
          subst hw8
          have hn64 : n4 ≤ 64 := by rw [← HN4.out]; exact hh.bag.len
          have HTE : Hid (TeRel n4 w8 (.int .i64 0) w8) := ⟨0, Nat.zero_le _, rfl, Up.refl _⟩
          obtain ⟨o8, c8, hv8, _, _⟩ := hs.slice
          generalize l3.length = n8 at hv8
          subst hv8
          clear hh hs hu HTC HHA HS7 HIT7 HU7
          go_wp2_with fail
          go_loopw [112] (fun i wr => TeRel n4 w8 i wr) (fun i _ => n4 - (intOf i).toNat)
          case atStart => exact HTE.out
          case round =>
            obtain ⟨k4, hk4, rfl, hu⟩ := hrel
            have HU := Lib.hid hu
            by_cases hlt4 : k4 < n4
            · have d1 : decide (k4 < n4) = true := decide_eq_true hlt4
              obtain ⟨o', c', hv, hle, hmx, h4⟩ := HIT8.out.up hu
              have hkb : k4 < b2.length := by rw [HN4.out]; exact hlt4
              rcases h4 with h4 | ⟨bb, off, hoe, hat⟩
              · rw [h4] at hkb; simp at hkb
              simp only [Value.slice.injEq] at hv
              obtain ⟨hv1, hv2, hv3⟩ := hv
              clear hv2
              subst hv1
              subst hoe
              obtain ⟨p0, p1, p2, p3⟩ := hat k4 hkb
              have HSOME : Hid ((l3.any fun s => s.contains (rcOf b2[k4])) = true) := HH.out.some_seg (List.getElem_mem hkb)
              obtain ⟨r, hr⟩ : ∃ r, rcOf b2[k4] = r := ⟨_, rfl⟩
              rw [hr] at HSOME
              have HRC : Hid (rcC r = [.bool true, .int .i64 b2[k4].s, .int .i64 b2[k4].n, .string (bs b2[k4].t)]) := by show _ = _; rw [← hr]; rfl
              generalize b2[k4].r = rr at p3
              generalize b2[k4].s = y1 at *
              generalize b2[k4].n = y2 at *
              generalize bs b2[k4].t = y3 at *
              have HCF : Hid (∀ W P, Up wr W → RowC W P 36 (rcC r) → Calls Try.prog 11 #[.slice o8 n8 c8, .func (.func 12) #[] #[.pointer (some ⟨P, 0, none⟩)]] W fun e w' => e = .returned (.bool true) ∧ Up W w') := fun W P hW hP => by
                have h := containsFH _ l3 r P W (HS8.out.up (HU.out.trans hW)) hP
                rw [HSOME.out] at h
                exact h
              have hq0 : (0 : Int) ≤ (k4 : Int) := Int.natCast_nonneg _
              have hqn : (k4 : Int) < (n4 : Int) := by omega
              have HRW : Hid (RowC ((wr.alloc (.cells #[.int .i64 y1, .int .i64 y2, .string y3, .int .i64 rr] 43)).alloc (.cells #[.bool true, .int .i64 y1, .int .i64 y2, .string y3] 36)) (wr.heap.size + 1) 36 (rcC r)) := by
                have h2 := heap_alloc_new (wr.alloc (.cells #[.int .i64 y1, .int .i64 y2, .string y3, .int .i64 rr] 43)) (.cells #[.bool true, .int .i64 y1, .int .i64 y2, .string y3] 36)
                show RowC _ _ _ _
                rw [HRC.out]
                simpa [RowC] using h2
              clear hat hr hkb hu hle hmx hv3
              go_wp2_with fail
              have hal : Up wr ((wr.alloc (.cells #[.int .i64 y1, .int .i64 y2, .string y3, .int .i64 rr] 43)).alloc (.cells #[.bool true, .int .i64 y1, .int .i64 y2, .string y3] 36)) := (Up.alloc _ _).trans (Up.alloc _ _)
              refine (HCF.out _ _ hal (by first | exact HRW.out | simpa using HRW.out)).mono ?_
              rintro e w9 ⟨rfl, u9'⟩
              have HREL : Hid (TeRel n4 w8 (.int .i64 ((k4 + 1 : Nat) : Int)) w9) := ⟨k4 + 1, by omega, rfl, HU.out.trans (hal.trans u9')⟩
              clear u9' hal p0 p1 p2 p3
              go_wp2_with fail
              go_roundw
              case rel => have := HREL.out; simpa using this
              case measure => simp only [intOf]; omega
            · have d1 : decide (k4 < n4) = false := decide_eq_false hlt4
              have HCK := Lib.hid (checkSg_right _ l3 wr (HS8.out.up hu) HH.out.right)
              clear hu
              go_wp2_with fail
              refine HCK.out.mono ?_
              rintro e w9 ⟨rfl, u9'⟩
              have HUZ := Lib.hid ((HU8.out.trans HU.out).trans u9')
              clear u9'
              go_wp2_with fail
              go_ret
              exact ⟨rfl, HUZ.out⟩

end Go.Proofs.Ytabhalajelbfoaa
