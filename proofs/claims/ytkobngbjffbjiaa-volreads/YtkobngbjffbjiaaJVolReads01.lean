/-
  The law VolReads: what is written is read, what is trimmed is not, and no other place is another. Conditions: a slice of deeds that reads as deeds.
-/
import Derived.Test.YtkobngbjffbjiaaJB42
import Derived.Deep.DeepCutAuto
import Derived.Deep.RegionHeld3
namespace Go.Proofs.Ytkobngbjffbjiaa
open Go.RowKit
open Go.Proofs
open WoolBag
open WoolVol

set_option maxRecDepth 100000 in
set_option maxHeartbeats 4000000 in
theorem volReads_walk (a0 : Option Addr) (len0 cap0 : Nat) (z0 : List Opn) (a1 a2 : Int) (a3 : ByteArray) (a4 a5 : Int) (w : World) (w0 : Ops w (.slice a0 len0 cap0) z0) (_ : (Lit.int .i64 a1).wf = true) (_ : (Lit.int .i64 a2).wf = true) (_ : a3.size ≤ 140737488351232) (_ : (Lit.int .i64 a4).wf = true) (_ : (Lit.int .i64 a5).wf = true) :
    Calls Try.prog 4 #[.slice a0 len0 cap0, .int .i64 a1, .int .i64 a2, .string a3, .int .i64 a4, .int .i64 a5] w fun e w' => e = .returned (.bool true) ∧ Up w w' := by
  obtain ⟨S, rfl⟩ : ∃ S, a3 = bs S := ⟨a3.data.toList, (bs_of a3).symm⟩
  have HBG := Lib.hid (fun W => begun_any W)
  go_enter Try.func4, Try.ntmps4
  go_wp2_with fail
  refine (HBG.out _).mono ?_
  rintro e w1 ⟨rfl, u1⟩
  have HU := Lib.hid u1
  have HC := Lib.hid (MdO.of (made_any _ z0 w1 (Ops.up w0 u1)))
  have HG := Lib.hid (madeO_good (F := FP) z0)
  clear u1 HBG
  generalize madeO FP z0 = ST at HC HG
  go_wp2_with fail
  refine HC.out.mono ?_
  clear HC
  rintro e w2 ⟨osa, csa, osb, csb, rfl, hs, hu⟩
  obtain ⟨nsa, hna⟩ : ∃ m, ST.b.length = m := ⟨_, rfl⟩
  obtain ⟨nsb, hnb⟩ : ∃ m, ST.v.length = m := ⟨_, rfl⟩
  rw [hna, hnb] at hs ⊢
  have hb := BoxS.new hs hna hnb
  have hv := hu.trans (Up.alloc w2 (.cells #[.slice osa nsa csa, .slice osb nsb csb] 27))
  clear hu hs hna hnb
  go_upto_region 4 with (fail)
  replace HU := Lib.hid (HU.out.trans hv)
  clear hv
  have HBs := Lib.hid hb
  clear hb
  generalize w2.alloc (.cells #[.slice osa nsa csa, .slice osb nsb csb] 27) = W2 at HBs HU ⊢
  generalize w2.heap.size = Xs at HBs ⊢
  have HPA : Hid (∀ W, Up W2 W → Calls Try.prog 19 #[.agg #[.slice osa nsa csa, .slice osb nsb csb], .int .i64 a1] W (PickPost W)) := fun W hW => pick_any _ ST a1 W (HBs.out.up hW).st (good_wf HG.out) HG.out.len
  unfold PickPost at HPA
  have HPB : Hid (∀ W, Up W2 W → Calls Try.prog 19 #[.agg #[.slice osa nsa csa, .slice osb nsb csb], .int .i64 a4] W (PickPost W)) := fun W hW => pick_any _ ST a4 W (HBs.out.up hW).st (good_wf HG.out) HG.out.len
  unfold PickPost at HPB
  have ks0 := HBs.out.k0
  have ks1 := HBs.out.k1
  go_cut [14, 15] (fun p q wx => Picks2 W2 p q wx)
  case first =>
    go_region_held3 (fun U => U.cell? ⟨Xs, 0, none⟩ = some (.slice osa nsa csa) ∧ U.cell? ⟨Xs, 1, none⟩ = some (.slice osb nsb csb)) (go_keep) (first
    | (go_at_call 19; ((with_reducible refine (HPA.out _ (by first | exact ux | exact Up.drew _)).mono ?_); rintro e wz ⟨A, hlA, rfl, uz⟩; have uy : Up W2 wz := (by first | exact ux.trans uz | exact (Up.drew _).trans uz); clear uz; have ux : Up W2 wz := uy; clear uy; have s0 := (HBs.out.up ux).k0; have s1 := (HBs.out.up ux).k1))
    | (go_at_call 19; ((with_reducible refine (HPB.out _ (by first | exact ux | exact Up.drew _)).mono ?_); rintro e wz ⟨B, hlB, rfl, uz⟩; have uy : Up W2 wz := (by first | exact ux.trans uz | exact (Up.drew _).trans uz); clear uz; have ux : Up W2 wz := uy; clear uy; have s0 := (HBs.out.up ux).k0; have s1 := (HBs.out.up ux).k1)))
    all_goals
      go_wp2_with fail
      go_meet
      exact ⟨A, B, hlA, hlB, rfl, rfl, ux⟩
  case rest =>
    obtain ⟨A, B, hlA, hlB, rfl, rfl, hu⟩ := hcut
    obtain ⟨W3, hW⟩ : ∃ W, W = wc := ⟨_, rfl⟩
    subst hW
    clear ks0 ks1
    replace HBs := Lib.hid (HBs.out.up hu)
    replace HU := Lib.hid (HU.out.trans hu)
    clear hu HPA HPB
    have HL := Lib.hid (law_reads HG.out A B S a2 a5)
    obtain ⟨⟨RT, RE⟩, hR⟩ : ∃ R, WoolVol.read FP ST B a5 = R := ⟨_, rfl⟩
    have HR0 := Lib.hid hR
    clear hR
    rw [HR0.out] at HL
    obtain ⟨⟨TSx, TEx⟩, hR⟩ : ∃ R, write FP ST A a2 S = R := ⟨_, rfl⟩
    have HRx := Lib.hid hR
    clear hR
    have HGx := Lib.hid (write_goodA (F := FP) ST A S a2)
    rw [HRx.out] at HGx
    simp only at HGx
    obtain ⟨⟨TSy, TEy⟩, hR⟩ : ∃ R, trim FP ST A a2 = R := ⟨_, rfl⟩
    have HRy := Lib.hid hR
    clear hR
    have HGy := Lib.hid (trim_goodA (F := FP) ST A a2)
    rw [HRy.out] at HGy
    simp only at HGy
    rw [HRx.out, HRy.out] at HL
    simp only at HL
    have HC := Lib.hid (read_any _ ST B a5 W3 HBs.out.st (good_wf HG.out))
    unfold readVR at HC
    rw [HR0.out] at HC
    try simp only at HC
    have ks0 := HBs.out.k0
    have ks1 := HBs.out.k1
    go_wp2_with fail
    refine HC.out.mono ?_
    clear HC
    rintro e w4 ⟨rfl, hu⟩
    clear ks0 ks1
    replace HBs := Lib.hid (HBs.out.up hu)
    replace HU := Lib.hid (HU.out.trans hu)
    clear hu
    have HC := Lib.hid (StO.ow (write_any _ ST A S a2 w4 HBs.out.st (good_wf HG.out)))
    rw [HRx.out] at HC
    have ks0 := HBs.out.k0
    have ks1 := HBs.out.k1
    go_wp2_with fail
    refine HC.out.mono ?_
    clear HC
    rintro e w5 ⟨oxa, cxa, oxb, cxb, rfl, hs, hu⟩
    simp only at hs ⊢
    clear ks0 ks1
    obtain ⟨nxa, hna⟩ : ∃ m, TSx.b.length = m := ⟨_, rfl⟩
    obtain ⟨nxb, hnb⟩ : ∃ m, TSx.v.length = m := ⟨_, rfl⟩
    rw [hna, hnb] at hs ⊢
    have hb := BoxS.new hs hna hnb
    have hv := hu.trans (Up.alloc w5 (.cells #[.slice oxa nxa cxa, .slice oxb nxb cxb] 27))
    clear hu hs hna hnb
    go_upto_region 7 with (fail)
    replace HBs := Lib.hid (HBs.out.up hv)
    replace HU := Lib.hid (HU.out.trans hv)
    clear hv
    have HBx := Lib.hid hb
    clear hb
    generalize w5.alloc (.cells #[.slice oxa nxa cxa, .slice oxb nxb cxb] 27) = W6 at HBs HBx   HU ⊢
    generalize w5.heap.size = Xx at HBx  ⊢
    have HC := Lib.hid (StO.ow (trim_any _ ST A a2 W6 HBs.out.st (good_wf HG.out)))
    rw [HRy.out] at HC
    have ks0 := HBs.out.k0
    have ks1 := HBs.out.k1
    go_wp2_with fail
    refine HC.out.mono ?_
    clear HC
    rintro e w7 ⟨oya, cya, oyb, cyb, rfl, hs, hu⟩
    simp only at hs ⊢
    clear ks0 ks1
    obtain ⟨nya, hna⟩ : ∃ m, TSy.b.length = m := ⟨_, rfl⟩
    obtain ⟨nyb, hnb⟩ : ∃ m, TSy.v.length = m := ⟨_, rfl⟩
    rw [hna, hnb] at hs ⊢
    have hb := BoxS.new hs hna hnb
    have hv := hu.trans (Up.alloc w7 (.cells #[.slice oya nya cya, .slice oyb nyb cyb] 27))
    clear hu hs hna hnb
    go_upto_region 8 with (fail)
    replace HBs := Lib.hid (HBs.out.up hv)
    replace HBx := Lib.hid (HBx.out.up hv)
    replace HU := Lib.hid (HU.out.trans hv)
    clear hv
    have HBy := Lib.hid hb
    clear hb
    generalize w7.alloc (.cells #[.slice oya nya cya, .slice oyb nyb cyb] 27) = W8 at HBs HBx HBy   HU ⊢
    generalize w7.heap.size = Xy at HBy  ⊢
    by_cases hy : TEy = 0
    · subst hy
      obtain ⟨hl1, hl2, hl3, hl4⟩ := HL.out.2 rfl
      have hsr := txt_same S
      have het := empty_txt
      clear HL HRx HRy HR0
      by_cases hab : A = B
      · subst hab
        have hsa := txt_same A
        by_cases hpq : a2 = a5
        · subst hpq
          have hpp : (a2 == a2) = true := by simp
          replace hl2 := hl2
          clear hl4
          by_cases hx : TEx = 0
          · subst hx
            obtain ⟨hm1, hm2⟩ := hl1 rfl
            have HC := Lib.hid (read_any _ TSx A a2 W8 HBx.out.st (good_wf HGx.out))
            unfold readVR at HC
            rw [hm1] at HC
            try simp only at HC
            have kx0 := HBx.out.k0
            have kx1 := HBx.out.k1
            go_wp2_with fail
            refine HC.out.mono ?_
            clear HC
            rintro e w9 ⟨rfl, hu⟩
            clear kx0 kx1
            replace HBs := Lib.hid (HBs.out.up hu)
            replace HBx := Lib.hid (HBx.out.up hu)
            replace HBy := Lib.hid (HBy.out.up hu)
            replace HU := Lib.hid (HU.out.trans hu)
            clear hu
            clear hl1 hl2
            have HC := Lib.hid (read_any _ TSx A a2 w9 HBx.out.st (good_wf HGx.out))
            unfold readVR at HC
            rw [hm1] at HC
            try simp only at HC
            have kx0 := HBx.out.k0
            have kx1 := HBx.out.k1
            go_wp2_with fail
            refine HC.out.mono ?_
            clear HC
            rintro e w10 ⟨rfl, hu⟩
            clear kx0 kx1
            replace HBs := Lib.hid (HBs.out.up hu)
            replace HBx := Lib.hid (HBx.out.up hu)
            replace HBy := Lib.hid (HBy.out.up hu)
            replace HU := Lib.hid (HU.out.trans hu)
            clear hu
            have HC := Lib.hid (read_any _ TSy A a2 w10 HBy.out.st (good_wf HGy.out))
            unfold readVR at HC
            rw [hl3] at HC
            try simp only at HC
            have ky0 := HBy.out.k0
            have ky1 := HBy.out.k1
            go_wp2_with fail
            refine HC.out.mono ?_
            clear HC
            rintro e w11 ⟨rfl, hu⟩
            clear ky0 ky1
            replace HBs := Lib.hid (HBs.out.up hu)
            replace HBx := Lib.hid (HBx.out.up hu)
            replace HBy := Lib.hid (HBy.out.up hu)
            replace HU := Lib.hid (HU.out.trans hu)
            clear hu
            obtain ⟨⟨QT, QE⟩, hQ⟩ : ∃ R, WoolVol.read FP TSy A a2 = R := ⟨_, rfl⟩
            have HC := Lib.hid (read_any _ TSy A a2 w11 HBy.out.st (good_wf HGy.out))
            unfold readVR at HC
            rw [hl3] at HC
            try simp only at HC
            have ky0 := HBy.out.k0
            have ky1 := HBy.out.k1
            go_wp2_with fail
            refine HC.out.mono ?_
            clear HC
            rintro e w12 ⟨rfl, hu⟩
            clear ky0 ky1
            replace HBs := Lib.hid (HBs.out.up hu)
            replace HBx := Lib.hid (HBx.out.up hu)
            replace HBy := Lib.hid (HBy.out.up hu)
            replace HU := Lib.hid (HU.out.trans hu)
            clear hu
            go_wp2_with fail
            go_ret
            exact ⟨rfl, HU.out⟩
          · have hx8 : TEx = 8 ∨ TEx = 2 := hl2 hx
            clear hl1 hl2
            have hxe : (TEx == 0) = false := by rw [beq_eq_false_iff_ne]; exact hx
            rcases hx8 with rfl | rfl
            · skip
              have HC := Lib.hid (read_any _ TSy A a2 W8 HBy.out.st (good_wf HGy.out))
              unfold readVR at HC
              rw [hl3] at HC
              try simp only at HC
              have ky0 := HBy.out.k0
              have ky1 := HBy.out.k1
              go_wp2_with fail
              refine HC.out.mono ?_
              clear HC
              rintro e w9 ⟨rfl, hu⟩
              clear ky0 ky1
              replace HBs := Lib.hid (HBs.out.up hu)
              replace HBx := Lib.hid (HBx.out.up hu)
              replace HBy := Lib.hid (HBy.out.up hu)
              replace HU := Lib.hid (HU.out.trans hu)
              clear hu
              obtain ⟨⟨QT, QE⟩, hQ⟩ : ∃ R, WoolVol.read FP TSy A a2 = R := ⟨_, rfl⟩
              have HC := Lib.hid (read_any _ TSy A a2 w9 HBy.out.st (good_wf HGy.out))
              unfold readVR at HC
              rw [hl3] at HC
              try simp only at HC
              have ky0 := HBy.out.k0
              have ky1 := HBy.out.k1
              go_wp2_with fail
              refine HC.out.mono ?_
              clear HC
              rintro e w10 ⟨rfl, hu⟩
              clear ky0 ky1
              replace HBs := Lib.hid (HBs.out.up hu)
              replace HBx := Lib.hid (HBx.out.up hu)
              replace HBy := Lib.hid (HBy.out.up hu)
              replace HU := Lib.hid (HU.out.trans hu)
              clear hu
              go_wp2_with fail
              go_ret
              exact ⟨rfl, HU.out⟩
            · skip
              have HC := Lib.hid (read_any _ TSy A a2 W8 HBy.out.st (good_wf HGy.out))
              unfold readVR at HC
              rw [hl3] at HC
              try simp only at HC
              have ky0 := HBy.out.k0
              have ky1 := HBy.out.k1
              go_wp2_with fail
              refine HC.out.mono ?_
              clear HC
              rintro e w9 ⟨rfl, hu⟩
              clear ky0 ky1
              replace HBs := Lib.hid (HBs.out.up hu)
              replace HBx := Lib.hid (HBx.out.up hu)
              replace HBy := Lib.hid (HBy.out.up hu)
              replace HU := Lib.hid (HU.out.trans hu)
              clear hu
              obtain ⟨⟨QT, QE⟩, hQ⟩ : ∃ R, WoolVol.read FP TSy A a2 = R := ⟨_, rfl⟩
              have HC := Lib.hid (read_any _ TSy A a2 w9 HBy.out.st (good_wf HGy.out))
              unfold readVR at HC
              rw [hl3] at HC
              try simp only at HC
              have ky0 := HBy.out.k0
              have ky1 := HBy.out.k1
              go_wp2_with fail
              refine HC.out.mono ?_
              clear HC
              rintro e w10 ⟨rfl, hu⟩
              clear ky0 ky1
              replace HBs := Lib.hid (HBs.out.up hu)
              replace HBx := Lib.hid (HBx.out.up hu)
              replace HBy := Lib.hid (HBy.out.up hu)
              replace HU := Lib.hid (HU.out.trans hu)
              clear hu
              go_wp2_with fail
              go_ret
              exact ⟨rfl, HU.out⟩
        · have hno : ¬ (A = A ∧ a2 = a5) := fun h => hpq h.2
          have hpp : (a2 == a5) = false := by rw [beq_eq_false_iff_ne]; exact hpq
          have hst := txt_same RT
          have hse : (RE == RE) = true := by simp
          by_cases hx : TEx = 0
          · subst hx
            obtain ⟨hm1, hm2⟩ := hl1 rfl
            have HC := Lib.hid (read_any _ TSx A a2 W8 HBx.out.st (good_wf HGx.out))
            unfold readVR at HC
            rw [hm1] at HC
            try simp only at HC
            have kx0 := HBx.out.k0
            have kx1 := HBx.out.k1
            go_wp2_with fail
            refine HC.out.mono ?_
            clear HC
            rintro e w9 ⟨rfl, hu⟩
            clear kx0 kx1
            replace HBs := Lib.hid (HBs.out.up hu)
            replace HBx := Lib.hid (HBx.out.up hu)
            replace HBy := Lib.hid (HBy.out.up hu)
            replace HU := Lib.hid (HU.out.trans hu)
            clear hu
            clear hl1 hl2
            have HC := Lib.hid (read_any _ TSx A a5 w9 HBx.out.st (good_wf HGx.out))
            unfold readVR at HC
            rw [hm2 hno] at HC
            try simp only at HC
            have kx0 := HBx.out.k0
            have kx1 := HBx.out.k1
            go_wp2_with fail
            refine HC.out.mono ?_
            clear HC
            rintro e w10 ⟨rfl, hu⟩
            clear kx0 kx1
            replace HBs := Lib.hid (HBs.out.up hu)
            replace HBx := Lib.hid (HBx.out.up hu)
            replace HBy := Lib.hid (HBy.out.up hu)
            replace HU := Lib.hid (HU.out.trans hu)
            clear hu
            have HC := Lib.hid (read_any _ TSy A a2 w10 HBy.out.st (good_wf HGy.out))
            unfold readVR at HC
            rw [hl3] at HC
            try simp only at HC
            have ky0 := HBy.out.k0
            have ky1 := HBy.out.k1
            go_wp2_with fail
            refine HC.out.mono ?_
            clear HC
            rintro e w11 ⟨rfl, hu⟩
            clear ky0 ky1
            replace HBs := Lib.hid (HBs.out.up hu)
            replace HBx := Lib.hid (HBx.out.up hu)
            replace HBy := Lib.hid (HBy.out.up hu)
            replace HU := Lib.hid (HU.out.trans hu)
            clear hu
            have HC := Lib.hid (read_any _ TSy A a5 w11 HBy.out.st (good_wf HGy.out))
            unfold readVR at HC
            rw [hl4 hno] at HC
            try simp only at HC
            have ky0 := HBy.out.k0
            have ky1 := HBy.out.k1
            go_wp2_with fail
            refine HC.out.mono ?_
            clear HC
            rintro e w12 ⟨rfl, hu⟩
            clear ky0 ky1
            replace HBs := Lib.hid (HBs.out.up hu)
            replace HBx := Lib.hid (HBx.out.up hu)
            replace HBy := Lib.hid (HBy.out.up hu)
            replace HU := Lib.hid (HU.out.trans hu)
            clear hu
            go_wp2_with fail
            go_ret
            exact ⟨rfl, HU.out⟩
          · have hx8 : TEx = 8 ∨ TEx = 2 := hl2 hx
            clear hl1 hl2
            have hxe : (TEx == 0) = false := by rw [beq_eq_false_iff_ne]; exact hx
            rcases hx8 with rfl | rfl
            · skip
              have HC := Lib.hid (read_any _ TSy A a2 W8 HBy.out.st (good_wf HGy.out))
              unfold readVR at HC
              rw [hl3] at HC
              try simp only at HC
              have ky0 := HBy.out.k0
              have ky1 := HBy.out.k1
              go_wp2_with fail
              refine HC.out.mono ?_
              clear HC
              rintro e w9 ⟨rfl, hu⟩
              clear ky0 ky1
              replace HBs := Lib.hid (HBs.out.up hu)
              replace HBx := Lib.hid (HBx.out.up hu)
              replace HBy := Lib.hid (HBy.out.up hu)
              replace HU := Lib.hid (HU.out.trans hu)
              clear hu
              have HC := Lib.hid (read_any _ TSy A a5 w9 HBy.out.st (good_wf HGy.out))
              unfold readVR at HC
              rw [hl4 hno] at HC
              try simp only at HC
              have ky0 := HBy.out.k0
              have ky1 := HBy.out.k1
              go_wp2_with fail
              refine HC.out.mono ?_
              clear HC
              rintro e w10 ⟨rfl, hu⟩
              clear ky0 ky1
              replace HBs := Lib.hid (HBs.out.up hu)
              replace HBx := Lib.hid (HBx.out.up hu)
              replace HBy := Lib.hid (HBy.out.up hu)
              replace HU := Lib.hid (HU.out.trans hu)
              clear hu
              go_wp2_with fail
              go_ret
              exact ⟨rfl, HU.out⟩
            · skip
              have HC := Lib.hid (read_any _ TSy A a2 W8 HBy.out.st (good_wf HGy.out))
              unfold readVR at HC
              rw [hl3] at HC
              try simp only at HC
              have ky0 := HBy.out.k0
              have ky1 := HBy.out.k1
              go_wp2_with fail
              refine HC.out.mono ?_
              clear HC
              rintro e w9 ⟨rfl, hu⟩
              clear ky0 ky1
              replace HBs := Lib.hid (HBs.out.up hu)
              replace HBx := Lib.hid (HBx.out.up hu)
              replace HBy := Lib.hid (HBy.out.up hu)
              replace HU := Lib.hid (HU.out.trans hu)
              clear hu
              have HC := Lib.hid (read_any _ TSy A a5 w9 HBy.out.st (good_wf HGy.out))
              unfold readVR at HC
              rw [hl4 hno] at HC
              try simp only at HC
              have ky0 := HBy.out.k0
              have ky1 := HBy.out.k1
              go_wp2_with fail
              refine HC.out.mono ?_
              clear HC
              rintro e w10 ⟨rfl, hu⟩
              clear ky0 ky1
              replace HBs := Lib.hid (HBs.out.up hu)
              replace HBx := Lib.hid (HBx.out.up hu)
              replace HBy := Lib.hid (HBy.out.up hu)
              replace HU := Lib.hid (HU.out.trans hu)
              clear hu
              go_wp2_with fail
              go_ret
              exact ⟨rfl, HU.out⟩
      · have hno : ¬ (A = B ∧ a2 = a5) := fun h => hab h.1
        have hsa := txt_other hab
        have hst := txt_same RT
        have hse : (RE == RE) = true := by simp
        by_cases hx : TEx = 0
        · subst hx
          obtain ⟨hm1, hm2⟩ := hl1 rfl
          have HC := Lib.hid (read_any _ TSx A a2 W8 HBx.out.st (good_wf HGx.out))
          unfold readVR at HC
          rw [hm1] at HC
          try simp only at HC
          have kx0 := HBx.out.k0
          have kx1 := HBx.out.k1
          go_wp2_with fail
          refine HC.out.mono ?_
          clear HC
          rintro e w9 ⟨rfl, hu⟩
          clear kx0 kx1
          replace HBs := Lib.hid (HBs.out.up hu)
          replace HBx := Lib.hid (HBx.out.up hu)
          replace HBy := Lib.hid (HBy.out.up hu)
          replace HU := Lib.hid (HU.out.trans hu)
          clear hu
          clear hl1 hl2
          have HC := Lib.hid (read_any _ TSx B a5 w9 HBx.out.st (good_wf HGx.out))
          unfold readVR at HC
          rw [hm2 hno] at HC
          try simp only at HC
          have kx0 := HBx.out.k0
          have kx1 := HBx.out.k1
          go_wp2_with fail
          refine HC.out.mono ?_
          clear HC
          rintro e w10 ⟨rfl, hu⟩
          clear kx0 kx1
          replace HBs := Lib.hid (HBs.out.up hu)
          replace HBx := Lib.hid (HBx.out.up hu)
          replace HBy := Lib.hid (HBy.out.up hu)
          replace HU := Lib.hid (HU.out.trans hu)
          clear hu
          have HC := Lib.hid (read_any _ TSy A a2 w10 HBy.out.st (good_wf HGy.out))
          unfold readVR at HC
          rw [hl3] at HC
          try simp only at HC
          have ky0 := HBy.out.k0
          have ky1 := HBy.out.k1
          go_wp2_with fail
          refine HC.out.mono ?_
          clear HC
          rintro e w11 ⟨rfl, hu⟩
          clear ky0 ky1
          replace HBs := Lib.hid (HBs.out.up hu)
          replace HBx := Lib.hid (HBx.out.up hu)
          replace HBy := Lib.hid (HBy.out.up hu)
          replace HU := Lib.hid (HU.out.trans hu)
          clear hu
          have HC := Lib.hid (read_any _ TSy B a5 w11 HBy.out.st (good_wf HGy.out))
          unfold readVR at HC
          rw [hl4 hno] at HC
          try simp only at HC
          have ky0 := HBy.out.k0
          have ky1 := HBy.out.k1
          go_wp2_with fail
          refine HC.out.mono ?_
          clear HC
          rintro e w12 ⟨rfl, hu⟩
          clear ky0 ky1
          replace HBs := Lib.hid (HBs.out.up hu)
          replace HBx := Lib.hid (HBx.out.up hu)
          replace HBy := Lib.hid (HBy.out.up hu)
          replace HU := Lib.hid (HU.out.trans hu)
          clear hu
          go_wp2_with fail
          go_ret
          exact ⟨rfl, HU.out⟩
        · have hx8 : TEx = 8 ∨ TEx = 2 := hl2 hx
          clear hl1 hl2
          have hxe : (TEx == 0) = false := by rw [beq_eq_false_iff_ne]; exact hx
          rcases hx8 with rfl | rfl
          · skip
            have HC := Lib.hid (read_any _ TSy A a2 W8 HBy.out.st (good_wf HGy.out))
            unfold readVR at HC
            rw [hl3] at HC
            try simp only at HC
            have ky0 := HBy.out.k0
            have ky1 := HBy.out.k1
            go_wp2_with fail
            refine HC.out.mono ?_
            clear HC
            rintro e w9 ⟨rfl, hu⟩
            clear ky0 ky1
            replace HBs := Lib.hid (HBs.out.up hu)
            replace HBx := Lib.hid (HBx.out.up hu)
            replace HBy := Lib.hid (HBy.out.up hu)
            replace HU := Lib.hid (HU.out.trans hu)
            clear hu
            have HC := Lib.hid (read_any _ TSy B a5 w9 HBy.out.st (good_wf HGy.out))
            unfold readVR at HC
            rw [hl4 hno] at HC
            try simp only at HC
            have ky0 := HBy.out.k0
            have ky1 := HBy.out.k1
            go_wp2_with fail
            refine HC.out.mono ?_
            clear HC
            rintro e w10 ⟨rfl, hu⟩
            clear ky0 ky1
            replace HBs := Lib.hid (HBs.out.up hu)
            replace HBx := Lib.hid (HBx.out.up hu)
            replace HBy := Lib.hid (HBy.out.up hu)
            replace HU := Lib.hid (HU.out.trans hu)
            clear hu
            go_wp2_with fail
            go_ret
            exact ⟨rfl, HU.out⟩
          · skip
            have HC := Lib.hid (read_any _ TSy A a2 W8 HBy.out.st (good_wf HGy.out))
            unfold readVR at HC
            rw [hl3] at HC
            try simp only at HC
            have ky0 := HBy.out.k0
            have ky1 := HBy.out.k1
            go_wp2_with fail
            refine HC.out.mono ?_
            clear HC
            rintro e w9 ⟨rfl, hu⟩
            clear ky0 ky1
            replace HBs := Lib.hid (HBs.out.up hu)
            replace HBx := Lib.hid (HBx.out.up hu)
            replace HBy := Lib.hid (HBy.out.up hu)
            replace HU := Lib.hid (HU.out.trans hu)
            clear hu
            have HC := Lib.hid (read_any _ TSy B a5 w9 HBy.out.st (good_wf HGy.out))
            unfold readVR at HC
            rw [hl4 hno] at HC
            try simp only at HC
            have ky0 := HBy.out.k0
            have ky1 := HBy.out.k1
            go_wp2_with fail
            refine HC.out.mono ?_
            clear HC
            rintro e w10 ⟨rfl, hu⟩
            clear ky0 ky1
            replace HBs := Lib.hid (HBs.out.up hu)
            replace HBx := Lib.hid (HBx.out.up hu)
            replace HBy := Lib.hid (HBy.out.up hu)
            replace HU := Lib.hid (HU.out.trans hu)
            clear hu
            go_wp2_with fail
            go_ret
            exact ⟨rfl, HU.out⟩
    · have hye : (TEy == 0) = false := by rw [beq_eq_false_iff_ne]; exact hy
      have hxy : TEx = TEy := HL.out.1 hy
      subst hxy
      have hxx : (TEx == TEx) = true := by simp
      clear HL HR0 HRx HRy hy
      go_wp2_with fail
      go_ret
      exact ⟨rfl, HU.out⟩

end Go.Proofs.Ytkobngbjffbjiaa
