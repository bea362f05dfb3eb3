/-
  The law DiffCopies: what differs, copied, differs no more, and no other volume is another. Conditions: a slice of deeds that reads as deeds.
-/
import Derived.Test.YtnmdfdkagkpcaaaJDiffCopies46
import Derived.Test.YtnmdfdkagkpcaaaJDiffCopies50
import Derived.Test.YtnmdfdkagkpcaaaJDiffCopies22
import Derived.Deep.DeepCutAuto
import Derived.Deep.RegionHeld3
namespace Go.Proofs.Ytnmdfdkagkpcaaa
open Go.RowKit
open Go.Proofs
open WoolBag
open WoolVol

set_option maxRecDepth 100000 in
set_option maxHeartbeats 20000000 in
theorem diffCopies_walk (a0 : Option Addr) (len0 cap0 : Nat) (z0 : List Opn) (a1 a2 a3 : Int) (w : World) (w0 : Ops w (.slice a0 len0 cap0) z0) (_ : (Lit.int .i64 a1).wf = true) (_ : (Lit.int .i64 a2).wf = true) (_ : (Lit.int .i64 a3).wf = true) :
    Calls Try.prog 3 #[.slice a0 len0 cap0, .int .i64 a1, .int .i64 a2, .int .i64 a3] w fun e w' => e = .returned (.bool true) ∧ Up w w' := by
  have HBG := Lib.hid (fun W => begun_any W)
  have HAA : bs [97] = ⟨#[97]⟩ := rfl
  have HBB : bs [98] = ⟨#[98]⟩ := rfl
  have hd0 : difR zeroS [97] [98] = ([], 4) := difR_miss zero_good (.inl rfl)
  have HDF := Lib.hid (fun W => DfO.of (diff_any zeroV zeroS [97] [98] W (Stat.zero W) (good_wf zero_good)))
  unfold zeroV DfO at HDF
  rw [hd0, HAA, HBB] at HDF
  simp only at HDF
  have HG := Lib.hid (madeO_good (F := FP) z0)
  have HOZ := Lib.hid w0
  clear w0 HAA HBB hd0
  go_enter Try.func3, Try.ntmps3
  go_wp2_with fail
  refine (HBG.out _).mono ?_
  rintro e w1 ⟨rfl, u1⟩
  have HU := Lib.hid u1
  clear u1 HBG
  go_wp2_with fail
  refine (HDF.out _).mono ?_
  rintro e w2 ⟨od, cd, bd, rfl, hi, hcd, hu⟩
  simp only [List.length_nil]
  replace HU := Lib.hid (HU.out.trans hu)
  clear hi hu
  go_upto_region 6 with (fail)
  have HC := Lib.hid (MdO.of (made_any _ z0 w2 (Ops.up HOZ.out HU.out)))
  generalize madeO FP z0 = ST at HC HG
  go_wp2_with fail
  refine HC.out.mono ?_
  clear HC
  rintro e w3 ⟨osa, csa, osb, csb, rfl, hs, hu⟩
  obtain ⟨nsa, hna⟩ : ∃ m, ST.b.length = m := ⟨_, rfl⟩
  obtain ⟨nsb, hnb⟩ : ∃ m, ST.v.length = m := ⟨_, rfl⟩
  rw [hna, hnb] at hs ⊢
  have hb := BoxS.new hs hna hnb
  have hv := hu.trans (Up.alloc w3 (.cells #[.slice osa nsa csa, .slice osb nsb csb] 31))
  clear hu hs hna hnb
  go_upto_region 7 with (fail)
  replace HU := Lib.hid (HU.out.trans hv)
  clear hv
  have HBs := Lib.hid hb
  clear hb
  generalize w3.alloc (.cells #[.slice osa nsa csa, .slice osb nsb csb] 31) = W4 at HBs HU ⊢
  generalize w3.heap.size = Xs at HBs ⊢
  have HPA : Hid (∀ W, Up W4 W → Calls Try.prog 9 #[.agg #[.slice osa nsa csa, .slice osb nsb csb], .int .i64 a1] W (PickPost W)) := fun W hW => pick_any _ ST a1 W (HBs.out.up hW).st (good_wf HG.out) HG.out.len
  unfold PickPost at HPA
  have HPB : Hid (∀ W, Up W4 W → Calls Try.prog 9 #[.agg #[.slice osa nsa csa, .slice osb nsb csb], .int .i64 a2] W (PickPost W)) := fun W hW => pick_any _ ST a2 W (HBs.out.up hW).st (good_wf HG.out) HG.out.len
  unfold PickPost at HPB
  have HPC : Hid (∀ W, Up W4 W → Calls Try.prog 9 #[.agg #[.slice osa nsa csa, .slice osb nsb csb], .int .i64 a3] W (PickPost W)) := fun W hW => pick_any _ ST a3 W (HBs.out.up hW).st (good_wf HG.out) HG.out.len
  unfold PickPost at HPC
  have ks0 := HBs.out.k0
  have ks1 := HBs.out.k1
  go_cut [12, 13, 14] (fun p q r wx => Picks3 W4 p q r wx)
  case first =>
    go_region_held3 (fun U => U.cell? ⟨Xs, 0, none⟩ = some (.slice osa nsa csa) ∧ U.cell? ⟨Xs, 1, none⟩ = some (.slice osb nsb csb)) (go_keep) (first
    | (go_at_call 9; ((with_reducible refine (HPA.out _ (by first | exact ux | exact Up.drew _)).mono ?_); rintro e wz ⟨A, hlA, rfl, uz⟩; have uy : Up W4 wz := (by first | exact ux.trans uz | exact (Up.drew _).trans uz); clear uz; have ux : Up W4 wz := uy; clear uy; have s0 := (HBs.out.up ux).k0; have s1 := (HBs.out.up ux).k1))
    | (go_at_call 9; ((with_reducible refine (HPB.out _ (by first | exact ux | exact Up.drew _)).mono ?_); rintro e wz ⟨B, hlB, rfl, uz⟩; have uy : Up W4 wz := (by first | exact ux.trans uz | exact (Up.drew _).trans uz); clear uz; have ux : Up W4 wz := uy; clear uy; have s0 := (HBs.out.up ux).k0; have s1 := (HBs.out.up ux).k1))
    | (go_at_call 9; ((with_reducible refine (HPC.out _ (by first | exact ux | exact Up.drew _)).mono ?_); rintro e wz ⟨C, hlC, rfl, uz⟩; have uy : Up W4 wz := (by first | exact ux.trans uz | exact (Up.drew _).trans uz); clear uz; have ux : Up W4 wz := uy; clear uy; have s0 := (HBs.out.up ux).k0; have s1 := (HBs.out.up ux).k1)))
    all_goals
      go_wp2_with fail
      go_meet
      exact ⟨A, B, C, hlA, hlB, hlC, rfl, rfl, rfl, ux⟩
  case rest =>
    obtain ⟨A, B, C, hlA, hlB, hlC, rfl, rfl, rfl, hu⟩ := hcut
    obtain ⟨W5, hW⟩ : ∃ W, W = wc := ⟨_, rfl⟩
    subst hW
    clear ks0 ks1
    replace HBs := Lib.hid (HBs.out.up hu)
    replace HU := Lib.hid (HU.out.trans hu)
    clear hu HPA HPB HPC
    have hlw := copied_law HG.out A B
    have her := difR_err HG.out A B
    obtain ⟨⟨Di, Ei⟩, hR⟩ : ∃ R, difR ST A B = R := ⟨_, rfl⟩
    have HRi := Lib.hid hR
    clear hR
    rw [HRi.out] at hlw her
    simp only at hlw her
    have HLW := Lib.hid hlw
    have HER := Lib.hid her
    clear hlw her
    have HC := Lib.hid (DfO.of (diff_any _ ST A B W5 HBs.out.st (good_wf HG.out)))
    rw [HRi.out] at HC
    unfold DfO at HC
    simp only at HC
    have ks0 := HBs.out.k0
    have ks1 := HBs.out.k1
    go_wp2_with fail
    refine HC.out.mono ?_
    clear HC
    rintro e w6 ⟨oi, ci, bbi, rfl, hi, hci, hu⟩
    unfold maxLen at hci
    clear ks0 ks1
    replace HBs := Lib.hid (HBs.out.up hu)
    replace HU := Lib.hid (HU.out.trans hu)
    have HIi := Lib.hid hi
    clear hi hu
    obtain ⟨LI, hLI⟩ : ∃ n, Di.length = n := ⟨_, rfl⟩
    have HLI := Lib.hid hLI
    rw [hLI] at HIi ⊢
    clear hLI
    by_cases hE : Ei = 0
    · subst hE
      obtain ⟨TSx, hcp, hgx, hdx, htx, hot⟩ := HLW.out rfl
      clear HLW HER
      have HGx := Lib.hid hgx
      have HDX := Lib.hid hdx
      have HTX := Lib.hid htx
      have HOT := Lib.hid hot
      have HRx := Lib.hid hcp
      clear hgx hdx htx hot hcp
      have HC := Lib.hid (StO.ow (copy_own _ (.slice oi LI ci) ST A B Di w6 HBs.out.st (good_wf HG.out) (Sl.of_own HIi.out)))
      rw [HRx.out] at HC
      have ks0 := HBs.out.k0
      have ks1 := HBs.out.k1
      go_wp2_with fail
      refine HC.out.mono ?_
      clear HC
      rintro e w9 ⟨oxa, cxa, oxb, cxb, rfl, hs, hu⟩
      simp only at hs ⊢
      clear ks0 ks1
      obtain ⟨nxa, hna⟩ : ∃ m, TSx.b.length = m := ⟨_, rfl⟩
      obtain ⟨nxb, hnb⟩ : ∃ m, TSx.v.length = m := ⟨_, rfl⟩
      rw [hna, hnb] at hs ⊢
      have hb := BoxS.new hs hna hnb
      have hv := hu.trans (Up.alloc w9 (.cells #[.slice oxa nxa cxa, .slice oxb nxb cxb] 31))
      clear hu hs hna hnb
      go_upto_region 12 with (fail)
      replace HBs := Lib.hid (HBs.out.up hv)
      replace HIi := Lib.hid (HIi.out.up hv)
      replace HU := Lib.hid (HU.out.trans hv)
      clear hv
      have HBx := Lib.hid hb
      clear hb
      generalize w9.alloc (.cells #[.slice oxa nxa cxa, .slice oxb nxb cxb] 31) = W10 at HBx HBs HIi HU ⊢
      generalize w9.heap.size = Xx at HBx ⊢
      go_upto_region 14 with (fail)
      have HC := Lib.hid (DfO.of (diff_any _ TSx A B W10 HBx.out.st (good_wf HGx.out)))
      rw [HDX.out] at HC
      unfold DfO at HC
      simp only at HC
      have kx0 := HBx.out.k0
      have kx1 := HBx.out.k1
      go_wp2_with fail
      refine HC.out.mono ?_
      clear HC
      rintro e w11 ⟨oj, cj, bbj, rfl, hi, hcj, hu⟩
      unfold maxLen at hcj
      clear kx0 kx1
      replace HBs := Lib.hid (HBs.out.up hu)
      replace HBx := Lib.hid (HBx.out.up hu)
      replace HIi := Lib.hid (HIi.out.up hu)
      replace HU := Lib.hid (HU.out.trans hu)
      have HIj := Lib.hid hi
      clear hi hu
      simp only [List.length_nil]
      clear HIj
      obtain ⟨L, hL⟩ : ∃ L, textsG FP ST A = L := ⟨_, rfl⟩
      have HL := Lib.hid hL
      clear hL
      rw [HL.out] at HTX
      have HLN : Hid (L.length ≤ 32) := by rw [← HL.out]; exact textsG_len HG.out A
      have HVC : Hid (∀ W, Up w11 W → Calls Try.prog 13 #[.agg #[.slice oxa nxa cxa, .slice oxb nxb cxb]] W fun e w' => e = .returned (.int .i64 0) ∧ Up W w') := fun W hW => by have h9 := vcheck_any _ TSx W (HBx.out.up hW).st (good_wf HGx.out); rwa [chkS_zero.2 HGx.out] at h9
      by_cases hcb : C = B
      · skip
        have hsb : ((bs C).toList == (bs B).toList) = true := by rw [txt_eqT]; simpa using hcb
        clear hcb
        go_upto_region 15 with (fail)
        have HQf : Hid (∀ W, Up w11 W → Calls Try.prog 12 #[.agg #[.slice oxa nxa cxa, .slice oxb nxb cxb], .string (bs B)] W (TxO L W)) := fun W hW => by have h9 := TxO.of (texts_any _ TSx B W (HBx.out.up hW).st HGx.out); rwa [HTX.out] at h9
        unfold TxO at HQf
        have HQh : Hid (∀ W, Up w11 W → Calls Try.prog 12 #[.agg #[.slice osa nsa csa, .slice osb nsb csb], .string (bs A)] W (TxO L W)) := fun W hW => by have h9 := TxO.of (texts_any _ ST A W (HBs.out.up hW).st HG.out); rwa [HL.out] at h9
        unfold TxO at HQh
        have HE0 : Hid (∀ v1 v2 W, Txs W v1 L → Txs W v2 L → Calls Try.prog 11 #[v1, v2] W fun e w' => e = .returned (.bool true) ∧ Up W w') := fun v1 v2 W h1 h2 => equalT_same v1 v2 L L W (HLN.out) h1 h2 rfl
        have kx0 := HBx.out.k0
        have kx1 := HBx.out.k1
        have ks0 := HBs.out.k0
        have ks1 := HBs.out.k1
        go_cut [8] (fun p wx => p = .bool true ∧ Up w11 wx)
        case first =>
          refine wp_region_held_drew (S := fun U => U.cell? ⟨Xx, 0, none⟩ = some (.slice oxa nxa cxa) ∧ U.cell? ⟨Xx, 1, none⟩ = some (.slice oxb nxb cxb) ∧ U.cell? ⟨Xs, 0, none⟩ = some (.slice osa nsa csa) ∧ U.cell? ⟨Xs, 1, none⟩ = some (.slice osb nsb csb)) (by kernel_rfl) ?_ (fun hHeld => ?_)
          case refine_1 => exact ⟨kx0, kx1, ks0, ks1⟩
          (refine wpAnyH_take (i := 0) (oi := { dst := some 70, op := Op.move (Operand.tmp 16), type := 25, pos := "high.go:283", after := #[], guard := none }) (v := ?_) rfl (by kernel_rfl) (by kernel_rfl) (by kernel_rfl) (fun _ _ _ h => h) (Or.inl ⟨by rfl, ?_⟩) (by assumption) ?_)
          rotate_left
          · (intro w hSw; (try dsimp only at hSw); go_simp; try with_reducible rfl)
          try simp only [Act.put, List.setIfInBounds_toArray, List.set_cons_zero, List.set_cons_succ]
          (refine wpAnyH_take (i := 1) (oi := { dst := some 71, op := Op.binOp BinOp.eql 25 (Operand.tmp 70) (Operand.const (Value.int IntKind.i64 0)) 25, type := 4, pos := "high.go:283", after := #[{ on := 0, ground := Ground.data }], guard := none }) (v := ?_) rfl (by kernel_rfl) (by kernel_rfl) (by kernel_rfl) (fun _ _ _ h => h) (Or.inl ⟨by rfl, ?_⟩) (by assumption) ?_)
          rotate_left
          · (intro w hSw; (try dsimp only at hSw); go_simp; try with_reducible rfl)
          try simp only [Act.put, List.setIfInBounds_toArray, List.set_cons_zero, List.set_cons_succ]
          (refine wpAnyH_take (i := 2) (oi := { dst := some 72, op := Op.move (Operand.tmp 71), type := 4, pos := "high.go:283", after := #[{ on := 1, ground := Ground.data }], guard := none }) (v := ?_) rfl (by kernel_rfl) (by kernel_rfl) (by kernel_rfl) (fun _ _ _ h => h) (Or.inl ⟨by rfl, ?_⟩) (by assumption) ?_)
          rotate_left
          · (intro w hSw; (try dsimp only at hSw); go_simp; try with_reducible rfl)
          try simp only [Act.put, List.setIfInBounds_toArray, List.set_cons_zero, List.set_cons_succ]
          (refine wpAnyH_take (i := 3) (oi := { dst := some 73, op := Op.move (Operand.tmp 18), type := 24, pos := "high.go:283", after := #[{ on := 2, ground := Ground.guard }], guard := some (2, true) }) (v := ?_) rfl (by kernel_rfl) (by kernel_rfl) (by kernel_rfl) (fun _ _ _ h => h) (Or.inl ⟨by rfl, ?_⟩) (by assumption) ?_)
          rotate_left
          · (intro w hSw; (try dsimp only at hSw); go_simp; try with_reducible rfl)
          try simp only [Act.put, List.setIfInBounds_toArray, List.set_cons_zero, List.set_cons_succ]
          (refine wpAnyH_take (i := 4) (oi := { dst := some 74, op := Op.call { callee := Callee.builtin Builtin.len, args := #[Operand.tmp 73], argTypes := #[24] }, type := 3, pos := "high.go:283", after := #[{ on := 3, ground := Ground.data }, { on := 2, ground := Ground.guard }], guard := some (2, true) }) (v := ?_) rfl (by kernel_rfl) (by kernel_rfl) (by kernel_rfl) (fun _ _ _ h => h) (Or.inl ⟨by rfl, ?_⟩) (by assumption) ?_)
          rotate_left
          · (intro w hSw; (try dsimp only at hSw); go_simp; try with_reducible rfl)
          try simp only [Act.put, List.setIfInBounds_toArray, List.set_cons_zero, List.set_cons_succ]
          (refine wpAnyH_take (i := 5) (oi := { dst := some 75, op := Op.binOp BinOp.eql 3 (Operand.tmp 74) (Operand.const (Value.int IntKind.i64 0)) 3, type := 4, pos := "high.go:283", after := #[{ on := 4, ground := Ground.data }, { on := 2, ground := Ground.guard }], guard := some (2, true) }) (v := ?_) rfl (by kernel_rfl) (by kernel_rfl) (by kernel_rfl) (fun _ _ _ h => h) (Or.inl ⟨by rfl, ?_⟩) (by assumption) ?_)
          rotate_left
          · (intro w hSw; (try dsimp only at hSw); go_simp; try with_reducible rfl)
          try simp only [Act.put, List.setIfInBounds_toArray, List.set_cons_zero, List.set_cons_succ]
          (refine wpAnyH_take (i := 6) (oi := { dst := some 76, op := Op.pick (Operand.tmp 72) (Operand.tmp 75) (Operand.const (Value.bool false)), type := 4, pos := "high.go:283", after := #[{ on := 2, ground := Ground.data }, { on := 5, ground := Ground.data }], guard := none }) (v := ?_) rfl (by kernel_rfl) (by kernel_rfl) (by kernel_rfl) (fun _ _ _ h => h) (Or.inl ⟨by rfl, ?_⟩) (by assumption) ?_)
          rotate_left
          · (intro w hSw; (try dsimp only at hSw); go_simp; try with_reducible rfl)
          try simp only [Act.put, List.setIfInBounds_toArray, List.set_cons_zero, List.set_cons_succ]
          (refine wpAnyH_take (i := 7) (oi := { dst := some 77, op := Op.move (Operand.tmp 76), type := 4, pos := "high.go:283", after := #[{ on := 6, ground := Ground.data }, { on := 2, ground := Ground.chain }], guard := none }) (v := ?_) rfl (by kernel_rfl) (by kernel_rfl) (by kernel_rfl) (fun _ _ _ h => h) (Or.inl ⟨by rfl, ?_⟩) (by assumption) ?_)
          rotate_left
          · (intro w hSw; (try dsimp only at hSw); go_simp; try with_reducible rfl)
          try simp only [Act.put, List.setIfInBounds_toArray, List.set_cons_zero, List.set_cons_succ]
          (refine wpAnyH_take (i := 8) (oi := { dst := some 78, op := Op.load 31 (Operand.tmp 17), type := 31, pos := "high.go:283", after := #[{ on := 7, ground := Ground.guard }], guard := some (7, true) }) (v := ?_) rfl (by kernel_rfl) (by kernel_rfl) (by kernel_rfl) (fun _ _ _ h => h) (Or.inl ⟨by rfl, ?_⟩) (by assumption) ?_)
          rotate_left
          · (intro w hSw; (try dsimp only at hSw); go_simp; try with_reducible rfl)
          try simp only [Act.put, List.setIfInBounds_toArray, List.set_cons_zero, List.set_cons_succ]
          (refine wpAnyH_take (i := 9) (oi := { dst := some 79, op := Op.move (Operand.tmp 13), type := 9, pos := "high.go:283", after := #[{ on := 7, ground := Ground.guard }], guard := some (7, true) }) (v := ?_) rfl (by kernel_rfl) (by kernel_rfl) (by kernel_rfl) (fun _ _ _ h => h) (Or.inl ⟨by rfl, ?_⟩) (by assumption) ?_)
          rotate_left
          · (intro w hSw; (try dsimp only at hSw); go_simp; try with_reducible rfl)
          try simp only [Act.put, List.setIfInBounds_toArray, List.set_cons_zero, List.set_cons_succ]
          (refine wpAnyH_take (i := 11) (oi := { dst := some 81, op := Op.load 31 (Operand.tmp 11), type := 31, pos := "high.go:283", after := #[{ on := 7, ground := Ground.guard }], guard := some (7, true) }) (v := ?_) rfl (by kernel_rfl) (by kernel_rfl) (by kernel_rfl) (fun _ _ _ h => h) (Or.inl ⟨by rfl, ?_⟩) (by assumption) ?_)
          rotate_left
          · (intro w hSw; (try dsimp only at hSw); go_simp; try with_reducible rfl)
          try simp only [Act.put, List.setIfInBounds_toArray, List.set_cons_zero, List.set_cons_succ]
          (refine wpAnyH_take (i := 12) (oi := { dst := some 82, op := Op.move (Operand.tmp 12), type := 9, pos := "high.go:283", after := #[{ on := 7, ground := Ground.guard }], guard := some (7, true) }) (v := ?_) rfl (by kernel_rfl) (by kernel_rfl) (by kernel_rfl) (fun _ _ _ h => h) (Or.inl ⟨by rfl, ?_⟩) (by assumption) ?_)
          rotate_left
          · (intro w hSw; (try dsimp only at hSw); go_simp; try with_reducible rfl)
          try simp only [Act.put, List.setIfInBounds_toArray, List.set_cons_zero, List.set_cons_succ]
          refine wpAnyH_ready (rs := [10]) (by kernel_rfl) (by simp) ?_
          refine AllReadyH.cons (o := { dst := some 80, op := Op.call { callee := Callee.value (Operand.func 12), args := #[Operand.tmp 78, Operand.tmp 79], argTypes := #[31, 9] }, type := 37, pos := "high.go:283", after := #[{ on := 8, ground := Ground.data }, { on := 9, ground := Ground.data }, { on := 7, ground := Ground.chain }, { on := 7, ground := Ground.guard }], guard := some (7, true) }) rfl (fun K hK => ?_) ?_
          rotate_left
          · exact AllReadyH.nil
          go_simp
          go_at_call 12
          with_reducible refine (HQf.out _ (Up.drew _)).mono ?_
          rintro e wz ⟨of, cf, rfl, tf, uz⟩
          have uy : Up w11 wz := (by first | exact ux.trans uz | exact (Up.drew _).trans uz | exact uz)
          clear uz
          have ux : Up w11 wz := uy
          clear uy
          have sx0 := (HBx.out.up ux).k0
          have sx1 := (HBx.out.up ux).k1
          have ss0 := (HBs.out.up ux).k0
          have ss1 := (HBs.out.up ux).k1
          refine hK.out _ _ ?_ (fun hHeld => ?_)
          · exact ⟨sx0, sx1, ss0, ss1⟩
          clear hK K
          try simp only [Act.put, List.setIfInBounds_toArray, List.set_cons_zero, List.set_cons_succ]
          refine wpAnyH_ready (rs := [13]) (by kernel_rfl) (by simp) ?_
          refine AllReadyH.cons (o := { dst := some 83, op := Op.call { callee := Callee.value (Operand.func 12), args := #[Operand.tmp 81, Operand.tmp 82], argTypes := #[31, 9] }, type := 37, pos := "high.go:283", after := #[{ on := 11, ground := Ground.data }, { on := 12, ground := Ground.data }, { on := 10, ground := Ground.chain }, { on := 7, ground := Ground.guard }], guard := some (7, true) }) rfl (fun K hK => ?_) ?_
          rotate_left
          · exact AllReadyH.nil
          go_simp
          go_at_call 12
          with_reducible refine (HQh.out _ ux).mono ?_
          rintro e wz ⟨oh, ch, rfl, th, uz⟩
          have uy : Up w11 wz := (by first | exact ux.trans uz | exact (Up.drew _).trans uz | exact uz)
          have tf := Txs.up tf uz
          clear uz
          have ux : Up w11 wz := uy
          clear uy
          have sx0 := (HBx.out.up ux).k0
          have sx1 := (HBx.out.up ux).k1
          have ss0 := (HBs.out.up ux).k0
          have ss1 := (HBs.out.up ux).k1
          refine hK.out _ _ ?_ (fun hHeld => ?_)
          · exact ⟨sx0, sx1, ss0, ss1⟩
          clear hK K
          try simp only [Act.put, List.setIfInBounds_toArray, List.set_cons_zero, List.set_cons_succ]
          refine wpAnyH_ready (rs := [14]) (by kernel_rfl) (by simp) ?_
          refine AllReadyH.cons (o := { dst := some 84, op := Op.call { callee := Callee.value (Operand.func 11), args := #[Operand.tmp 80, Operand.tmp 83], argTypes := #[37, 37] }, type := 4, pos := "high.go:283", after := #[{ on := 10, ground := Ground.data }, { on := 13, ground := Ground.data }, { on := 13, ground := Ground.chain }, { on := 7, ground := Ground.guard }], guard := some (7, true) }) rfl (fun K hK => ?_) ?_
          rotate_left
          · exact AllReadyH.nil
          go_simp
          go_at_call 11
          with_reducible refine (HE0.out _ _ _ tf th).mono ?_
          rintro e wz ⟨rfl, uz⟩
          have uy : Up w11 wz := (by first | exact ux.trans uz | exact (Up.drew _).trans uz | exact uz)
          clear uz
          have ux : Up w11 wz := uy
          clear uy
          have sx0 := (HBx.out.up ux).k0
          have sx1 := (HBx.out.up ux).k1
          have ss0 := (HBs.out.up ux).k0
          have ss1 := (HBs.out.up ux).k1
          refine hK.out _ _ ?_ (fun hHeld => ?_)
          · exact ⟨sx0, sx1, ss0, ss1⟩
          clear hK K
          try simp only [Act.put, List.setIfInBounds_toArray, List.set_cons_zero, List.set_cons_succ]
          (refine wpAnyH_take (i := 15) (oi := { dst := some 85, op := Op.pick (Operand.tmp 77) (Operand.tmp 84) (Operand.const (Value.bool false)), type := 4, pos := "high.go:283", after := #[{ on := 7, ground := Ground.data }, { on := 14, ground := Ground.data }], guard := none }) (v := ?_) rfl (by kernel_rfl) (by kernel_rfl) (by kernel_rfl) (fun _ _ _ h => h) (Or.inl ⟨by rfl, ?_⟩) (by assumption) ?_)
          rotate_left
          · (intro w hSw; (try dsimp only at hSw); go_simp; try with_reducible rfl)
          try simp only [Act.put, List.setIfInBounds_toArray, List.set_cons_zero, List.set_cons_succ]
          (refine wpAnyH_take (i := 16) (oi := { dst := some 86, op := Op.move (Operand.tmp 85), type := 4, pos := "high.go:283", after := #[{ on := 15, ground := Ground.data }, { on := 14, ground := Ground.chain }], guard := none }) (v := ?_) rfl (by kernel_rfl) (by kernel_rfl) (by kernel_rfl) (fun _ _ _ h => h) (Or.inl ⟨by rfl, ?_⟩) (by assumption) ?_)
          rotate_left
          · (intro w hSw; (try dsimp only at hSw); go_simp; try with_reducible rfl)
          try simp only [Act.put, List.setIfInBounds_toArray, List.set_cons_zero, List.set_cons_succ]
          (refine wpAnyH_take (i := 17) (oi := { dst := some 87, op := Op.move (Operand.tmp 14), type := 9, pos := "high.go:283", after := #[{ on := 16, ground := Ground.guard }], guard := some (16, true) }) (v := ?_) rfl (by kernel_rfl) (by kernel_rfl) (by kernel_rfl) (fun _ _ _ h => h) (Or.inl ⟨by rfl, ?_⟩) (by assumption) ?_)
          rotate_left
          · (intro w hSw; (try dsimp only at hSw); go_simp; try with_reducible rfl)
          try simp only [Act.put, List.setIfInBounds_toArray, List.set_cons_zero, List.set_cons_succ]
          (refine wpAnyH_take (i := 18) (oi := { dst := some 88, op := Op.move (Operand.tmp 13), type := 9, pos := "high.go:283", after := #[{ on := 16, ground := Ground.guard }], guard := some (16, true) }) (v := ?_) rfl (by kernel_rfl) (by kernel_rfl) (by kernel_rfl) (fun _ _ _ h => h) (Or.inl ⟨by rfl, ?_⟩) (by assumption) ?_)
          rotate_left
          · (intro w hSw; (try dsimp only at hSw); go_simp; try with_reducible rfl)
          try simp only [Act.put, List.setIfInBounds_toArray, List.set_cons_zero, List.set_cons_succ]
          (refine wpAnyH_take (i := 19) (oi := { dst := some 89, op := Op.binOp BinOp.eql 9 (Operand.tmp 87) (Operand.tmp 88) 9, type := 4, pos := "high.go:283", after := #[{ on := 17, ground := Ground.data }, { on := 18, ground := Ground.data }, { on := 16, ground := Ground.guard }], guard := some (16, true) }) (v := ?_) rfl (by kernel_rfl) (by kernel_rfl) (by kernel_rfl) (fun _ _ _ h => h) (Or.inl ⟨by rfl, ?_⟩) (by assumption) ?_)
          rotate_left
          · (intro w hSw; (try dsimp only at hSw); go_simp; try with_reducible rfl)
          try simp only [Act.put, List.setIfInBounds_toArray, List.set_cons_zero, List.set_cons_succ]
          (refine wpAnyH_take (i := 20) (oi := { dst := some 90, op := Op.move (Operand.tmp 89), type := 4, pos := "high.go:283", after := #[{ on := 19, ground := Ground.data }, { on := 16, ground := Ground.chain }, { on := 16, ground := Ground.guard }], guard := some (16, true) }) (v := ?_) rfl (by kernel_rfl) (by kernel_rfl) (by kernel_rfl) (fun _ _ _ h => h) (Or.inl ⟨by rfl, ?_⟩) (by assumption) ?_)
          rotate_left
          · (intro w hSw; (try dsimp only at hSw); go_simp; try with_reducible rfl)
          try simp only [Act.put, List.setIfInBounds_toArray, List.set_cons_zero, List.set_cons_succ]
          (refine wpAnyH_take (i := 21) (oi := { dst := some 91, op := Op.load 31 (Operand.tmp 17), type := 31, pos := "high.go:283", after := #[{ on := 20, ground := Ground.guard }], guard := some (20, false) }) (v := undef) rfl (by kernel_rfl) (by kernel_rfl) (by kernel_rfl) (fun _ _ _ h => h) (Or.inr ⟨by rfl, rfl⟩) (by assumption) ?_)
          try simp only [Act.put, List.setIfInBounds_toArray, List.set_cons_zero, List.set_cons_succ]
          (refine wpAnyH_take (i := 22) (oi := { dst := some 92, op := Op.move (Operand.tmp 14), type := 9, pos := "high.go:283", after := #[{ on := 20, ground := Ground.guard }], guard := some (20, false) }) (v := undef) rfl (by kernel_rfl) (by kernel_rfl) (by kernel_rfl) (fun _ _ _ h => h) (Or.inr ⟨by rfl, rfl⟩) (by assumption) ?_)
          try simp only [Act.put, List.setIfInBounds_toArray, List.set_cons_zero, List.set_cons_succ]
          (refine wpAnyH_take (i := 23) (oi := { dst := some 93, op := Op.call { callee := Callee.value (Operand.func 12), args := #[Operand.tmp 91, Operand.tmp 92], argTypes := #[31, 9] }, type := 37, pos := "high.go:283", after := #[{ on := 21, ground := Ground.data }, { on := 22, ground := Ground.data }, { on := 20, ground := Ground.chain }, { on := 20, ground := Ground.guard }], guard := some (20, false) }) (v := undef) rfl (by kernel_rfl) (by kernel_rfl) (by kernel_rfl) (fun _ _ _ h => h) (Or.inr ⟨by rfl, rfl⟩) (by assumption) ?_)
          try simp only [Act.put, List.setIfInBounds_toArray, List.set_cons_zero, List.set_cons_succ]
          (refine wpAnyH_take (i := 24) (oi := { dst := some 94, op := Op.load 31 (Operand.tmp 11), type := 31, pos := "high.go:283", after := #[{ on := 20, ground := Ground.guard }], guard := some (20, false) }) (v := undef) rfl (by kernel_rfl) (by kernel_rfl) (by kernel_rfl) (fun _ _ _ h => h) (Or.inr ⟨by rfl, rfl⟩) (by assumption) ?_)
          try simp only [Act.put, List.setIfInBounds_toArray, List.set_cons_zero, List.set_cons_succ]
          (refine wpAnyH_take (i := 25) (oi := { dst := some 95, op := Op.move (Operand.tmp 14), type := 9, pos := "high.go:283", after := #[{ on := 20, ground := Ground.guard }], guard := some (20, false) }) (v := undef) rfl (by kernel_rfl) (by kernel_rfl) (by kernel_rfl) (fun _ _ _ h => h) (Or.inr ⟨by rfl, rfl⟩) (by assumption) ?_)
          try simp only [Act.put, List.setIfInBounds_toArray, List.set_cons_zero, List.set_cons_succ]
          (refine wpAnyH_take (i := 26) (oi := { dst := some 96, op := Op.call { callee := Callee.value (Operand.func 12), args := #[Operand.tmp 94, Operand.tmp 95], argTypes := #[31, 9] }, type := 37, pos := "high.go:283", after := #[{ on := 24, ground := Ground.data }, { on := 25, ground := Ground.data }, { on := 23, ground := Ground.chain }, { on := 20, ground := Ground.guard }], guard := some (20, false) }) (v := undef) rfl (by kernel_rfl) (by kernel_rfl) (by kernel_rfl) (fun _ _ _ h => h) (Or.inr ⟨by rfl, rfl⟩) (by assumption) ?_)
          try simp only [Act.put, List.setIfInBounds_toArray, List.set_cons_zero, List.set_cons_succ]
          (refine wpAnyH_take (i := 27) (oi := { dst := some 97, op := Op.call { callee := Callee.value (Operand.func 11), args := #[Operand.tmp 93, Operand.tmp 96], argTypes := #[37, 37] }, type := 4, pos := "high.go:283", after := #[{ on := 23, ground := Ground.data }, { on := 26, ground := Ground.data }, { on := 26, ground := Ground.chain }, { on := 20, ground := Ground.guard }], guard := some (20, false) }) (v := undef) rfl (by kernel_rfl) (by kernel_rfl) (by kernel_rfl) (fun _ _ _ h => h) (Or.inr ⟨by rfl, rfl⟩) (by assumption) ?_)
          try simp only [Act.put, List.setIfInBounds_toArray, List.set_cons_zero, List.set_cons_succ]
          (refine wpAnyH_take (i := 28) (oi := { dst := some 98, op := Op.pick (Operand.tmp 90) (Operand.const (Value.bool true)) (Operand.tmp 97), type := 4, pos := "high.go:283", after := #[{ on := 20, ground := Ground.data }, { on := 27, ground := Ground.data }, { on := 16, ground := Ground.guard }], guard := some (16, true) }) (v := ?_) rfl (by kernel_rfl) (by kernel_rfl) (by kernel_rfl) (fun _ _ _ h => h) (Or.inl ⟨by rfl, ?_⟩) (by assumption) ?_)
          rotate_left
          · (intro w hSw; (try dsimp only at hSw); go_simp; try with_reducible rfl)
          try simp only [Act.put, List.setIfInBounds_toArray, List.set_cons_zero, List.set_cons_succ]
          (refine wpAnyH_take (i := 29) (oi := { dst := some 99, op := Op.pick (Operand.tmp 86) (Operand.tmp 98) (Operand.const (Value.bool false)), type := 4, pos := "high.go:283", after := #[{ on := 16, ground := Ground.data }, { on := 28, ground := Ground.data }], guard := none }) (v := ?_) rfl (by kernel_rfl) (by kernel_rfl) (by kernel_rfl) (fun _ _ _ h => h) (Or.inl ⟨by rfl, ?_⟩) (by assumption) ?_)
          rotate_left
          · (intro w hSw; (try dsimp only at hSw); go_simp; try with_reducible rfl)
          try simp only [Act.put, List.setIfInBounds_toArray, List.set_cons_zero, List.set_cons_succ]
          (refine wpAnyH_take (i := 30) (oi := { dst := some 100, op := Op.move (Operand.tmp 99), type := 4, pos := "high.go:283", after := #[{ on := 29, ground := Ground.data }, { on := 27, ground := Ground.chain }], guard := none }) (v := ?_) rfl (by kernel_rfl) (by kernel_rfl) (by kernel_rfl) (fun _ _ _ h => h) (Or.inl ⟨by rfl, ?_⟩) (by assumption) ?_)
          rotate_left
          · (intro w hSw; (try dsimp only at hSw); go_simp; try with_reducible rfl)
          try simp only [Act.put, List.setIfInBounds_toArray, List.set_cons_zero, List.set_cons_succ]
          (refine wpAnyH_take (i := 31) (oi := { dst := some 101, op := Op.load 31 (Operand.tmp 17), type := 31, pos := "high.go:283", after := #[{ on := 30, ground := Ground.guard }], guard := some (30, true) }) (v := ?_) rfl (by kernel_rfl) (by kernel_rfl) (by kernel_rfl) (fun _ _ _ h => h) (Or.inl ⟨by rfl, ?_⟩) (by assumption) ?_)
          rotate_left
          · (intro w hSw; (try dsimp only at hSw); go_simp; try with_reducible rfl)
          try simp only [Act.put, List.setIfInBounds_toArray, List.set_cons_zero, List.set_cons_succ]
          refine wpAnyH_ready (rs := [32]) (by kernel_rfl) (by simp) ?_
          refine AllReadyH.cons (o := { dst := some 102, op := Op.call { callee := Callee.value (Operand.func 13), args := #[Operand.tmp 101], argTypes := #[31] }, type := 25, pos := "high.go:283", after := #[{ on := 31, ground := Ground.data }, { on := 30, ground := Ground.chain }, { on := 30, ground := Ground.guard }], guard := some (30, true) }) rfl (fun K hK => ?_) ?_
          rotate_left
          · exact AllReadyH.nil
          go_simp
          go_at_call 13
          with_reducible refine (HVC.out _ ux).mono ?_
          rintro e wz ⟨rfl, uz⟩
          have uy : Up w11 wz := (by first | exact ux.trans uz | exact (Up.drew _).trans uz | exact uz)
          clear uz
          have ux : Up w11 wz := uy
          clear uy
          have sx0 := (HBx.out.up ux).k0
          have sx1 := (HBx.out.up ux).k1
          have ss0 := (HBs.out.up ux).k0
          have ss1 := (HBs.out.up ux).k1
          refine hK.out _ _ ?_ (fun hHeld => ?_)
          · exact ⟨sx0, sx1, ss0, ss1⟩
          clear hK K
          try simp only [Act.put, List.setIfInBounds_toArray, List.set_cons_zero, List.set_cons_succ]
          (refine wpAnyH_take (i := 33) (oi := { dst := some 103, op := Op.binOp BinOp.eql 25 (Operand.tmp 102) (Operand.const (Value.int IntKind.i64 0)) 25, type := 4, pos := "high.go:283", after := #[{ on := 32, ground := Ground.data }, { on := 30, ground := Ground.guard }], guard := some (30, true) }) (v := ?_) rfl (by kernel_rfl) (by kernel_rfl) (by kernel_rfl) (fun _ _ _ h => h) (Or.inl ⟨by rfl, ?_⟩) (by assumption) ?_)
          rotate_left
          · (intro w hSw; (try dsimp only at hSw); go_simp; try with_reducible rfl)
          try simp only [Act.put, List.setIfInBounds_toArray, List.set_cons_zero, List.set_cons_succ]
          (refine wpAnyH_take (i := 34) (oi := { dst := some 104, op := Op.pick (Operand.tmp 100) (Operand.tmp 103) (Operand.const (Value.bool false)), type := 4, pos := "high.go:283", after := #[{ on := 30, ground := Ground.data }, { on := 33, ground := Ground.data }], guard := none }) (v := ?_) rfl (by kernel_rfl) (by kernel_rfl) (by kernel_rfl) (fun _ _ _ h => h) (Or.inl ⟨by rfl, ?_⟩) (by assumption) ?_)
          rotate_left
          · (intro w hSw; (try dsimp only at hSw); go_simp; try with_reducible rfl)
          try simp only [Act.put, List.setIfInBounds_toArray, List.set_cons_zero, List.set_cons_succ]
          (refine wpAnyH_take (i := 35) (oi := { dst := some 8, op := Op.assign (Operand.tmp 104), type := 4, pos := "high.go:283", after := #[{ on := 34, ground := Ground.data }, { on := 32, ground := Ground.chain }, { on := 0, ground := Ground.phase }, { on := 1, ground := Ground.phase }, { on := 2, ground := Ground.phase }, { on := 3, ground := Ground.phase }, { on := 4, ground := Ground.phase }, { on := 5, ground := Ground.phase }, { on := 6, ground := Ground.phase }, { on := 7, ground := Ground.phase }, { on := 8, ground := Ground.phase }, { on := 9, ground := Ground.phase }, { on := 10, ground := Ground.phase }, { on := 11, ground := Ground.phase }, { on := 12, ground := Ground.phase }, { on := 13, ground := Ground.phase }, { on := 14, ground := Ground.phase }, { on := 15, ground := Ground.phase }, { on := 16, ground := Ground.phase }, { on := 17, ground := Ground.phase }, { on := 18, ground := Ground.phase }, { on := 19, ground := Ground.phase }, { on := 20, ground := Ground.phase }, { on := 21, ground := Ground.phase }, { on := 22, ground := Ground.phase }, { on := 23, ground := Ground.phase }, { on := 24, ground := Ground.phase }, { on := 25, ground := Ground.phase }, { on := 26, ground := Ground.phase }, { on := 27, ground := Ground.phase }, { on := 28, ground := Ground.phase }, { on := 29, ground := Ground.phase }, { on := 30, ground := Ground.phase }, { on := 31, ground := Ground.phase }, { on := 32, ground := Ground.phase }, { on := 33, ground := Ground.phase }, { on := 34, ground := Ground.phase }], guard := none }) (v := ?_) rfl (by kernel_rfl) (by kernel_rfl) (by kernel_rfl) (fun _ _ _ h => h) (Or.inl ⟨by rfl, ?_⟩) (by assumption) ?_)
          rotate_left
          · (intro w hSw; (try dsimp only at hSw); go_simp; try with_reducible rfl)
          try simp only [Act.put, List.setIfInBounds_toArray, List.set_cons_zero, List.set_cons_succ]
          refine wpAnyH_done (by kernel_rfl) ?_ _
          go_wp2_with fail
          go_meet
          exact ⟨rfl, ux⟩
        case rest =>
          clear kx0 kx1 ks0 ks1
          obtain ⟨rfl, hu⟩ := hcut
          obtain ⟨W12, hW⟩ : ∃ W, W = wc := ⟨_, rfl⟩
          subst hW
          clear HQf HQh HE0
          replace HBs := Lib.hid (HBs.out.up hu)
          replace HBx := Lib.hid (HBx.out.up hu)
          replace HIi := Lib.hid (HIi.out.up hu)
          replace HU := Lib.hid (HU.out.trans hu)
          clear hu
          go_wp2_with fail
          go_ret
          exact ⟨rfl, HU.out⟩
      · skip
        have hsb := txt_other hcb
        have hsb2 := txt_other (fun h => hcb h.symm)
        obtain ⟨M, hM⟩ : ∃ M, textsG FP ST C = M := ⟨_, rfl⟩
        have HM := Lib.hid hM
        have HM2 : Hid (textsG FP TSx C = M) := by rw [← HM.out]; exact HOT.out C hcb
        have HMN : Hid (M.length ≤ 32) := by rw [← HM.out]; exact textsG_len HG.out C
        clear hM hcb
        go_upto_region 15 with (fail)
        have HQf : Hid (∀ W, Up w11 W → Calls Try.prog 12 #[.agg #[.slice oxa nxa cxa, .slice oxb nxb cxb], .string (bs B)] W (TxO L W)) := fun W hW => by have h9 := TxO.of (texts_any _ TSx B W (HBx.out.up hW).st HGx.out); rwa [HTX.out] at h9
        unfold TxO at HQf
        have HQh : Hid (∀ W, Up w11 W → Calls Try.prog 12 #[.agg #[.slice osa nsa csa, .slice osb nsb csb], .string (bs A)] W (TxO L W)) := fun W hW => by have h9 := TxO.of (texts_any _ ST A W (HBs.out.up hW).st HG.out); rwa [HL.out] at h9
        unfold TxO at HQh
        have HQp : Hid (∀ W, Up w11 W → Calls Try.prog 12 #[.agg #[.slice oxa nxa cxa, .slice oxb nxb cxb], .string (bs C)] W (TxO M W)) := fun W hW => by have h9 := TxO.of (texts_any _ TSx C W (HBx.out.up hW).st HGx.out); rwa [HM2.out] at h9
        unfold TxO at HQp
        have HQq : Hid (∀ W, Up w11 W → Calls Try.prog 12 #[.agg #[.slice osa nsa csa, .slice osb nsb csb], .string (bs C)] W (TxO M W)) := fun W hW => by have h9 := TxO.of (texts_any _ ST C W (HBs.out.up hW).st HG.out); rwa [HM.out] at h9
        unfold TxO at HQq
        have HE0 : Hid (∀ v1 v2 W, Txs W v1 L → Txs W v2 L → Calls Try.prog 11 #[v1, v2] W fun e w' => e = .returned (.bool true) ∧ Up W w') := fun v1 v2 W h1 h2 => equalT_same v1 v2 L L W (HLN.out) h1 h2 rfl
        have HE1 : Hid (∀ v1 v2 W, Txs W v1 M → Txs W v2 M → Calls Try.prog 11 #[v1, v2] W fun e w' => e = .returned (.bool true) ∧ Up W w') := fun v1 v2 W h1 h2 => equalT_same v1 v2 M M W (HMN.out) h1 h2 rfl
        have kx0 := HBx.out.k0
        have kx1 := HBx.out.k1
        have ks0 := HBs.out.k0
        have ks1 := HBs.out.k1
        go_cut [8] (fun p wx => p = .bool true ∧ Up w11 wx)
        case first =>
          go_region_held3 (fun U => U.cell? ⟨Xx, 0, none⟩ = some (.slice oxa nxa cxa) ∧ U.cell? ⟨Xx, 1, none⟩ = some (.slice oxb nxb cxb) ∧ U.cell? ⟨Xs, 0, none⟩ = some (.slice osa nsa csa) ∧ U.cell? ⟨Xs, 1, none⟩ = some (.slice osb nsb csb)) (go_keep) (first
            | (go_at_call 12; ((with_reducible refine (HQf.out _ (by first | exact ux | exact Up.drew _ | exact Up.refl _)).mono ?_); rintro e wz ⟨of, cf, rfl, tf, uz⟩; have uy : Up w11 wz := (by first | exact ux.trans uz | exact (Up.drew _).trans uz | exact uz); (first | (have tf := Txs.up tf uz) | skip); (first | (have th := Txs.up th uz) | skip); (first | (have tp := Txs.up tp uz) | skip); (first | (have tq := Txs.up tq uz) | skip); clear uz; have ux : Up w11 wz := uy; clear uy; have sx0 := (HBx.out.up ux).k0; have sx1 := (HBx.out.up ux).k1; have ss0 := (HBs.out.up ux).k0; have ss1 := (HBs.out.up ux).k1))
            | (go_at_call 12; ((with_reducible refine (HQh.out _ (by first | exact ux | exact Up.drew _ | exact Up.refl _)).mono ?_); rintro e wz ⟨oh, ch, rfl, th, uz⟩; have uy : Up w11 wz := (by first | exact ux.trans uz | exact (Up.drew _).trans uz | exact uz); (first | (have tf := Txs.up tf uz) | skip); (first | (have th := Txs.up th uz) | skip); (first | (have tp := Txs.up tp uz) | skip); (first | (have tq := Txs.up tq uz) | skip); clear uz; have ux : Up w11 wz := uy; clear uy; have sx0 := (HBx.out.up ux).k0; have sx1 := (HBx.out.up ux).k1; have ss0 := (HBs.out.up ux).k0; have ss1 := (HBs.out.up ux).k1))
            | (go_at_call 12; ((with_reducible refine (HQp.out _ (by first | exact ux | exact Up.drew _ | exact Up.refl _)).mono ?_); rintro e wz ⟨op, cp, rfl, tp, uz⟩; have uy : Up w11 wz := (by first | exact ux.trans uz | exact (Up.drew _).trans uz | exact uz); (first | (have tf := Txs.up tf uz) | skip); (first | (have th := Txs.up th uz) | skip); (first | (have tp := Txs.up tp uz) | skip); (first | (have tq := Txs.up tq uz) | skip); clear uz; have ux : Up w11 wz := uy; clear uy; have sx0 := (HBx.out.up ux).k0; have sx1 := (HBx.out.up ux).k1; have ss0 := (HBs.out.up ux).k0; have ss1 := (HBs.out.up ux).k1))
            | (go_at_call 12; ((with_reducible refine (HQq.out _ (by first | exact ux | exact Up.drew _ | exact Up.refl _)).mono ?_); rintro e wz ⟨oq, cq, rfl, tq, uz⟩; have uy : Up w11 wz := (by first | exact ux.trans uz | exact (Up.drew _).trans uz | exact uz); (first | (have tf := Txs.up tf uz) | skip); (first | (have th := Txs.up th uz) | skip); (first | (have tp := Txs.up tp uz) | skip); (first | (have tq := Txs.up tq uz) | skip); clear uz; have ux : Up w11 wz := uy; clear uy; have sx0 := (HBx.out.up ux).k0; have sx1 := (HBx.out.up ux).k1; have ss0 := (HBs.out.up ux).k0; have ss1 := (HBs.out.up ux).k1))
            | (go_at_call 11; ((with_reducible refine (HE0.out _ _ _ tf th).mono ?_); rintro e wz ⟨rfl, uz⟩; have uy : Up w11 wz := (by first | exact ux.trans uz | exact (Up.drew _).trans uz | exact uz); (first | (have tf := Txs.up tf uz) | skip); (first | (have th := Txs.up th uz) | skip); (first | (have tp := Txs.up tp uz) | skip); (first | (have tq := Txs.up tq uz) | skip); clear uz; have ux : Up w11 wz := uy; clear uy; have sx0 := (HBx.out.up ux).k0; have sx1 := (HBx.out.up ux).k1; have ss0 := (HBs.out.up ux).k0; have ss1 := (HBs.out.up ux).k1))
            | (go_at_call 11; ((with_reducible refine (HE1.out _ _ _ tp tq).mono ?_); rintro e wz ⟨rfl, uz⟩; have uy : Up w11 wz := (by first | exact ux.trans uz | exact (Up.drew _).trans uz | exact uz); (first | (have tf := Txs.up tf uz) | skip); (first | (have th := Txs.up th uz) | skip); (first | (have tp := Txs.up tp uz) | skip); (first | (have tq := Txs.up tq uz) | skip); clear uz; have ux : Up w11 wz := uy; clear uy; have sx0 := (HBx.out.up ux).k0; have sx1 := (HBx.out.up ux).k1; have ss0 := (HBs.out.up ux).k0; have ss1 := (HBs.out.up ux).k1))
            | (go_at_call 13; ((with_reducible refine (HVC.out _ (by first | exact ux | exact Up.drew _ | exact Up.refl _)).mono ?_); rintro e wz ⟨rfl, uz⟩; have uy : Up w11 wz := (by first | exact ux.trans uz | exact (Up.drew _).trans uz | exact uz); (first | (have tf := Txs.up tf uz) | skip); (first | (have th := Txs.up th uz) | skip); (first | (have tp := Txs.up tp uz) | skip); (first | (have tq := Txs.up tq uz) | skip); clear uz; have ux : Up w11 wz := uy; clear uy; have sx0 := (HBx.out.up ux).k0; have sx1 := (HBx.out.up ux).k1; have ss0 := (HBs.out.up ux).k0; have ss1 := (HBs.out.up ux).k1)))
          all_goals
            go_wp2_with fail
            go_meet
            exact ⟨rfl, ux⟩
        case rest =>
          clear kx0 kx1 ks0 ks1
          obtain ⟨rfl, hu⟩ := hcut
          obtain ⟨W13, hW⟩ : ∃ W, W = wc := ⟨_, rfl⟩
          subst hW
          clear HQf HQh HQp HQq HE0 HE1
          replace HBs := Lib.hid (HBs.out.up hu)
          replace HBx := Lib.hid (HBx.out.up hu)
          replace HIi := Lib.hid (HIi.out.up hu)
          replace HU := Lib.hid (HU.out.trans hu)
          clear hu
          go_wp2_with fail
          go_ret
          exact ⟨rfl, HU.out⟩
    · skip
      have hq : (Ei == 0) = false := by rw [beq_eq_false_iff_ne]; exact hE
      have hl0 : LI = 0 := by rw [← HLI.out, HER.out hE]; rfl
      subst hl0
      clear HLW HER hE
      go_wp2_with fail
      go_ret
      exact ⟨rfl, HU.out⟩

end Go.Proofs.Ytnmdfdkagkpcaaa
