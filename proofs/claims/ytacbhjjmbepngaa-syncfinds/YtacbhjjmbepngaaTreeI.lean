/-
  What leafClash and Clash of package tree return. Conditions: as each says.
-/
import Derived.Test.YtacbhjjmbepngaaTreeG
import Derived.Test.YtacbhjjmbepngaaTreeH
namespace Go.Proofs.Ytacbhjjmbepngaa
open Go.RowKit
open Go.Proofs
open WoolTree

theorem lvs_length_eq : ∀ (k : Nat) (A B : List Nat), A.length = B.length → (lvs TH k A).length = (lvs TH k B).length
  | 0, _, _, _ => rfl
  | k + 1, A, B, h => by
    rw [lvs, lvs, List.length_cons, List.length_cons, h]
    by_cases h1 : B.length ≤ 1
    · rw [if_pos h1, if_pos h1]
    · rw [if_neg h1, if_neg h1, lvs_length_eq k (ab TH A) (ab TH B) (by rw [ab_length, ab_length, h])]

theorem pck_pci (A B : List Nat) (h : A.length = B.length) : ∀ k, k ≤ (lvs TH 5 A).length → pck (lvs TH 5 A) (lvs TH 5 B) k = pci TH A B k
  | 0, _ => rfl
  | k + 1, hk => by
    have hB := lvs_length_eq 5 A B h
    have ih := pck_pci A B h k (by omega)
    have e1 : (lvs TH 5 A).getD k [] = it TH k A := by rw [List.getD_eq_getElem?_getD, List.getElem?_eq_getElem (by omega), lvs_get]; rfl
    have e2 : (lvs TH 5 B).getD k [] = it TH k B := by rw [List.getD_eq_getElem?_getD, List.getElem?_eq_getElem (by omega), lvs_get]; rfl
    rw [pck, pci, e1, e2, ih]
    cases pc (it TH k A) (it TH k B) <;> rfl

theorem it_short : ∀ (k : Nat) (A : List Nat), A.length ≤ 32 → (it TH k A).length ≤ 32
  | 0, _, h => h
  | k + 1, A, h => it_short k _ (by rw [ab_length]; omega)

theorem TH_lt32 (s : List UInt8) : TH s < 4294967296 := by have := TH_lt s; omega

theorem pairs_ok (A B : List Nat) (h : A.length = B.length) (h32 : A.length ≤ 32) (hA : ∀ x ∈ A, x < 4294967296) (hB : ∀ x ∈ B, x < 4294967296) (k : Nat) (hk : k < (lvs TH 5 A).length) :
    ((lvs TH 5 A).getD k []).length = ((lvs TH 5 B).getD k []).length ∧ ((lvs TH 5 A).getD k []).length ≤ 32 ∧ (∀ x ∈ (lvs TH 5 A).getD k [], x < 4294967296) ∧ ∀ x ∈ (lvs TH 5 B).getD k [], x < 4294967296 := by
  have hBl := lvs_length_eq 5 A B h
  have e1 : (lvs TH 5 A).getD k [] = it TH k A := by rw [List.getD_eq_getElem?_getD, List.getElem?_eq_getElem (by omega), lvs_get]; rfl
  have e2 : (lvs TH 5 B).getD k [] = it TH k B := by rw [List.getD_eq_getElem?_getD, List.getElem?_eq_getElem (by omega), lvs_get]; rfl
  rw [e1, e2]
  exact ⟨it_length_eq TH k A B h, it_short k A h32, it_bound TH _ TH_lt32 k A hA, it_bound TH _ TH_lt32 k B hB⟩

def LcRel (a b : List (List UInt8)) (n : Nat) (w : World) (i : Value) (wr : World) : Prop :=
  ∃ I : Nat, I < n ∧ i = .int .i64 (I : Int) ∧ fd a b = fd (a.drop I) (b.drop I) ∧ a.drop I ≠ b.drop I ∧ Up w wr

set_option maxRecDepth 100000 in
set_option maxHeartbeats 2000000 in
theorem leafClash_any (v1 v2 : Value) (a b : List (List UInt8)) (p q : List UInt8) (w : World) (h1 : Txs w v1 a) (h2 : Txs w v2 b) (hl : a.length = b.length) (h32 : a.length ≤ 32) (hf : fd a b = some (p, q)) (hne : a ≠ b) (hs : ∀ t ∈ a, t.length ≤ 64) (hs' : ∀ t ∈ b, t.length ≤ 64) :
    Calls Try.prog 51 #[v1, v2] w fun e w' => e = .returned (.tuple #[.string (bs p), .string (bs q)]) ∧ Up w w' := by
  have H1 := Lib.hid h1
  have H2 := Lib.hid h2
  have h0 : 0 < a.length := by
    apply Nat.pos_of_ne_zero
    intro h0
    have e1 := List.eq_nil_of_length_eq_zero h0
    have e2 := List.eq_nil_of_length_eq_zero (hl ▸ h0)
    exact hne (by rw [e1, e2])
  obtain ⟨o1, c1, rfl, _, _⟩ := h1.slice
  obtain ⟨o2, c2, rfl, _, _⟩ := h2.slice
  obtain ⟨n, hn⟩ : ∃ n, a.length = n := ⟨_, rfl⟩
  have hm : b.length = n := by omega
  have HN := Lib.hid hn
  have HM := Lib.hid hm
  have HS := Lib.hid hs
  have HS' := Lib.hid hs'
  have HF := Lib.hid hf
  have HNE := Lib.hid hne
  rw [hn] at H1 h0 h32 ⊢
  rw [hm] at H2 ⊢
  clear h1 h2 hl hn hm hs hs' hf hne
  go_enter Try.func51, Try.ntmps51
  go_wp2_with fail
  go_loopw [6] (fun i wr => LcRel a b n w i wr) (fun i _ => n - (intOf i).toNat)
  case atStart => exact ⟨0, h0, rfl, rfl, HNE.out, Up.refl w⟩
  case round =>
    obtain ⟨I, hI, rfl, hfd, hned, hu⟩ := hrel
    have HU := Lib.hid hu
    have hk1 : I < a.length := by rw [HN.out]; exact hI
    have hk2 : I < b.length := by rw [HM.out]; exact hI
    obtain ⟨b1, f1, rfl, g1⟩ := (H1.out.up hu).at (fun e => by rw [e] at hk1; simp at hk1)
    obtain ⟨b2, f2, rfl, g2⟩ := (H2.out.up hu).at (fun e => by rw [e] at hk2; simp at hk2)
    have a1 := g1 I hk1
    have a2 := g2 I hk2
    have t1 := HS.out _ (List.getElem_mem hk1)
    have t2 := HS'.out _ (List.getElem_mem hk2)
    have qq := txt_eqT a[I] b[I]
    rw [List.drop_eq_getElem_cons hk1, List.drop_eq_getElem_cons hk2] at hned hfd
    rw [fd, HF.out] at hfd
    generalize a[I] = x at *
    generalize b[I] = y at *
    by_cases hxy : x = y
    · subst hxy
      rw [if_pos rfl] at hfd
      have hne2 : a.drop (I + 1) ≠ b.drop (I + 1) := fun e => hned (by rw [e])
      have hI1 : I + 1 < n := by
        apply Nat.lt_of_not_le
        intro hle
        exact hne2 (by rw [List.drop_of_length_le (by rw [HN.out]; exact hle), List.drop_of_length_le (by rw [HM.out]; exact hle)])
      have HFD := Lib.hid hfd
      have HN2 := Lib.hid hne2
      have heq : ((bs x).toList == (bs x).toList) = true := by simp
      clear g1 g2 hu hfd hned hne2 qq
      go_wp2_with fail
      go_quiet (fail)
      go_wp2_with fail
      go_roundw
      case rel => exact ⟨I + 1, hI1, by go_num, by rw [HF.out]; exact HFD.out, HN2.out, HU.out.trans (Up.drewN _ _)⟩
      case measure => simp only [intOf]; omega
    · rw [if_neg hxy] at hfd
      simp only [Option.some.injEq, Prod.mk.injEq] at hfd
      obtain ⟨rfl, rfl⟩ := hfd
      have heq : ((bs x).toList == (bs y).toList) = false := by rw [qq, beq_eq_false_iff_ne]; exact hxy
      have HLX := Lib.hid (fun W => leaf_any x W (by omega))
      have HLY := Lib.hid (fun W => leaf_any y W (by omega))
      have HCX := Lib.hid (fun W => clone_str (bs (lf x)) W (by rw [bs_size]; unfold lf; rw [List.length_cons]; omega))
      have HCY := Lib.hid (fun W => clone_str (bs (lf y)) W (by rw [bs_size]; unfold lf; rw [List.length_cons]; omega))
      clear g1 g2 hu hned qq hxy
      go_wp2_with fail
      go_quiet (fail)
      go_wp2_with fail
      have c1' := ((Up.drewN wr nq).cell (World.block_lt_of_cell? wr _ a1)).trans a1
      have c2' := ((Up.drewN wr nq).cell (World.block_lt_of_cell? wr _ a2)).trans a2
      have HU1 := Lib.hid (HU.out.trans (Up.drewN wr nq))
      generalize wr.drewN nq = W at c1' c2' HU1 ⊢
      have j1 : (0 : Int) ≤ (I : Int) := by omega
      have j2 : (I : Int) < (n : Int) := by omega
      clear a1 a2
      go_region_held3 (fun U => U.cell? ⟨b1, f1 + I, none⟩ = some (.string (bs x)) ∧ U.cell? ⟨b2, f2 + I, none⟩ = some (.string (bs y))) (go_keep) (first
        | (go_at_call 45; ((with_reducible refine (HLX.out _).mono ?_); rintro e w4 ⟨rfl, rfl⟩))
        | (go_at_call 45; ((with_reducible refine (HLY.out _).mono ?_); rintro e w4 ⟨rfl, rfl⟩))
        | (go_at_call 60; ((with_reducible refine (HCX.out _).mono ?_); rintro e w5 ⟨rfl, u5⟩; have ua : Up W w5 := (by first | exact ub.trans u5 | exact (Up.drew _).trans u5); have a1 := (ua.cell (World.block_lt_of_cell? W _ c1')).trans c1'; have a2 := (ua.cell (World.block_lt_of_cell? W _ c2')).trans c2'))
        | (go_at_call 60; ((with_reducible refine (HCY.out _).mono ?_); rintro e w6 ⟨rfl, u6⟩; have ub : Up W w6 := (by first | exact ua.trans u6 | exact (Up.drew _).trans u6); have d1 := (ub.cell (World.block_lt_of_cell? W _ c1')).trans c1'; have d2 := (ub.cell (World.block_lt_of_cell? W _ c2')).trans c2')))
      all_goals
        have HUU := Lib.hid (show Up w _ from by first | exact HU1.out.trans ((Up.drew _).trans (u5.trans u6)) | exact HU1.out.trans ((Up.drew _).trans (u6.trans u5)))
        go_wp2_with fail
        go_ret2
        exact ⟨rfl, HUU.out⟩

/-! ytacbhjjmbepngaa# Clash -/

def clE (a b : List (List UInt8)) : Int := if cpE a b ≠ 0 then cpE a b else if ((a == b) || ((rtx TH a : Int) != (rtx TH b : Int))) = true then 4 else 0
def clV (a b : List (List UInt8)) : List UInt8 × List UInt8 := if clE a b = 0 then clash TH a b else ([], [])
def clR (a b : List (List UInt8)) : Value := .tuple #[.string (bs (clV a b).1), .string (bs (clV a b).2), .int .i64 (clE a b)]

set_option maxRecDepth 100000 in
set_option maxHeartbeats 2000000 in
theorem clash_any (v1 v2 : Value) (a b : List (List UInt8)) (w : World) (h1 : Txs w v1 a) (h2 : Txs w v2 b) :
    Calls Try.prog 25 #[v1, v2] w fun e w' => e = .returned (clR a b) ∧ Up w w' := by
  have HC1 := Lib.hid (fun W (hW : Up w W) => checkT_any v1 a W (h1.up hW))
  have HC2 := Lib.hid (fun W (hW : Up w W) => checkT_any v2 b W (h2.up hW))
  have H1 := Lib.hid h1
  have H2 := Lib.hid h2
  obtain ⟨o1, c1, rfl, _, _⟩ := h1.slice
  obtain ⟨o2, c2, rfl, _, _⟩ := h2.slice
  by_cases ha : chkT a = 0
  · by_cases hb : chkT b = 0
    · by_cases hl : a.length = b.length
      · have hcE : cpE a b = 0 := by unfold cpE; rw [if_neg (by rw [ha]; simp), if_neg (by rw [hb]; simp), if_neg (by omega)]
        obtain ⟨a0, a32, sa⟩ := chkT_ok ha
        obtain ⟨b0, b32, sb⟩ := chkT_ok hb
        rw [ha] at HC1
        rw [hb] at HC2
        have HL1 := Lib.hid (fun W (hW : Up w W) => levels_any _ a W (H1.out.up hW) a0 a32 sa)
        have HL2 := Lib.hid (fun W (hW : Up w W) => levels_any _ b W (H2.out.up hW) b0 b32 sb)
        unfold LvPost at HL1 HL2
        have HEQ := Lib.hid (fun W (hW : Up w W) => equalT_any _ _ a b W (by omega) (H1.out.up hW) (H2.out.up hW))
        have HLA := Lib.hid (fun W v base (hl : Lvs W base v (lvs TH 5 (lh TH a))) => lastT_any v base _ W hl (by rw [lh_length]; exact a0) (by rw [lh_length]; exact a32))
        have HLB := Lib.hid (fun W v base (hl : Lvs W base v (lvs TH 5 (lh TH b))) => lastT_any v base _ W hl (by rw [lh_length]; exact b0) (by rw [lh_length]; exact b32))
        change Hid (∀ W v base, Lvs W base v (lvs TH 5 (lh TH a)) → Calls Try.prog 36 #[v] W fun e w' => e = .returned (.int .i64 ((rtx TH a : Nat) : Int)) ∧ W = w') at HLA
        change Hid (∀ W v base, Lvs W base v (lvs TH 5 (lh TH b)) → Calls Try.prog 36 #[v] W fun e w' => e = .returned (.int .i64 ((rtx TH b : Nat) : Int)) ∧ W = w') at HLB
        have hlab : (lh TH a).length = (lh TH b).length := by rw [lh_length, lh_length, hl]
        have hpk : pck (lvs TH 5 (lh TH a)) (lvs TH 5 (lh TH b)) (lvs TH 5 (lh TH a)).length = pci TH (lh TH a) (lh TH b) 5 := by
          rw [pck_pci _ _ hlab _ (Nat.le_refl _), pci_lvs TH _ _ (by rw [lh_length]; exact a0) (by rw [lh_length]; exact a32)]
        have HPK := Lib.hid (fun W x y base base' (hx : Lvs W base x (lvs TH 5 (lh TH a))) (hy : Lvs W base' y (lvs TH 5 (lh TH b))) => pairClash_any x y base base' _ _ W hx hy (lvs_length_eq 5 _ _ hlab) (lvs_pos TH 5 _) (lvs_len TH 5 _) (pairs_ok _ _ hlab (by rw [lh_length]; exact a32) (lh_bound TH _ TH_lt32 a) (lh_bound TH _ TH_lt32 b)))
        rw [hpk] at HPK
        have hce : clE a b = if ((a == b) || ((rtx TH a : Int) != (rtx TH b : Int))) = true then 4 else 0 := by unfold clE; rw [if_neg (by rw [hcE]; simp)]
        have HLC := Lib.hid (fun W p q (hW : Up w W) (hf : fd a b = some (p, q)) (hne : a ≠ b) => leafClash_any _ _ a b p q W (H1.out.up hW) (H2.out.up hW) hl a32 hf hne sa sb)
        obtain ⟨eq, heq⟩ : ∃ q, (a == b) = q := ⟨_, rfl⟩
        obtain ⟨ne, hne⟩ : ∃ q, ((rtx TH a : Int) != (rtx TH b : Int)) = q := ⟨_, rfl⟩
        have hcv : eq = false → ne = false → clV a b = clash TH a b ∧ clE a b = 0 := by
          intro h1 h2
          have h3 : clE a b = 0 := by rw [hce, heq, hne, h1, h2]; rfl
          exact ⟨by unfold clV; rw [if_pos h3], h3⟩
        have hcn : (eq || ne) = true → clR a b = .tuple #[.string (bs []), .string (bs []), .int .i64 4] := by
          intro h1
          have h3 : clE a b = 4 := by rw [hce, heq, hne, h1]; rfl
          unfold clR clV
          rw [h3]
          rfl
        have HCV := Lib.hid hcv
        have HCN := Lib.hid hcn
        have HAB : Hid (eq = false → a ≠ b) := fun h e => by rw [e, beq_self_eq_true] at heq; rw [h] at heq; cases heq
        have HRR : Hid (eq = false → ne = false → pci TH (lh TH a) (lh TH b) 5 = none → ∃ p q, fd a b = some (p, q)) := by
          intro _ h2 h3
          cases hf : fd a b with
          | some r => exact ⟨r.1, r.2, rfl⟩
          | none => exact absurd (fd_none a b hl hf) (HAB.out ‹_›)
        rw [heq] at HEQ
        rw [← hl] at HL2 HC2 HEQ HLC ⊢
        have HCL : Hid (clash TH a b = match pci TH (lh TH a) (lh TH b) 5 with | some r => r | none => match fd a b with | some r => r | none => ([], [])) := rfl
        have hp1 := lvs_pos TH 5 (lh TH a)
        have hl2 := lvs_length_eq 5 _ _ hlab
        generalize rtx TH a = RA at *
        generalize rtx TH b = RB at *
        generalize pci TH (lh TH a) (lh TH b) 5 = PC at *
        generalize lvs TH 5 (lh TH a) = LA at *
        generalize lvs TH 5 (lh TH b) = LB at *
        clear hp1 hl2
        generalize a.length = m at *
        have dm : ((m : Int) != (m : Int)) = false := by simp
        clear h1 h2 H1 H2 ha hb sa sb hlab hpk hce heq hcv hcn hcE hl
        go_enter Try.func25, Try.ntmps25
        go_wp2_with fail
        refine (HC1.out _ (Up.refl _)).mono ?_
        rintro e w1 ⟨rfl, u1⟩
        have HU1 := Lib.hid u1
        clear u1
        go_wp2_with fail
        refine (HC2.out _ HU1.out).mono ?_
        rintro e w2 ⟨rfl, u2⟩
        have HU2 := Lib.hid (HU1.out.trans u2)
        clear u2
        go_wp2_with fail
        refine (HL1.out _ HU2.out).mono ?_
        rintro e w3 ⟨v3, rfl, hl3, u3⟩
        obtain ⟨o3, c3, hv3, _, _⟩ := hl3.slice
        subst hv3
        have HL3 := Lib.hid hl3
        have HU3 := Lib.hid (HU2.out.trans u3)
        clear hl3 u3
        go_wp2_with fail
        refine (HL2.out _ HU3.out).mono ?_
        rintro e w4 ⟨v4, rfl, hl4, u4⟩
        obtain ⟨o4, c4, hv4, _, _⟩ := hl4.slice
        subst hv4
        have HL4 := Lib.hid hl4
        have HL34 := Lib.hid (HL3.out.up u4)
        have HU4 := Lib.hid (HU3.out.trans u4)
        clear hl4 u4 HL3
        go_wp2_with fail
        refine (HEQ.out _ HU4.out).mono ?_
        rintro e w5 ⟨rfl, u5⟩
        have HX5 := Lib.hid (HL34.out.up u5)
        have HY5 := Lib.hid (HL4.out.up u5)
        have HU5 := Lib.hid (HU4.out.trans u5)
        clear u5 HL34 HL4
        cases eq with
        | true =>
          have HR := HCN.out rfl
          have HRR' := Lib.hid HR
          clear HR
          go_wp2_with fail
          exact bodyPost_ret (v := .tuple #[.string (bs []), .string (bs []), .int .i64 4]) (by simp [results, Try.results25, go_sem, bs]) rfl ⟨by rw [HRR'.out], HU5.out⟩
        | false =>
          cases ne with
          | true =>
            have HR := HCN.out rfl
            have HRR' := Lib.hid HR
            clear HR
            go_wp2_with fail
            refine (HLA.out _ _ _ HX5.out).mono ?_
            rintro e w6 ⟨rfl, rfl⟩
            go_wp2_with fail
            refine (HLB.out _ _ _ HY5.out).mono ?_
            rintro e w6 ⟨rfl, rfl⟩
            go_wp2_with fail
            exact bodyPost_ret (v := .tuple #[.string (bs []), .string (bs []), .int .i64 4]) (by simp [results, Try.results25, go_sem, bs]) rfl ⟨by rw [HRR'.out], HU5.out⟩
          | false =>
            obtain ⟨k1, k2⟩ := HCV.out rfl rfl
            have HK : Hid (clR a b = .tuple #[.string (bs (clash TH a b).1), .string (bs (clash TH a b).2), .int .i64 0]) := by
              show _ = _
              unfold clR
              rw [k1, k2]
            have HFD := HRR.out rfl rfl
            have HAN := HAB.out rfl
            rw [HCL.out] at HK
            clear k1 k2 HCV HCN HRR HAB HCL
            cases PC with
            | some r =>
              obtain ⟨r1, r2⟩ := r
              simp only at HK
              change Hid (∀ W x y base base', Lvs W base x LA → Lvs W base' y LB → Calls Try.prog 50 #[x, y] W fun e w' => e = .returned (.tuple #[.string (bs r1), .string (bs r2), .bool true]) ∧ Up W w') at HPK
              clear HFD HAN
              go_wp2_with fail
              refine (HLA.out _ _ _ HX5.out).mono ?_
              rintro e w6 ⟨rfl, rfl⟩
              go_wp2_with fail
              refine (HLB.out _ _ _ HY5.out).mono ?_
              rintro e w6 ⟨rfl, rfl⟩
              go_wp2_with fail
              refine (HPK.out _ _ _ _ _ HX5.out HY5.out).mono ?_
              rintro e w6 ⟨rfl, u6⟩
              go_wp2_with fail
              exact bodyPost_ret (v := .tuple #[.string (bs r1), .string (bs r2), .int .i64 0]) (by simp [results, Try.results25, go_sem]) rfl ⟨by rw [HK.out], HU5.out.trans u6⟩
            | none =>
              obtain ⟨p, q, hf⟩ := HFD rfl
              rw [hf] at HK
              simp only at HK
              have HLC2 := Lib.hid (fun W (hW : Up w W) => HLC.out W p q hW hf HAN)
              change Hid (∀ W x y base base', Lvs W base x LA → Lvs W base' y LB → Calls Try.prog 50 #[x, y] W fun e w' => e = .returned (.tuple #[.string (bs []), .string (bs []), .bool false]) ∧ Up W w') at HPK
              clear HFD HAN hf HLC
              go_wp2_with fail
              refine (HLA.out _ _ _ HX5.out).mono ?_
              rintro e w6 ⟨rfl, rfl⟩
              go_wp2_with fail
              refine (HLB.out _ _ _ HY5.out).mono ?_
              rintro e w6 ⟨rfl, rfl⟩
              go_wp2_with fail
              refine (HPK.out _ _ _ _ _ HX5.out HY5.out).mono ?_
              rintro e w6 ⟨rfl, u6⟩
              have HU6 := Lib.hid (HU5.out.trans u6)
              clear u6
              go_wp2_with fail
              refine (HLC2.out _ HU6.out).mono ?_
              rintro e w7 ⟨rfl, u7⟩
              go_wp2_with fail
              exact bodyPost_ret (v := .tuple #[.string (bs p), .string (bs q), .int .i64 0]) (by simp [results, Try.results25, go_sem]) rfl ⟨by rw [HK.out], HU6.out.trans u7⟩
      · have hcp : cpE a b = 11 := by unfold cpE; rw [if_neg (by rw [ha]; simp), if_neg (by rw [hb]; simp), if_pos hl]
        have hce : clE a b = 11 := by unfold clE; rw [hcp]; rfl
        have hcv : clR a b = .tuple #[.string (bs []), .string (bs []), .int .i64 11] := by
          unfold clR clV
          rw [hce]
          rfl
        rw [hcv]
        have dm : ((a.length : Int) != (b.length : Int)) = true := by rw [bne_iff_ne]; omega
        rw [ha] at HC1
        rw [hb] at HC2
        generalize a.length = m at *
        generalize b.length = n at *
        clear h1 h2 H1 H2 ha hb hl hcp hce hcv
        go_enter Try.func25, Try.ntmps25
        go_wp2_with fail
        refine (HC1.out _ (Up.refl _)).mono ?_
        rintro e w1 ⟨rfl, u1⟩
        have HU1 := Lib.hid u1
        clear u1
        go_wp2_with fail
        refine (HC2.out _ HU1.out).mono ?_
        rintro e w2 ⟨rfl, u2⟩
        have HU2 := Lib.hid (HU1.out.trans u2)
        clear u2
        go_wp2_with fail
        exact bodyPost_ret (v := .tuple #[.string (bs []), .string (bs []), .int .i64 11]) (by simp [results, Try.results25, go_sem, bs]) rfl ⟨rfl, HU2.out⟩
    · have hcp : cpE a b = chkT b := by unfold cpE; rw [if_neg (by rw [ha]; simp), if_pos hb]
      have hce : clE a b = chkT b := by unfold clE; rw [hcp, if_pos hb]
      have hcv : clR a b = .tuple #[.string (bs []), .string (bs []), .int .i64 (chkT b)] := by
        unfold clR clV
        rw [hce, if_neg hb]
      rw [hcv]
      have hne : (chkT b != 0) = true := by rw [bne_iff_ne]; exact hb
      rw [ha] at HC1
      generalize chkT b = E at *
      generalize a.length = m at *
      generalize b.length = n at *
      clear h1 h2 H1 H2 ha hb hcp hce hcv
      go_enter Try.func25, Try.ntmps25
      go_wp2_with fail
      refine (HC1.out _ (Up.refl _)).mono ?_
      rintro e w1 ⟨rfl, u1⟩
      have HU1 := Lib.hid u1
      clear u1
      go_wp2_with fail
      refine (HC2.out _ HU1.out).mono ?_
      rintro e w2 ⟨rfl, u2⟩
      have HU2 := Lib.hid (HU1.out.trans u2)
      clear u2
      go_wp2_with fail
      exact bodyPost_ret (v := .tuple #[.string (bs []), .string (bs []), .int .i64 E]) (by simp [results, Try.results25, go_sem, bs]) rfl ⟨rfl, HU2.out⟩
  · have hcp : cpE a b = chkT a := by unfold cpE; rw [if_pos ha]
    have hce : clE a b = chkT a := by unfold clE; rw [hcp, if_pos ha]
    have hcv : clR a b = .tuple #[.string (bs []), .string (bs []), .int .i64 (chkT a)] := by
      unfold clR clV
      rw [hce, if_neg ha]
    rw [hcv]
    have hne : (chkT a != 0) = true := by rw [bne_iff_ne]; exact ha
    generalize chkT a = E at *
    generalize a.length = m at *
    generalize b.length = n at *
    clear h1 h2 H1 H2 ha hcp hce hcv
    go_enter Try.func25, Try.ntmps25
    go_wp2_with fail
    refine (HC1.out _ (Up.refl _)).mono ?_
    rintro e w1 ⟨rfl, u1⟩
    have HU1 := Lib.hid u1
    clear u1
    go_wp2_with fail
    exact bodyPost_ret (v := .tuple #[.string (bs []), .string (bs []), .int .i64 E]) (by simp [results, Try.results25, go_sem, bs]) rfl ⟨rfl, HU1.out⟩

end Go.Proofs.Ytacbhjjmbepngaa
