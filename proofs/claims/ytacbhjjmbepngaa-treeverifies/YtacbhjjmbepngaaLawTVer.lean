/-
  The law TreeVerifies, walked: for all numbers, every text and all steps the Go text returns true; nothing that was there turns. Conditions: as each says.
-/
import Derived.Test.YtacbhjjmbepngaaRefTree2
import Derived.Test.YtacbhjjmbepngaaTreeE
namespace Go.Proofs.Ytacbhjjmbepngaa
open Go.RowKit
open Go.Proofs
open WoolTree

theorem vs_len : ∀ (t : List Bool) (x : Nat) (p : List (Bool × Int)) (r : Int), t.length ≠ p.length → vs TH t x p r = false := fun t x p r h => by
  cases hv : vs TH t x p r with
  | false => rfl
  | true => exact absurd (vs_length TH t x p r hv) h

theorem OBs.at {w : World} {base n c : Nat} {o : Option Addr} {l : List Bool} (h : OBs w base (.slice o n c) l) (k : Nat) (hk : k < l.length) : ∃ g, o = some ⟨g, 0, none⟩ ∧ n = l.length ∧ l.length ≤ c ∧ c ≤ maxLen ∧ w.cell? ⟨g, k, none⟩ = some (.bool l[k]) := by
  rcases own_row h with ⟨_, h0, _⟩ | ⟨g, cap, sp, e, hb, hr, h3, h4, h5⟩
  · omega
  · simp only [Value.slice.injEq] at e
    obtain ⟨rfl, rfl, rfl⟩ := e
    refine ⟨g, rfl, rfl, h3, h4, hr.cell ?_⟩
    rw [List.getElem?_append_left (by rw [boL_length]; exact hk)]
    simp [boL, hk]

theorem OBs.slice {w : World} {base : Nat} {v : Value} {l : List Bool} (h : OBs w base v l) : ∃ o c, v = .slice o l.length c := by
  obtain ⟨o, c, e, _, _⟩ := Sl.slice (Sl.of_own h)
  exact ⟨o, c, e⟩

structure VfI (S : List Bool) (P : List (Bool × Int)) (r : Int) (V : Bool) (w : World) (vs' : Value) (k X : Nat) (wr : World) : Prop where
  le : k ≤ P.length
  lt : X < 4294967296
  eq : vs TH (S.drop k) X (P.drop k) r = V
  own : OBs wr w.heap.size vs' S
  up : Up w wr

structure VfJ (S : List Bool) (P : List (Bool × Int)) (r : Int) (V : Bool) (w : World) (vs' : Value) (b : Bool) (k X : Nat) (wr : World) : Prop where
  yes : b = true → S.length = P.length ∧ VfI S P r V w vs' k X wr
  no : b = false → V = false
  up : Up w wr

def VfRel (S : List Bool) (P : List (Bool × Int)) (r : Int) (V : Bool) (w : World) (vs' : Value) (ok p i : Value) (wr : World) : Prop :=
  ∃ (b : Bool) (k X : Nat), ok = .bool b ∧ p = .int .i64 (X : Int) ∧ i = .int .i64 (k : Int) ∧ VfJ S P r V w vs' b k X wr

set_option maxRecDepth 100000 in
set_option maxHeartbeats 4000000 in
theorem treeVer_core (r n i : Int) (s : List UInt8) (a4 : Option Addr) (len4 cap4 : Nat) (z4 : List (Bool × Int)) (w : World) (w4 : Stps w (.slice a4 len4 cap4) z4) :
    Calls Try.prog 4 #[.int .i64 r, .int .i64 n, .int .i64 i, .string (bs s), .slice a4 len4 cap4] w fun e w' => e = .returned (.bool true) ∧ Up w w' := by
  have HV := Lib.hid (fun W (hW : Up w W) => verify_any r n i s _ z4 W (w4.up hW))
  obtain ⟨hlen, hcap⟩ := w4.len
  have hsz := bs_size s
  have HW4 := Lib.hid w4
  by_cases ha : n < 1 ∨ 32 < n ∨ i < 0 ∨ n ≤ i
  · have he : verE n i s = 1 := if_pos ha
    have hv : verV r n i s z4 = false := by unfold verV; rw [he]; rfl
    rw [he, hv] at HV
    clear he hv w4 hlen
    by_cases h1 : n < 1
    · have d1 : decide (n < 1) = true := decide_eq_true h1
      clear ha
      go_enter Try.func4, Try.ntmps4
      go_wp2_with fail
      refine (HV.out _ (Up.refl _)).mono ?_
      rintro e w1 ⟨rfl, u1⟩
      go_wp2_with fail
      go_ret
      exact ⟨rfl, u1⟩
    · have d1 : decide (n < 1) = false := decide_eq_false h1
      by_cases h2 : 32 < n
      · have d2 : decide (32 < n) = true := decide_eq_true h2
        have d2' : decide (n > 32) = true := decide_eq_true h2
        clear ha
        go_enter Try.func4, Try.ntmps4
        go_wp2_with fail
        refine (HV.out _ (Up.refl _)).mono ?_
        rintro e w1 ⟨rfl, u1⟩
        go_wp2_with fail
        go_ret
        exact ⟨rfl, u1⟩
      · have d2 : decide (32 < n) = false := decide_eq_false h2
        have d2' : decide (n > 32) = false := decide_eq_false h2
        by_cases h3 : i < 0
        · have d3 : decide (i < 0) = true := decide_eq_true h3
          clear ha
          go_enter Try.func4, Try.ntmps4
          go_wp2_with fail
          refine (HV.out _ (Up.refl _)).mono ?_
          rintro e w1 ⟨rfl, u1⟩
          go_wp2_with fail
          go_ret
          exact ⟨rfl, u1⟩
        · have d3 : decide (i < 0) = false := decide_eq_false h3
          have d4 : decide (n ≤ i) = true := decide_eq_true (by omega)
          have d4' : decide (i ≥ n) = true := decide_eq_true (by omega)
          clear ha
          go_enter Try.func4, Try.ntmps4
          go_wp2_with fail
          refine (HV.out _ (Up.refl _)).mono ?_
          rintro e w1 ⟨rfl, u1⟩
          go_wp2_with fail
          go_ret
          exact ⟨rfl, u1⟩
  · obtain ⟨N, rfl⟩ := Int.eq_ofNat_of_zero_le (show 0 ≤ n by omega)
    obtain ⟨I, rfl⟩ := Int.eq_ofNat_of_zero_le (show 0 ≤ i by omega)
    have d1 : decide ((N : Int) < 1) = false := decide_eq_false (by omega)
    have d2 : decide ((N : Int) > 32) = false := decide_eq_false (by omega)
    have d2' : decide (32 < (N : Int)) = false := decide_eq_false (by omega)
    have d3 : decide ((I : Int) < 0) = false := decide_eq_false (by omega)
    have d4 : decide ((I : Int) ≥ (N : Int)) = false := decide_eq_false (by omega)
    have d4' : decide (N ≤ I) = false := decide_eq_false (by omega)
    by_cases hs : 64 < s.length
    · have he : verE (N : Int) (I : Int) s = 2 := by unfold verE; rw [if_neg ha, if_pos hs]
      have hv : verV r (N : Int) (I : Int) s z4 = false := by unfold verV; rw [he]; rfl
      rw [he, hv] at HV
      have d5 : decide ((s.length : Int) > 64) = true := decide_eq_true (by omega)
      have d5' : decide (64 < (s.length : Int)) = true := decide_eq_true (by omega)
      generalize s.length = sl at *
      clear he hv w4 hlen ha hs
      go_enter Try.func4, Try.ntmps4
      go_wp2_with fail
      refine (HV.out _ (Up.refl _)).mono ?_
      rintro e w1 ⟨rfl, u1⟩
      go_wp2_with fail
      go_ret
      exact ⟨rfl, u1⟩
    · have he : verE (N : Int) (I : Int) s = 0 := by unfold verE; rw [if_neg ha, if_neg hs]
      have hv : verV r (N : Int) (I : Int) s z4 = vs TH (sd 5 N I) (TH (lf s)) z4 r := by unfold verV; rw [he, if_pos rfl, Int.toNat_natCast, Int.toNat_natCast, vf_vs]
      rw [he, hv] at HV
      have d5 : decide ((s.length : Int) > 64) = false := decide_eq_false (by omega)
      have d5' : decide (64 < (s.length : Int)) = false := decide_eq_false (by omega)
      have HSD := Lib.hid (fun W => refSides_any N N I W (by omega) (Nat.le_refl _) (by omega))
      unfold SdPost at HSD
      have hadd : ∀ v : World, (Op.stringOp .add ⟨#[108]⟩ (bs s)).run Try.prog v = .ok (.string (bs (lf s))) v := add_bs [108] s (by simp; omega)
      have HPT := Lib.hid (fun W => refPrintT (lf s) W (by unfold lf; rw [List.length_cons]; omega))
      have hx := TH_lt (lf s)
      obtain ⟨V, hV⟩ : ∃ V, vs TH (sd 5 N I) (TH (lf s)) z4 r = V := ⟨_, rfl⟩
      have HVV := Lib.hid hV
      have hvl := vs_len (sd 5 N I) (TH (lf s)) z4 r
      rw [hV] at HV hvl
      have HVL := Lib.hid hvl
      have hsl := sd_len 5 N I
      generalize sd 5 N I = S at *
      generalize TH (lf s) = X0 at *
      generalize lf s = P0 at *
      generalize s.length = sl at *
      obtain ⟨ns, hns⟩ : ∃ ns, S.length = ns := ⟨_, rfl⟩
      have HNS := Lib.hid hns
      have HL4 := Lib.hid hlen
      rw [hns] at hsl
      have HVN : Hid (ns ≠ len4 → V = false) := fun h => HVL.out (by rw [hns, ← HL4.out]; exact h)
      obtain ⟨beq, hbeq⟩ : ∃ b, ((ns : Int) == (len4 : Int)) = b := ⟨_, rfl⟩
      have HBQ : Hid (beq = true ↔ ns = len4) := by
        show _ ↔ _
        rw [← hbeq, beq_iff_eq]; omega
      clear he hv w4 hlen ha hs hV hvl hns
      go_enter Try.func4, Try.ntmps4
      go_wp2_with fail
      refine (HV.out _ (Up.refl _)).mono ?_
      rintro e w1 ⟨rfl, u1⟩
      have HU1 := Lib.hid u1
      clear u1
      go_wp2_with fail
      refine (HSD.out _).mono ?_
      rintro e w2 ⟨v2, rfl, ho2, u2⟩
      obtain ⟨o2, c2, hv2⟩ := ho2.slice
      subst hv2
      have HO2 := Lib.hid (show OBs w2 w.heap.size _ S from own_baseT ho2 HU1.out.size)
      have HU2 := Lib.hid (HU1.out.trans u2)
      rw [HNS.out] at HO2 ⊢
      clear ho2 u2
      go_wp2_with fail
      refine (HPT.out _).mono ?_
      rintro e w3 ⟨rfl, u3⟩
      have HO3 := Lib.hid (HO2.out.up u3)
      have HU3 := Lib.hid (HU2.out.trans u3)
      clear u3 HO2
      go_wp2_with fail
      go_loopw [15, 16, 17] (fun ok p i wr => VfRel S z4 r V w (.slice o2 ns c2) ok p i wr) (fun ok _ i _ => len4 - (intOf i).toNat)
      case atStart =>
        cases beq with
        | true =>
          have e := HBQ.out.1 rfl
          exact ⟨true, 0, X0, rfl, rfl, rfl, ⟨fun _ => ⟨by rw [HNS.out, e, HL4.out], ⟨Nat.zero_le _, by omega, HVV.out, HO3.out, HU3.out⟩⟩, fun h => (by cases h), HU3.out⟩⟩
        | false =>
          have e : ns ≠ len4 := fun h => by have := HBQ.out.2 h; cases this
          exact ⟨false, 0, X0, rfl, rfl, rfl, ⟨fun h => (by cases h), fun _ => HVN.out e, HU3.out⟩⟩
      case round =>
        obtain ⟨bb, k, X, rfl, rfl, rfl, hyes, hno, hu⟩ := hrel
        cases bb with
        | true =>
          obtain ⟨hle, hk, hX, hvs, hown, hu⟩ := hyes rfl
          have HU := Lib.hid hu
          clear hyes hno
          have HOW := Lib.hid hown
          have HLE := Lib.hid hle
          rw [← HL4.out] at hk
          by_cases hlt : k < len4
          · have dk : decide (k < len4) = true := decide_eq_true hlt
            have hkp : k < z4.length := by rw [← HL4.out]; exact hlt
            have hks : k < S.length := by rw [hle]; exact hkp
            obtain ⟨b, off, rfl, hat⟩ := (HW4.out.up hu).at (fun e => by rw [e] at hkp; simp at hkp)
            obtain ⟨q1, q2⟩ := hat k hkp
            obtain ⟨g, rfl, hnn, hc1, hc2, q3⟩ := hown.at k hks
            clear hnn
            rw [List.drop_eq_getElem_cons hkp, List.drop_eq_getElem_cons hks, vs] at hvs
            generalize z4[k] = st at *
            generalize S[k] = bit at *
            obtain ⟨lt, y⟩ := st
            simp only at q1 q2 hvs
            obtain ⟨e1, he1⟩ : ∃ q, (lt == bit) = q := ⟨_, rfl⟩
            obtain ⟨e2, he2⟩ : ∃ q, decide (0 ≤ y) = q := ⟨_, rfl⟩
            obtain ⟨e3, he3⟩ : ∃ q, decide (y ≤ 2147483647) = q := ⟨_, rfl⟩
            have he2' : decide (y ≥ 0) = e2 := he2
            rw [he1, he2, he3] at hvs
            rw [HNS.out] at hc1
            have hkn : k < ns := by rw [← HNS.out]; exact hks
            by_cases hall : (e1 && (e2 && e3)) = true
            · rw [Bool.and_eq_true, Bool.and_eq_true] at hall
              obtain ⟨rfl, rfl, rfl⟩ := hall
              have y0 := of_decide_eq_true he2
              have y1 := of_decide_eq_true he3
              rw [Bool.and_self, Bool.and_self, Bool.true_and] at hvs
              obtain ⟨Y, rfl⟩ := Int.eq_ofNat_of_zero_le y0
              have hcl := clm_lt X (lt, (Y : Int))
              have hnl := nx_length X (lt, (Y : Int))
              rw [clm_nx] at hvs hcl
              cases lt with
              | true =>
                have hnx : nx X (true, (Y : Int)) = pr Y X := by unfold nx; simp
                rw [hnx] at hvs hcl hnl
                have HSA := Lib.hid (fun W => refSaid_any Y X W (by omega) hX)
                have HPR := Lib.hid (fun W => refPrintT (pr Y X) W (by omega))
                generalize pr Y X = Q at *
                generalize TH Q = T at *
                have HVS := Lib.hid hvs
                clear hat hvs hnx hown hu hle hnl
                go_wp2_with fail
                go_quiet (fail)
                have p1 := ((Up.drewN wr nq).cell (World.block_lt_of_cell? wr _ q1)).trans q1
                have p2 := ((Up.drewN wr nq).cell (World.block_lt_of_cell? wr _ q2)).trans q2
                have HOW2 := Lib.hid (HOW.out.up (Up.drewN wr nq))
                have HUD := Lib.hid (HU.out.trans (Up.drewN wr nq))
                generalize wr.drewN nq = wd at p1 p2 HOW2 HUD ⊢
                clear q1 q2 q3
                go_wp2_with fail
                refine (HSA.out _).mono ?_
                rintro e w5 ⟨rfl, u5⟩
                go_wp2_with fail
                refine (HPR.out _).mono ?_
                rintro e w6 ⟨rfl, u6⟩
                have HU6 := Lib.hid (HUD.out.trans (u5.trans u6))
                have HO6 := Lib.hid (HOW2.out.up (u5.trans u6))
                clear u5 u6
                go_wp2_with fail
                go_roundw
                case rel => exact ⟨true, k + 1, T, rfl, rfl, by go_num, ⟨fun _ => ⟨HLE.out, ⟨hkp, hcl, HVS.out, HO6.out, HU6.out⟩⟩, fun h => (by cases h), HU6.out⟩⟩
                case measure => simp only [intOf]; omega
              | false =>
                have hnx : nx X (false, (Y : Int)) = pr X Y := by unfold nx; simp
                rw [hnx] at hvs hcl hnl
                have HSA := Lib.hid (fun W => refSaid_any X Y W hX (by omega))
                have HPR := Lib.hid (fun W => refPrintT (pr X Y) W (by omega))
                generalize pr X Y = Q at *
                generalize TH Q = T at *
                have HVS := Lib.hid hvs
                clear hat hvs hnx hown hu hle hnl
                go_wp2_with fail
                go_quiet (fail)
                have p1 := ((Up.drewN wr nq).cell (World.block_lt_of_cell? wr _ q1)).trans q1
                have p2 := ((Up.drewN wr nq).cell (World.block_lt_of_cell? wr _ q2)).trans q2
                have HOW2 := Lib.hid (HOW.out.up (Up.drewN wr nq))
                have HUD := Lib.hid (HU.out.trans (Up.drewN wr nq))
                generalize wr.drewN nq = wd at p1 p2 HOW2 HUD ⊢
                clear q1 q2 q3
                go_wp2_with fail
                refine (HSA.out _).mono ?_
                rintro e w5 ⟨rfl, u5⟩
                go_wp2_with fail
                refine (HPR.out _).mono ?_
                rintro e w6 ⟨rfl, u6⟩
                have HU6 := Lib.hid (HUD.out.trans (u5.trans u6))
                have HO6 := Lib.hid (HOW2.out.up (u5.trans u6))
                clear u5 u6
                go_wp2_with fail
                go_roundw
                case rel => exact ⟨true, k + 1, T, rfl, rfl, by go_num, ⟨fun _ => ⟨HLE.out, ⟨hkp, hcl, HVS.out, HO6.out, HU6.out⟩⟩, fun h => (by cases h), HU6.out⟩⟩
                case measure => simp only [intOf]; omega
            · rw [Bool.not_eq_true] at hall
              rw [hall, Bool.false_and] at hvs
              subst hvs
              have HAL := Lib.hid hall
              clear hat hown hu hle hall
              cases e1 <;> cases e2 <;> cases e3
              all_goals first
                | (exfalso; exact absurd HAL.out (by decide))
                | (clear HAL
                   go_wp2_with fail
                   go_quiet (fail)
                   go_wp2_with fail
                   go_ret
                   exact ⟨rfl, HU.out.trans (Up.drewN _ _)⟩)
          · have dk : decide (k < len4) = false := decide_eq_false hlt
            rw [List.drop_of_length_le (by rw [hle, ← HL4.out]; omega), List.drop_of_length_le (by rw [← HL4.out]; omega), vs] at hvs
            clear hown hu hle
            cases V
            all_goals
              go_wp2_with fail
              go_ret
              exact ⟨rfl, HU.out⟩
        | false =>
          have HU := Lib.hid hu
          have hvf := hno rfl
          subst hvf
          clear hu hyes hno
          go_wp2_with fail
          go_ret
          exact ⟨rfl, HU.out⟩

theorem treeVerifies_walk (a0 a1 a2 : Int) (a3 : ByteArray) (a4 : Option Addr) (len4 cap4 : Nat) (z4 : List (Bool × Int)) (w : World) (_w0 : (Lit.int .i64 a0).wf = true) (_w1 : (Lit.int .i64 a1).wf = true) (_w2 : (Lit.int .i64 a2).wf = true) (_w3 : a3.size ≤ 140737488351232) (w4 : Stps w (.slice a4 len4 cap4) z4) :
    Calls Try.prog 4 #[.int .i64 a0, .int .i64 a1, .int .i64 a2, .string a3, .slice a4 len4 cap4] w fun e w' => e = .returned (.bool true) ∧ Up w w' := by
  have := treeVer_core a0 a1 a2 a3.data.toList a4 len4 cap4 z4 w w4
  rwa [bs_of] at this

end Go.Proofs.Ytacbhjjmbepngaa
