/-
  What Proof of package tree returns. Conditions: as each says.
-/
import Derived.Test.YtkghinpajogdhaaJTopProof48
namespace Go.Proofs.Ytkghinpajogdhaa
open Go.RowKit
open Go.Proofs
open WoolTree

theorem cell_two_new (w : World) (x y : Value) (t : TypeId) : ∀ j u, [x, y][j]? = some u → (w.alloc (.cells #[x, y] t)).cell? ((⟨w.heap.size, 0, none⟩ : Addr).add j) = some u := by
  intro j u hj
  have e : (⟨w.heap.size, 0, none⟩ : Addr).add j = ⟨w.heap.size, j, none⟩ := by
    unfold Addr.add
    split
    · rename_i h; subst h; rfl
    · simp
  rw [e, cell_of_row _ _ j _ _ _ (heap_alloc_new w _), ← hj]
  simp

theorem grown_upT {w wr w' : World} {v : Value} {n m : Nat} {xs : List Value} {e : TypeId} (hu : Up w wr) (hown : wr.ownsRow w.heap.size e m v n xs) (hg : wr.grownBy w' v.ownBlock) : Up w w' :=
  Below.grown hu hg hu.size (fun k hk => (World.ownsRow.lt hown k hk).1)

theorem fl_one1 {α : Type} (f : α → List Value) (x : α) : fl f [x] = f x := by show f x ++ [] = f x; simp

theorem stps_append {w' : World} {base n : Nat} {v' : Value} {l : List (Bool × Int)} {x : Bool × Int} (hn : l.length = n) (h : w'.ownsRow base 68 2 v' (n + 1) (fl stC l ++ [.bool x.1, .int .i64 x.2])) : OStps w' base v' (l ++ [x]) := by
  unfold OStps
  rw [fl_append, List.length_append, hn, fl_one1]
  exact h

/-- an error of Proof -/
def prfE (l : List (List UInt8)) (i : Int) : Int := if chkT l ≠ 0 then chkT l else if i < 0 ∨ (l.length : Int) ≤ i then 1 else 0
/-- the steps of Proof -/
def prfV (l : List (List UInt8)) (i : Int) : List (Bool × Int) := if prfE l i = 0 then stI (prf TH (lh TH l) i.toNat) else []

/-- what a round of Proof keeps; the steps are of type 68 -/
def PrRel (LL : List (List Nat)) (I0 : Nat) (w : World) (i pr ix : Value) (wr : World) : Prop :=
  ∃ (k I : Nat) (P : List (Bool × Int)), k ≤ LL.length ∧ ix = .int .i64 (k : Int) ∧ i = .int .i64 (I : Int) ∧ I < 64 ∧ stI (pfl LL I0) = P ++ stI (pfl (LL.drop k) I) ∧ OStps wr w.heap.size pr P ∧ P.length ≤ k ∧ Up w wr

/-- what Proof hands back; the steps are of type 68 -/
def PrPost (l : List (List UInt8)) (i : Int) (w : World) (e : Ending) (w' : World) : Prop := ∃ v, e = .returned (.tuple #[v, .int .i64 (prfE l i)]) ∧ OStps w' w.heap.size v (prfV l i) ∧ Up w w'

theorem stI_append (a b : List (Bool × Nat)) : stI (a ++ b) = stI a ++ stI b := List.map_append

theorem pfl_drop (LL : List (List Nat)) (k I : Nat) (h : k < LL.length) : stI (pfl (LL.drop k) I) = (if bes I < LL[k].length then [(I % 2 == 1, ((LL[k].getD (bes I) 0 : Nat) : Int))] else []) ++ stI (pfl (LL.drop (k + 1)) (I / 2)) := by
  rw [List.drop_eq_getElem_cons h, pfl, stI_append]
  split <;> rfl

set_option maxRecDepth 100000 in
set_option maxHeartbeats 1000000 in
theorem proofT_any (v : Value) (l : List (List UInt8)) (i : Int) (w : World) (h : Txs w v l) :
    Calls Try.prog 9 #[v, .int .i64 i] w (PrPost l i w) := by
  have HC := Lib.hid (fun W (hW : Up w W) => checkT_any v l W (h.up hW))
  have HT := Lib.hid h
  obtain ⟨o, c, rfl, hc1, hc2⟩ := h.slice
  by_cases hE : chkT l = 0
  · obtain ⟨h0, h32, hs⟩ := chkT_ok hE
    have HLV := Lib.hid (fun W (hW : Up w W) => levels_any _ l W (HT.out.up hW) h0 h32 hs)
    unfold LvPost at HLV
    rw [hE] at HC
    by_cases hi : i < 0 ∨ (l.length : Int) ≤ i
    · have hp : Hid (prfE l i = 1) := by show _ = _; unfold prfE; rw [if_neg (by rw [hE]; simp), if_pos hi]
      have hv : Hid (prfV l i = []) := by show _ = _; unfold prfV; rw [hp.out, if_neg (by omega)]
      obtain ⟨n, hn⟩ : ∃ n, l.length = n := ⟨_, rfl⟩
      rw [hn] at hi HC ⊢
      clear hE hs h hc1 h0 h32 hn HT HLV
      by_cases hi0 : i < 0
      · have d1 : decide (i < 0) = true := decide_eq_true hi0
        clear hi
        go_enter Try.func9, Try.ntmps9
        go_wp2_with fail
        refine (HC.out _ (Up.refl _)).mono ?_
        rintro e w1 ⟨rfl, u1⟩
        go_wp2_with fail
        go_ret2
        exact ⟨_, by rw [hp.out]; rfl, by rw [hv.out]; exact OStps.nil _ _, u1⟩
      · have d1 : decide (i < 0) = false := decide_eq_false hi0
        have d2 : decide (i ≥ (n : Int)) = true := decide_eq_true (by omega)
        have d3 : decide ((n : Int) ≤ i) = true := decide_eq_true (by omega)
        clear hi
        go_enter Try.func9, Try.ntmps9
        go_wp2_with fail
        refine (HC.out _ (Up.refl _)).mono ?_
        rintro e w1 ⟨rfl, u1⟩
        go_wp2_with fail
        go_ret2
        exact ⟨_, by rw [hp.out]; rfl, by rw [hv.out]; exact OStps.nil _ _, u1⟩
    · obtain ⟨I, rfl⟩ := Int.eq_ofNat_of_zero_le (show 0 ≤ i by omega)
      have hI : I < l.length := by omega
      have hp : Hid (prfE l (I : Int) = 0) := by show _ = _; unfold prfE; rw [if_neg (by rw [hE]; simp), if_neg (by omega)]
      have hv : Hid (prfV l (I : Int) = stI (pfl (lvs TH 5 (lh TH l)) I)) := by
        show _ = _
        unfold prfV
        rw [hp.out, if_pos rfl, Int.toNat_natCast, pfl_lvs TH 5 (lh TH l) I (by rw [lh_length]; exact hI) (by rw [lh_length]; exact h32)]
        rfl
      have hLp := lvs_pos TH 5 (lh TH l)
      have hL6 := lvs_len TH 5 (lh TH l)
      have hbd : ∀ X ∈ lvs TH 5 (lh TH l), X.length ≤ 32 := by
        intro X hX
        obtain ⟨k, hk, rfl⟩ := List.getElem_of_mem hX
        rw [lvs_get]
        have : ∀ (k : Nat) (A : List Nat), A.length ≤ 32 → (it TH k A).length ≤ 32 := by
          intro k
          induction k with
          | zero => intro A h; exact h
          | succ k ih => intro A h; exact ih _ (by rw [ab_length]; omega)
        exact this k _ (by rw [lh_length]; exact h32)
      have d1 : decide ((I : Int) < 0) = false := decide_eq_false (by omega)
      have d2 : decide ((I : Int) ≥ (l.length : Int)) = false := decide_eq_false (by omega)
      have d3 : decide (l.length ≤ I) = false := decide_eq_false (by omega)
      have hI64 : I < 64 := by omega
      obtain ⟨LL, hLL⟩ : ∃ LL, lvs TH 5 (lh TH l) = LL := ⟨_, rfl⟩
      simp only [hLL] at HLV hv hLp hL6 hbd
      have HBD := Lib.hid hbd
      obtain ⟨n, hn⟩ : ∃ n, l.length = n := ⟨_, rfl⟩
      obtain ⟨i0, hi', hz0, hz1, hz2⟩ := info_parts stInfo
      have HI := Lib.hid hi'
      have HZ0 := Lib.hid hz0
      have HZ1 := Lib.hid hz1
      have HZ2 := Lib.hid hz2
      rw [hn] at HC HLV d2 d3 ⊢
      clear hE hs h hc1 h0 h32 hn HT hi hLL hbd hi' hz0 hz1 hz2 hI
      go_enter Try.func9, Try.ntmps9
      go_wp2_with fail
      refine (HC.out _ (Up.refl _)).mono ?_
      rintro e w1 ⟨rfl, u1⟩
      have HU1 := Lib.hid u1
      clear u1
      go_wp2_with fail
      refine (HLV.out _ HU1.out).mono ?_
      rintro e w2 ⟨v2, rfl, hl2, u2⟩
      obtain ⟨o2, c2, rfl, _, _⟩ := hl2.slice
      obtain ⟨g, rfl, hg⟩ := hl2.get hLp
      have HG := Lib.hid hg
      have HU2 := Lib.hid (HU1.out.trans u2)
      obtain ⟨N, hN⟩ : ∃ N, LL.length = N := ⟨_, rfl⟩
      have HN := Lib.hid hN
      rw [hN] at hLp hL6 ⊢
      clear hl2 hg u2 hN
      go_wp2_with fail
      go_loopw [1, 7, 9, 26] (fun i pr _ ix wr => PrRel LL I w2 i pr ix wr) (fun _ _ _ ix _ => N - (intOf ix).toNat)
      case atStart => exact ⟨0, I, [], Nat.zero_le _, rfl, rfl, hI64, rfl, OStps.nil _ _, by simp, Up.refl _⟩
      case round =>
        obtain ⟨k, J, P, hk, rfl, rfl, hJ, hP, hst, hPk, hu⟩ := hrel
        have HU3 := Lib.hid hu
        have HST := Lib.hid hst
        rw [HN.out] at hk
        by_cases hlt : k < N
        · have d4 : decide (k < N) = true := decide_eq_true hlt
          have hk2 : k < LL.length := by rw [HN.out]; exact hlt
          obtain ⟨o', c', k1, k2⟩ := HG.out k hk2
          have hX32 := HBD.out _ (List.getElem_mem hk2)
          rw [pfl_drop LL k J hk2] at hP
          obtain ⟨X, hX⟩ : ∃ X, LL[k] = X := ⟨_, rfl⟩
          rw [hX] at k1 k2 hX32 hP
          have q1 := (hu.cell (World.block_lt_of_cell? w2 _ k1)).trans k1
          have HX2 := Lib.hid (k2.up hu)
          have HPR := Lib.hid (fun W => paired_any J X.length W hJ)
          have HRT := Lib.hid (fun W => right_any J W hJ)
          have HBS := Lib.hid (fun W => beside_any J W hJ)
          have hJ2 : J / 2 < 64 := by omega
          have hdv : (J : Int) / 2 = ((J / 2 : Nat) : Int) := by omega
          have hdt : (J : Int).tdiv 2 = ((J / 2 : Nat) : Int) := by rw [Int.tdiv_eq_ediv_of_nonneg (by omega)]; exact hdv
          obtain ⟨J', hJ'⟩ : ∃ J', J / 2 = J' := ⟨_, rfl⟩
          rw [hJ'] at hP hJ2 hdv hdt
          have hs3 := hu.size
          clear k1 k2 hX hst hu hJ'
          by_cases hb : bes J < X.length
          · rw [if_pos hb] at hP
            rw [show decide (bes J < X.length) = true from decide_eq_true hb] at HPR
            obtain ⟨g', c2', he, _, hg2', hc1', hc2'⟩ := HX2.out.block (by omega)
            simp only [Value.slice.injEq, true_and] at he
            obtain ⟨rfl, rfl⟩ := he
            have q2 := HX2.out.cell (bes J) hb
            have hgd : X.getD (bes J) 0 = X[bes J] := by rw [List.getD_eq_getElem?_getD, List.getElem?_eq_getElem hb]; rfl
            rw [hgd] at hP
            generalize X[bes J] = x at q2 hP
            generalize bes J = b at *
            generalize (J % 2 == 1) = r at *
            have HP := Lib.hid hP
            obtain ⟨M, hM⟩ : ∃ M, X.length = M := ⟨_, rfl⟩
            rw [hM] at hb hX32 q1 hc1' HPR
            clear hP hgd HX2 hM
            go_wp2_with fail
            refine (HPR.out _).mono ?_
            rintro e w3 ⟨rfl, rfl⟩
            go_wp2_with fail
            refine (HRT.out _).mono ?_
            rintro e w3 ⟨rfl, rfl⟩
            go_wp2_with fail
            refine (HBS.out _).mono ?_
            rintro e w3 ⟨rfl, rfl⟩
            obtain ⟨p, hp⟩ : ∃ p, P.length = p := ⟨_, rfl⟩
            have hp6 : p ≤ 6 := by omega
            have hpk : p ≤ k := by omega
            have HPP := Lib.hid hp
            have HO5 : Hid ((wr.alloc (.cells #[.bool r, .int .i64 (x : Int)] 68)).ownsRow w2.heap.size 68 2 u7 p (fl stC P)) := by
              have := World.ownsRow.alloc HST.out (.cells #[.bool r, .int .i64 (x : Int)] 68)
              rw [hp] at this
              exact this
            clear hp hPk
            go_wp2_with (at_builtin; refine wpList_append_own _ rfl _ _ 42 rfl w2.heap.size 68 i0 (.agg #[.bool false, .int .i64 0]) 2 16 Try.underlying42 HI.out HZ0.out HZ1.out HZ2.out rfl (by decide) _ _ _ rfl HO5.out ⟨wr.heap.size, 0, none⟩ 1 1 [.bool r, .int .i64 (x : Int)] rfl rfl (cell_two_new _ _ _ _) (stC_one (r, (x : Int))) (by unfold maxLen; omega) (by omega) (by simp; omega) ?_)
            intro v' w5 hown' hgrow _
            have HB5 := Lib.hid (stps_append (x := (r, (x : Int))) HPP.out hown')
            have HU5 := Lib.hid (grown_upT (HU3.out.trans (Up.alloc _ _)) HO5.out hgrow)
            clear hown' hgrow
            go_wp2_with fail
            go_roundw
            case rel => exact ⟨k + 1, J', P ++ [(r, (x : Int))], hk2, by go_num, rfl, hJ2, by rw [HP.out, List.append_assoc], HB5.out, by rw [List.length_append, HPP.out]; simp; omega, HU5.out⟩
            case measure => simp only [intOf]; omega
          · rw [if_neg hb, List.nil_append] at hP
            rw [show decide (bes J < X.length) = false from decide_eq_false hb] at HPR
            have HP := Lib.hid hP
            obtain ⟨M, hM⟩ : ∃ M, X.length = M := ⟨_, rfl⟩
            rw [hM] at hX32 q1 HPR
            clear hP HX2 hM hb
            go_wp2_with fail
            refine (HPR.out _).mono ?_
            rintro e w3 ⟨rfl, rfl⟩
            go_wp2_with fail
            go_roundw
            case rel => exact ⟨k + 1, J', P, hk2, by go_num, rfl, hJ2, HP.out, HST.out, by omega, HU3.out⟩
            case measure => simp only [intOf]; omega
        · have d4 : decide (k < N) = false := decide_eq_false hlt
          rw [List.drop_of_length_le (by rw [HN.out]; omega)] at hP
          have HP : Hid (stI (pfl LL I) = P) := by show _ = _; rw [hP]; exact List.append_nil _
          clear hP hst hu
          go_wp2_with fail
          go_ret2
          exact ⟨_, by rw [hp.out]; rfl, by rw [hv.out, HP.out]; exact own_baseT HST.out HU2.out.size, HU2.out.trans HU3.out⟩
  · have hp : Hid (prfE l i = chkT l) := by show _ = _; unfold prfE; rw [if_pos hE]
    have hv : Hid (prfV l i = []) := by show _ = _; unfold prfV; rw [hp.out, if_neg hE]
    have hne : (chkT l != 0) = true := by rw [bne_iff_ne]; exact hE
    obtain ⟨E, hEE⟩ : ∃ E, chkT l = E := ⟨_, rfl⟩
    rw [hEE] at HC hp hne
    clear hE h hEE HT
    go_enter Try.func9, Try.ntmps9
    go_wp2_with fail
    refine (HC.out _ (Up.refl _)).mono ?_
    rintro e w1 ⟨rfl, u1⟩
    go_wp2_with fail
    go_ret2
    exact ⟨_, by rw [hp.out]; rfl, by rw [hv.out]; exact OStps.nil _ _, u1⟩

end Go.Proofs.Ytkghinpajogdhaa
