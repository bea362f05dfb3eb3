/-
  The reference's Proof and Sides. Conditions: as each says.
-/
import Derived.Test.YtacbhjjmbepngaaRefTree1
import Derived.Test.YtacbhjjmbepngaaTreeD
import Derived.Deep.RegionHeldLaw
import Derived.Deep.AppendLies
import Derived.Deep.RegionLaw
namespace Go.Proofs.Ytacbhjjmbepngaa
open Go.RowKit
open Go.Proofs
open WoolTree

theorem two_late {W W' : World} {x y : Value} {T : TypeId} (u : Up (W.alloc (.cells #[x, y] T)) W') : ∀ j v, [x, y][j]? = some v → W'.cell? ((⟨W.heap.size, 0, none⟩ : Addr).add j) = some v := by
  intro j v hj
  have h := cell_two_new W x y T j v hj
  have e : (⟨W.heap.size, 0, none⟩ : Addr).add j = ⟨W.heap.size, j, none⟩ := by
    unfold Addr.add
    split
    · rename_i h; subst h; rfl
    · simp
  rw [e] at h ⊢
  exact (Below.cell u (p := ⟨W.heap.size, j, none⟩) (by simp)).trans h

def RpPost (l : List (List UInt8)) (i : Nat) (w : World) (e : Ending) (w' : World) : Prop := ∃ v, e = .returned v ∧ OStps w' w.heap.size v (stI (prf TH (lh TH l) i)) ∧ Up w w'

theorem prfT_halves (l : List (List UInt8)) (i : Nat) (h0 : 2 ≤ l.length) (h1 : l.length ≤ 32) (hi : i < l.length) :
    stI (prf TH (lh TH l) i) = if i < spn l.length then stI (prf TH (lh TH (l.take (spn l.length))) i) ++ [(false, ((rtx TH (l.drop (spn l.length)) : Nat) : Int))] else stI (prf TH (lh TH (l.drop (spn l.length))) (i - spn l.length)) ++ [(true, ((rtx TH (l.take (spn l.length)) : Nat) : Int))] := by
  have e := prf_halves TH (lh TH l) i (by rw [lh_length]; exact h0) (by rw [lh_length]; exact h1) (by rw [lh_length]; exact hi)
  rw [lh_length, ← lh_take, ← lh_drop] at e
  rw [e]
  by_cases h : i < spn l.length
  · rw [if_pos h, if_pos h, stI_append]; rfl
  · rw [if_neg h, if_neg h, stI_append]; rfl

set_option maxRecDepth 100000 in
set_option maxHeartbeats 4000000 in
theorem refProof_any : ∀ (n : Nat) (l : List (List UInt8)) (i : Nat) (v : Value) (w : World), Txs w v l → chkT l = 0 → l.length ≤ n → i < l.length →
    Calls Try.prog 20 #[v, .int .i64 (i : Int)] w (RpPost l i w)
  | 0, l, i, v, w, h, hE, hn, hi => by omega
  | n + 1, l, i, v, w, h, hE, hn, hi => by
    obtain ⟨h0, h32, hs⟩ := chkT_ok hE
    obtain ⟨o, c, rfl, _, _⟩ := h.slice
    by_cases h1 : l.length ≤ 1
    · obtain ⟨t, rfl⟩ := List.length_eq_one_iff.1 (show l.length = 1 by omega)
      have hi0 : i = 0 := by simpa using hi
      subst hi0
      have hp : Hid (stI (prf TH (lh TH [t]) 0) = []) := by show _ = _; rw [show prf TH (lh TH [t]) 0 = [] from prf_one TH _]; rfl
      rw [show [t].length = 1 from rfl]
      clear h hE hn h0 h32 hs h1 hi
      go_enter Try.func20, Try.ntmps20
      go_wp2_with fail
      go_ret
      exact ⟨_, rfl, by rw [hp.out]; exact OStps.nil _ _, Up.refl _⟩
    · have h2l : 2 ≤ l.length := by omega
      have s1 := spn_lt l.length h2l
      have s0 := spn_pos l.length
      have HSP := Lib.hid (fun W => refSpan_any l.length W h2l h32)
      obtain ⟨oA, runA, rdA⟩ := h.upto (spn l.length) (by omega)
      obtain ⟨oB, runB, rdB⟩ := h.from (spn l.length) (by omega)
      have t1 : (l.take (spn l.length)).length = spn l.length := by rw [List.length_take]; omega
      have t3 : (l.drop (spn l.length)).length = l.length - spn l.length := List.length_drop
      have cA := chkT_take hE (spn l.length) s0 (by omega)
      have cB := chkT_drop hE (spn l.length) s1
      have hPV := prfT_halves l i h2l h32 hi
      have dm : ((l.length : Int) == 1) = false := by rw [beq_eq_false_iff_ne]; omega
      obtain ⟨i0, hi', hz0, hz1, hz2⟩ := info_parts stInfo
      have HI := Lib.hid hi'
      have HZ0 := Lib.hid hz0
      have HZ1 := Lib.hid hz1
      have HZ2 := Lib.hid hz2
      clear hi' hz0 hz1 hz2
      by_cases hik : i < spn l.length
      · rw [if_pos hik] at hPV
        have HPF := Lib.hid (fun W (hW : Up w W) => refProof_any n (l.take (spn l.length)) i _ W (rdA.up hW) cA (by omega) (by omega))
        have HRT := Lib.hid (fun W (hW : Up w W) => refRoot_any n (l.drop (spn l.length)) _ W (rdB.up hW) cB (by omega))
        unfold RpPost OStps at HPF
        have hpl : (stI (prf TH (lh TH (l.take (spn l.length))) i)).length ≤ 5 := by unfold stI; rw [List.length_map]; exact pf_length TH 5 _ _
        have HPV := Lib.hid hPV
        generalize rtx TH (l.drop (spn l.length)) = RT at *
        generalize stI (prf TH (lh TH (l.take (spn l.length))) i) = P at *
        obtain ⟨np, hnp⟩ : ∃ np, P.length = np := ⟨_, rfl⟩
        have HPL := Lib.hid hnp
        rw [hnp] at HPF hpl
        generalize spn l.length = K at *
        generalize l.length = m at *
        have dk : decide (i < K) = true := decide_eq_true hik
        clear h hE hn hs h1 t1 t3 rdA rdB cA cB hPV hnp
        go_enter Try.func20, Try.ntmps20
        go_wp2_with fail
        refine (HSP.out _).mono ?_
        rintro e w1 ⟨rfl, rfl⟩
        go_wp2_with fail
        go_region_held_law (fun _ => True) (trivial) (first
          | (go_at_call 20; ((with_reducible refine (HPF.out _ (by first | exact Up.drew _ | exact ub | exact ub.trans (Up.alloc _ _))).mono ?_); rintro e w4 ⟨v4, rfl, ho4, u4⟩; have ua : Up w w4 := (by first | exact (Up.drew _).trans u4 | exact ub.trans u4 | exact (ub.trans (Up.alloc _ _)).trans u4); have hc4 : w4.ownsRow w.heap.size 33 2 v4 np (fl stC P) := own_baseT ho4 (by first | exact (Up.drew w).size | exact ub.size | exact (ub.trans (Up.alloc _ _)).size)))
          | (go_at_call 18; ((with_reducible refine (HRT.out _ (by first | exact Up.drew _ | exact ua)).mono ?_); rintro e w5 ⟨rfl, u5⟩; have ub : Up w w5 := (by first | exact (Up.drew _).trans u5 | exact ua.trans u5)))
          | (refine step_append_lies _ rfl (.tmp 19) (.tmp 25) 26 rfl w.heap.size 33 i0 (.agg #[.bool false, .int .i64 0]) 2 16 Try.underlying26 HI.out HZ0.out HZ1.out HZ2.out rfl (by decide) v4 np (fl stC P) (by simp [Act.eval]) (own_upT hc4 (u5.trans (Up.alloc w5 (.cells #[.bool false, .int .i64 (RT : Int)] 33)))) ⟨w5.heap.size, 0, none⟩ 1 1 [.bool false, .int .i64 (RT : Int)] (by simp [Act.eval]) rfl (cell_two_new _ _ _ _) (stC_one (false, (RT : Int))) (by decide) (by unfold maxLen; omega) (by omega) (ub.trans (Up.alloc _ _)).size _ rfl ?_; intro g cap w6 hown hgrow hat hlt; have hU6 : Up w w6 := Below.grown (ub.trans (Up.alloc _ _)) hgrow (ub.trans (Up.alloc _ _)).size (fun q hq => (World.ownsRow.lt hc4 q hq).1))
          | (refine step_append_lies _ rfl (.tmp 19) (.tmp 25) 26 rfl w.heap.size 33 i0 (.agg #[.bool false, .int .i64 0]) 2 16 Try.underlying26 HI.out HZ0.out HZ1.out HZ2.out rfl (by decide) v4 np (fl stC P) (by simp [Act.eval]) (own_upT hc4 (Up.alloc w4 (.cells #[.bool false, .int .i64 (RT : Int)] 33))) ⟨w4.heap.size, 0, none⟩ 1 1 [.bool false, .int .i64 (RT : Int)] (by simp [Act.eval]) rfl (cell_two_new _ _ _ _) (stC_one (false, (RT : Int))) (by decide) (by unfold maxLen; omega) (by omega) (ua.trans (Up.alloc _ _)).size _ rfl ?_; intro g cap w6 hown hgrow hat hlt; have hU6 : Up w w6 := Below.grown (ua.trans (Up.alloc _ _)) hgrow (ua.trans (Up.alloc _ _)).size (fun q hq => (World.ownsRow.lt hc4 q hq).1))
          | (refine step_append_lies _ rfl (.tmp 19) (.tmp 25) 26 rfl w.heap.size 33 i0 (.agg #[.bool false, .int .i64 0]) 2 16 Try.underlying26 HI.out HZ0.out HZ1.out HZ2.out rfl (by decide) v4 np (fl stC P) (by simp [Act.eval]) hc4 ⟨w5.heap.size, 0, none⟩ 1 1 [.bool false, .int .i64 (RT : Int)] (by simp [Act.eval]) rfl (two_late u4) (stC_one (false, (RT : Int))) (by decide) (by unfold maxLen; omega) (by omega) ua.size _ rfl ?_; intro g cap w6 hown hgrow hat hlt; have hU6 : Up w w6 := Below.grown ua hgrow ua.size (fun q hq => (World.ownsRow.lt hc4 q hq).1)))
        all_goals
          have HB6 := Lib.hid (stps_append (x := (false, (RT : Int))) HPL.out hown)
          have HU6 := Lib.hid hU6
          clear hown hgrow hat hlt hU6
          go_wp2_with fail
          go_ret
          exact ⟨.slice (some ⟨g, 0, none⟩) (np + 1) cap, by simp, by rw [HPV.out]; exact HB6.out, HU6.out⟩
      · rw [if_neg hik] at hPV
        have HPF := Lib.hid (fun W (hW : Up w W) => refProof_any n (l.drop (spn l.length)) (i - spn l.length) _ W (rdB.up hW) cB (by omega) (by omega))
        have HRT := Lib.hid (fun W (hW : Up w W) => refRoot_any n (l.take (spn l.length)) _ W (rdA.up hW) cA (by omega))
        unfold RpPost OStps at HPF
        have hpl : (stI (prf TH (lh TH (l.drop (spn l.length))) (i - spn l.length))).length ≤ 5 := by unfold stI; rw [List.length_map]; exact pf_length TH 5 _ _
        have HPV := Lib.hid hPV
        generalize rtx TH (l.take (spn l.length)) = RT at *
        generalize stI (prf TH (lh TH (l.drop (spn l.length))) (i - spn l.length)) = P at *
        obtain ⟨np, hnp⟩ : ∃ np, P.length = np := ⟨_, rfl⟩
        have HPL := Lib.hid hnp
        rw [hnp] at HPF hpl
        generalize spn l.length = K at *
        generalize l.length = m at *
        have dk : decide (i < K) = false := decide_eq_false hik
        obtain ⟨J, hJ⟩ : ∃ J, i - K = J := ⟨_, rfl⟩
        have hJi : (i : Int) - (K : Int) = (J : Int) := by omega
        have hJw : IntKind.i64.wrap ((i : Int) - (K : Int)) = (J : Int) := by rw [hJi]; exact IntWalk.i64_in _ (by omega)
        have hJw2 : IntKind.i64.wrap (J : Int) = (J : Int) := IntWalk.i64_in _ (by omega)
        rw [hJ] at HPF
        clear h hE hn hs h1 t1 t3 rdA rdB cA cB hPV hnp hJ
        go_enter Try.func20, Try.ntmps20
        go_wp2_with fail
        refine (HSP.out _).mono ?_
        rintro e w1 ⟨rfl, rfl⟩
        go_wp2_with fail
        go_region_held_law (fun _ => True) (trivial) (first
          | (go_at_call 20; ((with_reducible refine (HPF.out _ (by first | exact Up.drew _ | exact ub | exact ub.trans (Up.alloc _ _))).mono ?_); rintro e w4 ⟨v4, rfl, ho4, u4⟩; have ua : Up w w4 := (by first | exact (Up.drew _).trans u4 | exact ub.trans u4 | exact (ub.trans (Up.alloc _ _)).trans u4); have hc4 : w4.ownsRow w.heap.size 33 2 v4 np (fl stC P) := own_baseT ho4 (by first | exact (Up.drew w).size | exact ub.size | exact (ub.trans (Up.alloc _ _)).size)))
          | (go_at_call 18; ((with_reducible refine (HRT.out _ (by first | exact Up.drew _ | exact ua)).mono ?_); rintro e w5 ⟨rfl, u5⟩; have ub : Up w w5 := (by first | exact (Up.drew _).trans u5 | exact ua.trans u5)))
          | (refine step_append_lies _ rfl (.tmp 33) (.tmp 39) 26 rfl w.heap.size 33 i0 (.agg #[.bool false, .int .i64 0]) 2 16 Try.underlying26 HI.out HZ0.out HZ1.out HZ2.out rfl (by decide) v4 np (fl stC P) (by simp [Act.eval]) (own_upT hc4 (u5.trans (Up.alloc w5 (.cells #[.bool true, .int .i64 (RT : Int)] 33)))) ⟨w5.heap.size, 0, none⟩ 1 1 [.bool true, .int .i64 (RT : Int)] (by simp [Act.eval]) rfl (cell_two_new _ _ _ _) (stC_one (true, (RT : Int))) (by decide) (by unfold maxLen; omega) (by omega) (ub.trans (Up.alloc _ _)).size _ rfl ?_; intro g cap w6 hown hgrow hat hlt; have hU6 : Up w w6 := Below.grown (ub.trans (Up.alloc _ _)) hgrow (ub.trans (Up.alloc _ _)).size (fun q hq => (World.ownsRow.lt hc4 q hq).1))
          | (refine step_append_lies _ rfl (.tmp 33) (.tmp 39) 26 rfl w.heap.size 33 i0 (.agg #[.bool false, .int .i64 0]) 2 16 Try.underlying26 HI.out HZ0.out HZ1.out HZ2.out rfl (by decide) v4 np (fl stC P) (by simp [Act.eval]) (own_upT hc4 (Up.alloc w4 (.cells #[.bool true, .int .i64 (RT : Int)] 33))) ⟨w4.heap.size, 0, none⟩ 1 1 [.bool true, .int .i64 (RT : Int)] (by simp [Act.eval]) rfl (cell_two_new _ _ _ _) (stC_one (true, (RT : Int))) (by decide) (by unfold maxLen; omega) (by omega) (ua.trans (Up.alloc _ _)).size _ rfl ?_; intro g cap w6 hown hgrow hat hlt; have hU6 : Up w w6 := Below.grown (ua.trans (Up.alloc _ _)) hgrow (ua.trans (Up.alloc _ _)).size (fun q hq => (World.ownsRow.lt hc4 q hq).1))
          | (refine step_append_lies _ rfl (.tmp 33) (.tmp 39) 26 rfl w.heap.size 33 i0 (.agg #[.bool false, .int .i64 0]) 2 16 Try.underlying26 HI.out HZ0.out HZ1.out HZ2.out rfl (by decide) v4 np (fl stC P) (by simp [Act.eval]) hc4 ⟨w5.heap.size, 0, none⟩ 1 1 [.bool true, .int .i64 (RT : Int)] (by simp [Act.eval]) rfl (two_late u4) (stC_one (true, (RT : Int))) (by decide) (by unfold maxLen; omega) (by omega) ua.size _ rfl ?_; intro g cap w6 hown hgrow hat hlt; have hU6 : Up w w6 := Below.grown ua hgrow ua.size (fun q hq => (World.ownsRow.lt hc4 q hq).1)))
        all_goals
          have HB6 := Lib.hid (stps_append (x := (true, (RT : Int))) HPL.out hown)
          have HU6 := Lib.hid hU6
          clear hown hgrow hat hlt hU6
          go_wp2_with fail
          go_ret
          exact ⟨.slice (some ⟨g, 0, none⟩) (np + 1) cap, by simp, by rw [HPV.out]; exact HB6.out, HU6.out⟩

/-! ytacbhjjmbepngaa# Sides -/

/-- bits as cells -/
def boL (l : List Bool) : List Value := l.map fun b : Bool => .bool b
theorem boL_length (l : List Bool) : (boL l).length = l.length := List.length_map _
theorem boInfo : (Try.prog.info? 4).map (fun i => (i.zero, i.size, i.bytes)) = some (some (.bool false), 1, 1) := by kernel_rfl

/-- a slice of bools of the call's own -/
def OBs (w : World) (base : Nat) (v : Value) (l : List Bool) : Prop := w.ownsRow base 4 1 v l.length (boL l)
theorem OBs.up {w w' : World} {base : Nat} {v : Value} {l : List Bool} (h : OBs w base v l) (hu : Up w w') : OBs w' base v l := own_upT h hu

def SdPost (n i : Nat) (w : World) (e : Ending) (w' : World) : Prop := ∃ v, e = .returned v ∧ OBs w' w.heap.size v (sd 5 n i) ∧ Up w w'

theorem obs_append {w' : World} {base n : Nat} {v' : Value} {l : List Bool} {x : Bool} (hn : l.length = n) (h : w'.ownsRow base 4 1 v' (n + 1) (boL l ++ [.bool x])) : OBs w' base v' (l ++ [x]) := by
  unfold OBs
  rw [show boL (l ++ [x]) = boL l ++ [.bool x] by simp [boL], List.length_append, hn]
  exact h

theorem sd_len : ∀ k n i : Nat, (sd k n i).length ≤ k
  | 0, _, _ => by simp [sd]
  | k + 1, n, i => by
    have := sd_len k ((n + 1) / 2) (i / 2)
    rw [sd, List.length_append]
    split <;> simp <;> omega

set_option maxRecDepth 100000 in
set_option maxHeartbeats 4000000 in
theorem refSides_any : ∀ (f n i : Nat) (w : World), n ≤ 32 → n ≤ f → i < n →
    Calls Try.prog 22 #[.int .i64 (n : Int), .int .i64 (i : Int)] w (SdPost n i w)
  | 0, n, i, w, h32, hf, hi => by omega
  | f + 1, n, i, w, h32, hf, hi => by
    by_cases h1 : n ≤ 1
    · have hn1 : n = 1 := by omega
      subst hn1
      have hi0 : i = 0 := by omega
      subst hi0
      go_enter Try.func22, Try.ntmps22
      go_wp2_with fail
      go_ret
      exact ⟨_, rfl, World.ownsRow_nil _ _ _ _, Up.refl _⟩
    · have h2l : 2 ≤ n := by omega
      have s1 := spn_lt n h2l
      have s0 := spn_pos n
      have HSP := Lib.hid (fun W => refSpan_any n W h2l h32)
      have hsd := sd_halves n i h2l h32 hi
      have dm : ((n : Int) == 1) = false := by rw [beq_eq_false_iff_ne]; omega
      obtain ⟨i0, hi', hz0, hz1, hz2⟩ := info_parts boInfo
      have HI := Lib.hid hi'
      have HZ0 := Lib.hid hz0
      have HZ1 := Lib.hid hz1
      have HZ2 := Lib.hid hz2
      clear hi' hz0 hz1 hz2
      by_cases hik : i < spn n
      · rw [if_pos hik] at hsd
        have HR := Lib.hid (fun W => refSides_any f (spn n) i W (by omega) (by omega) hik)
        unfold SdPost at HR
        have hl5 := sd_len 5 (spn n) i
        generalize sd 5 (spn n) i = P at *
        have HSD := Lib.hid hsd
        generalize spn n = K at *
        have dk : decide (i < K) = true := decide_eq_true hik
        clear h1 hsd hf
        go_enter Try.func22, Try.ntmps22
        go_wp2_with fail
        refine (HSP.out _).mono ?_
        rintro e w1 ⟨rfl, rfl⟩
        go_wp2_with fail
        refine (HR.out _).mono ?_
        rintro e w4 ⟨v4, rfl, ho4, u4⟩
        obtain ⟨np, hnp⟩ : ∃ np, P.length = np := ⟨_, rfl⟩
        have HPL := Lib.hid hnp
        have HO5 : Hid ((w4.alloc (.cells #[.bool false] 4)).ownsRow w.heap.size 4 1 v4 np (boL P)) := by
          have := World.ownsRow.alloc ho4 (.cells #[.bool false] 4)
          rw [hnp] at this
          exact this
        have HU4 := Lib.hid u4
        have hs4 := u4.size
        rw [hnp] at hl5
        clear hnp ho4 u4
        go_wp2_with (at_builtin; refine wpList_append_own _ rfl _ _ 38 rfl w.heap.size 4 i0 (.bool false) 1 1 Try.underlying38 HI.out HZ0.out HZ1.out HZ2.out rfl (by decide) _ _ _ rfl HO5.out ⟨w4.heap.size, 0, none⟩ 1 1 [.bool false] rfl rfl (cell_one_new _ _ _) (one_mem' _ rfl) (by unfold maxLen; omega) (by omega) (by simp; omega) ?_)
        intro v' w5 hown' hgrow _
        have HB5 := Lib.hid (obs_append HPL.out hown')
        have HU5 := Lib.hid (grown_up' (HU4.out.trans (Up.alloc _ _)) HO5.out hgrow)
        clear hown' hgrow
        go_wp2_with fail
        go_ret
        exact ⟨_, rfl, by rw [HSD.out]; exact HB5.out, HU5.out⟩
      · rw [if_neg hik] at hsd
        have HR := Lib.hid (fun W => refSides_any f (n - spn n) (i - spn n) W (by omega) (by omega) (by omega))
        unfold SdPost at HR
        have hl5 := sd_len 5 (n - spn n) (i - spn n)
        generalize sd 5 (n - spn n) (i - spn n) = P at *
        have HSD := Lib.hid hsd
        generalize spn n = K at *
        have dk : decide (i < K) = false := decide_eq_false hik
        obtain ⟨J, hJ⟩ : ∃ J, i - K = J := ⟨_, rfl⟩
        obtain ⟨M, hM⟩ : ∃ M, n - K = M := ⟨_, rfl⟩
        have hJi : (i : Int) - (K : Int) = (J : Int) := by omega
        have hMi : (n : Int) - (K : Int) = (M : Int) := by omega
        rw [hJ, hM] at HR
        clear h1 hsd hf hJ hM
        go_enter Try.func22, Try.ntmps22
        go_wp2_with fail
        refine (HSP.out _).mono ?_
        rintro e w1 ⟨rfl, rfl⟩
        go_wp2_with fail
        refine (HR.out _).mono ?_
        rintro e w4 ⟨v4, rfl, ho4, u4⟩
        obtain ⟨np, hnp⟩ : ∃ np, P.length = np := ⟨_, rfl⟩
        have HPL := Lib.hid hnp
        have HO5 : Hid ((w4.alloc (.cells #[.bool true] 4)).ownsRow w.heap.size 4 1 v4 np (boL P)) := by
          have := World.ownsRow.alloc ho4 (.cells #[.bool true] 4)
          rw [hnp] at this
          exact this
        have HU4 := Lib.hid u4
        have hs4 := u4.size
        rw [hnp] at hl5
        clear hnp ho4 u4
        go_wp2_with (at_builtin; refine wpList_append_own _ rfl _ _ 38 rfl w.heap.size 4 i0 (.bool false) 1 1 Try.underlying38 HI.out HZ0.out HZ1.out HZ2.out rfl (by decide) _ _ _ rfl HO5.out ⟨w4.heap.size, 0, none⟩ 1 1 [.bool true] rfl rfl (cell_one_new _ _ _) (one_mem' _ rfl) (by unfold maxLen; omega) (by omega) (by simp; omega) ?_)
        intro v' w5 hown' hgrow _
        have HB5 := Lib.hid (obs_append HPL.out hown')
        have HU5 := Lib.hid (grown_up' (HU4.out.trans (Up.alloc _ _)) HO5.out hgrow)
        clear hown' hgrow
        go_wp2_with fail
        go_ret
        exact ⟨_, rfl, by rw [HSD.out]; exact HB5.out, HU5.out⟩

end Go.Proofs.Ytacbhjjmbepngaa
