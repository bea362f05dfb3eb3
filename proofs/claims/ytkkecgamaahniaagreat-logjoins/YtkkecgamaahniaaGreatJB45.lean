/-
  The texts LogD, LogE, LogF, one behind the other; each says below what it holds and on what conditions.
-/
import Derived.Test.YtkkecgamaahniaaGreatJB41
import Derived.Test.YtkkecgamaahniaaGreatJB30
import Derived.Test.YtkkecgamaahniaaGreatJB44
import Derived.Test.YtkkecgamaahniaaGreatJB24
import Derived.Test.YtkkecgamaahniaaGreatJB37

/-
  What package log's apply and Replay return. Conditions: a state that can be read; a log of at most 2^48 bytes.
-/
namespace Go.Proofs.YtkkecgamaahniaaGreat
open Go.RowKit
open Go.Proofs
open WoolBag
open WoolVol

/-- frames of kind 1 -/
theorem frames1 : Frames (frm 1) getV := by
  refine ⟨fun b => frm_length 1 b, fun b more h => get_put 1 b more (by omega) (by omega) h, fun b k h hk => ?_, fun s h => ?_⟩
  · rw [get_cut 1 b k (by omega) (by omega) h hk]
  · obtain ⟨K, b, _, _, h3, h4, h5, _⟩ := get_ok s h
    rw [h5]
    exact ⟨by show 7 ≤ b.length + 7; omega, h4⟩

/-- what apply answers -/
def appR (st : Sta) (k : Int) (b : List UInt8) : Sta × Bool :=
  if k ≠ 1 then (zeroS, false) else match decO b with
    | none => (zeroS, false)
    | some o => ((doO FP st o).1, decide ((doO FP st o).2 = 0))

def AppPost (w : World) (r : Sta × Bool) (e : Ending) (w' : World) : Prop :=
  ∃ (o1 : Option Addr) (c1 : Nat) (o2 : Option Addr) (c2 : Nat), e = .returned (.tuple #[.agg #[.slice o1 r.1.b.length c1, .slice o2 r.1.v.length c2], .bool r.2]) ∧ Stat w' (.agg #[.slice o1 r.1.b.length c1, .slice o2 r.1.v.length c2]) r.1 ∧ Up w w'

theorem decO_wf {b : List UInt8} {o : Opn} (h : decO b = some o) : OpWf o := by
  obtain ⟨_, hc⟩ := enc_dec h
  obtain ⟨h1, h2, h3, _, h5, h6, h7, _⟩ := chkO_ok hc
  have hn := nameB_len h3
  have ht := chkO_to hc
  exact ⟨wf_i64L (by omega), by omega, by omega, wf_i64L (by omega), by omega⟩

set_option maxRecDepth 100000 in
set_option maxHeartbeats 2000000 in
theorem apply_any (v : Value) (st : Sta) (k : Int) (b : List UInt8) (w : World) (h : Stat w v st) (g : WoolVol.Good FP st) (hb : b.length ≤ 281474976710656) :
    Calls Tryz.prog 22 #[v, .agg #[.int .i64 k, .string (bs b)]] w (AppPost w (appR st k b)) := by
  have HST := Lib.hid h
  have HGD := Lib.hid g
  obtain ⟨RS, hRS⟩ : ∃ RS, appR st k b = RS := ⟨_, rfl⟩
  rw [hRS]
  have HRS := Lib.hid hRS
  have HDE := Lib.hid (fun W => decode_any b W hb)
  have HWF := Lib.hid (fun o (h : decO b = some o) => decO_wf h)
  unfold decR at HDE
  obtain ⟨vb, vv, rfl, hbb, hvv⟩ := h
  obtain ⟨oB, cB, rfl, _⟩ := hbb.slice
  obtain ⟨oV, cV, rfl, _, _⟩ := hvv.slice
  clear hbb hvv hRS g
  obtain ⟨M, hM⟩ : ∃ M, st.b.length = M := ⟨_, rfl⟩
  obtain ⟨N, hN⟩ : ∃ N, st.v.length = N := ⟨_, rfl⟩
  rw [hM, hN] at HST ⊢
  clear hM hN
  have HA : Hid (RowC (((w.alloc (.cells #[.slice oB M cB, .slice oV N cV] 31)).alloc (.cells #[.int .i64 k, .string (bs b)] 56)).alloc (.cells #[.slice none 0 0, .slice none 0 0] 31)) w.heap.size 31 [.slice oB M cB, .slice oV N cV]) := RowC.up (heap_alloc_new w _) ((Up.alloc _ _).trans (Up.alloc _ _))
  have HF : Hid (RowC (((w.alloc (.cells #[.slice oB M cB, .slice oV N cV] 31)).alloc (.cells #[.int .i64 k, .string (bs b)] 56)).alloc (.cells #[.slice none 0 0, .slice none 0 0] 31)) (w.heap.size + 1) 56 [.int .i64 k, .string (bs b)]) := RowC.up (rowN_at [.int .i64 k, .string (bs b)] _ (by simp)) (Up.alloc _ _)
  have HR : Hid (RowC (((w.alloc (.cells #[.slice oB M cB, .slice oV N cV] 31)).alloc (.cells #[.int .i64 k, .string (bs b)] 56)).alloc (.cells #[.slice none 0 0, .slice none 0 0] 31)) (w.heap.size + 1 + 1) 31 [.slice none 0 0, .slice none 0 0]) := rowN_at [.slice none 0 0, .slice none 0 0] _ (by simp)
  have HU : Hid (Up w (((w.alloc (.cells #[.slice oB M cB, .slice oV N cV] 31)).alloc (.cells #[.int .i64 k, .string (bs b)] 56)).alloc (.cells #[.slice none 0 0, .slice none 0 0] 31))) := ((Up.alloc _ _).trans (Up.alloc _ _)).trans (Up.alloc _ _)
  go_enter Tryz.func22, Tryz.ntmps22
  go_upto_region 1 with (fail)
  generalize ((w.alloc (.cells #[.slice oB M cB, .slice oV N cV] 31)).alloc (.cells #[.int .i64 k, .string (bs b)] 56)).alloc (.cells #[.slice none 0 0, .slice none 0 0] 31) = W0 at HA HF HR HU ⊢
  obtain ⟨X, hX⟩ : ∃ X, w.heap.size + 1 + 1 = X := ⟨_, rfl⟩
  have HXW : Hid (w.heap.size ≤ X) := by show _ ≤ _; omega
  rw [hX] at HR ⊢
  clear hX
  generalize w.heap.size + 1 = F at HF ⊢
  generalize w.heap.size = A at HA ⊢
  have f0 := HF.out.cell (j := 0) rfl
  have f1 := HF.out.cell (j := 1) rfl
  have ZF : Hid (∀ W, RowC W X 31 [.slice none 0 0, .slice none 0 0] → Up w W → RS = (zeroS, false) → (∃ W2, (W.setCell ⟨X, 0, none⟩ (.slice none 0 0)).setCell ⟨X, 1, none⟩ (.slice none 0 0) = W2 ∧ W2.cell? ⟨X, 0, none⟩ = some (.slice none 0 0) ∧ W2.cell? ⟨X, 1, none⟩ = some (.slice none 0 0) ∧ AppPost w RS (.returned (.tuple #[.agg #[.slice none 0 0, .slice none 0 0], .bool false])) W2)) := by
    intro W hW hu he
    have hz := (hW.set 0 (.slice none 0 0)).set 1 (.slice none 0 0)
    refine ⟨_, rfl, hz.cell (j := 0) rfl, hz.cell (j := 1) rfl, ?_⟩
    subst he
    exact ⟨none, 0, none, 0, rfl, Stat.zero _, up2 hu HXW.out⟩
  by_cases hk : k = 1
  · subst hk
    have hdc : ∀ q, decO b = q → appR st 1 b = match q with | none => (zeroS, false) | some o => ((doO FP st o).1, decide ((doO FP st o).2 = 0)) := by
      intro q hq
      unfold appR
      rw [if_neg (by simp), hq]
    cases hd : decO b with
    | none =>
      have HZ : Hid (RS = (zeroS, false)) := by
        show _ = _
        rw [← HRS.out, hdc _ hd]
      rw [hd] at HDE
      simp only [Option.getD_none, Option.isSome_none, Bool.false_eq_true, if_false] at HDE
      unfold opA zeroO at HDE
      have he0 : bs [] = ⟨#[]⟩ := rfl
      simp only [he0] at HDE
      clear hd hdc HWF he0
      go_wp2_with fail
      refine (HDE.out _).mono ?_
      rintro e w2 ⟨rfl, u2⟩
      have hv := u2.trans (Up.alloc w2 (.cells #[.int .i64 0, .string ⟨#[]⟩, .string ⟨#[]⟩, .int .i64 0, .string ⟨#[]⟩] 27))
      have HR2 := Lib.hid (HR.out.up hv)
      have HU2 := Lib.hid (HU.out.trans hv)
      clear u2 hv f0 f1
      go_upto_region 4 with (fail)
      generalize w2.alloc (.cells #[.int .i64 0, .string ⟨#[]⟩, .string ⟨#[]⟩, .int .i64 0, .string ⟨#[]⟩] 27) = W3 at HR2 HU2 ⊢
      generalize w2.heap.size = Q
      have r0 := HR2.out.frozen 0
      have r1 := HR2.out.frozen 1
      have r2 := HR2.out.cell (j := 0) rfl
      have r3 := HR2.out.cell (j := 1) rfl
      go_wp2_with fail
      obtain ⟨WZ, hwz, z0, z1, hpost⟩ := ZF.out _ HR2.out HU2.out HZ.out
      rw [hwz]
      exact bodyPost_ret (v := .tuple #[.agg #[.slice none 0 0, .slice none 0 0], .bool false]) (by simp [results, Tryz.results22, go_sem, z0, z1]) rfl hpost
    | some o =>
      have HZ : Hid (RS = ((doO FP st o).1, decide ((doO FP st o).2 = 0))) := by
        show _ = _
        rw [← HRS.out, hdc _ hd]
      have HDO := Lib.hid (fun W (hW : Stat W (.agg #[.slice oB M cB, .slice oV N cV]) st) => do_any _ st o W hW (good_wf HGD.out) (HWF.out o hd))
      rw [hd] at HDE
      simp only [Option.getD_some, Option.isSome_some, if_true] at HDE
      unfold opA at HDE HDO
      unfold StEPost at HDO
      obtain ⟨⟨TS, TE⟩, hR⟩ : ∃ R, doO FP st o = R := ⟨_, rfl⟩
      rw [hR] at HDO HZ
      simp only at HDO HZ
      generalize bs o.nm = S1 at HDE HDO
      generalize bs o.to = S2 at HDE HDO
      generalize bs o.tx = S3 at HDE HDO
      generalize o.kd = K1 at HDE HDO
      generalize o.pl = K2 at HDE HDO
      clear hd hdc HWF hR HRS ZF
      go_wp2_with fail
      refine (HDE.out _).mono ?_
      rintro e w2 ⟨rfl, u2⟩
      have hv := u2.trans (Up.alloc w2 (.cells #[.int .i64 K1, .string S1, .string S2, .int .i64 K2, .string S3] 27))
      have HR2 := Lib.hid (HR.out.up hv)
      have HA2 := Lib.hid (HA.out.up hv)
      have HU2 := Lib.hid (HU.out.trans hv)
      have HO2 : Hid (RowC (w2.alloc (.cells #[.int .i64 K1, .string S1, .string S2, .int .i64 K2, .string S3] 27)) w2.heap.size 27 [.int .i64 K1, .string S1, .string S2, .int .i64 K2, .string S3]) := heap_alloc_new w2 _
      clear u2 hv f0 f1
      go_upto_region 4 with (fail)
      generalize w2.alloc (.cells #[.int .i64 K1, .string S1, .string S2, .int .i64 K2, .string S3] 27) = W3 at HR2 HA2 HO2 HU2 ⊢
      generalize w2.heap.size = Q at HO2 ⊢
      have y0 := HO2.out.cell (j := 0) rfl
      have y1 := HO2.out.cell (j := 1) rfl
      have y2 := HO2.out.cell (j := 2) rfl
      have y3 := HO2.out.cell (j := 3) rfl
      have y4 := HO2.out.cell (j := 4) rfl
      have a0 := HA2.out.cell (j := 0) rfl
      have a1 := HA2.out.cell (j := 1) rfl
      have HS3 := Lib.hid (HST.out.up HU2.out)
      go_wp2_with fail
      refine (HDO.out _ HS3.out).mono ?_
      rintro e w4 ⟨v4, rfl, ho4, u4⟩
      have hs4 := ho4.stat
      obtain ⟨o3, c3, o4, c4, hv4⟩ := hs4.shape
      subst hv4
      obtain ⟨n3, hn3⟩ : ∃ n3, TS.b.length = n3 := ⟨_, rfl⟩
      obtain ⟨n4, hn4⟩ : ∃ n4, TS.v.length = n4 := ⟨_, rfl⟩
      simp only at hs4 ⊢
      rw [hn3, hn4] at hs4 ⊢
      have hv := u4.trans (Up.alloc w4 (.cells #[.slice o3 n3 c3, .slice o4 n4 c4] 31))
      have HB5 : Hid (RowC (w4.alloc (.cells #[.slice o3 n3 c3, .slice o4 n4 c4] 31)) w4.heap.size 31 [.slice o3 n3 c3, .slice o4 n4 c4]) := heap_alloc_new w4 _
      have HS5 := Lib.hid (hs4.up (Up.alloc w4 (.cells #[.slice o3 n3 c3, .slice o4 n4 c4] 31)))
      have HR5 := Lib.hid (HR2.out.up hv)
      have HU5 := Lib.hid (HU2.out.trans hv)
      clear hv u4 ho4 hs4 y0 y1 y2 y3 y4 a0 a1
      go_upto_region 7 with (fail)
      generalize w4.alloc (.cells #[.slice o3 n3 c3, .slice o4 n4 c4] 31) = W5 at HB5 HS5 HR5 HU5 ⊢
      generalize w4.heap.size = Y at HB5 ⊢
      have b0 := HB5.out.cell (j := 0) rfl
      have b1 := HB5.out.cell (j := 1) rfl
      have r0 := HR5.out.frozen 0
      have r1 := HR5.out.frozen 1
      have r2 := HR5.out.cell (j := 0) rfl
      have r3 := HR5.out.cell (j := 1) rfl
      have hde : (TE == 0) = decide (TE = 0) := by by_cases h9 : TE = 0 <;> simp [h9]
      have HSZ := Lib.hid (Stat.boxed (x := .slice o3 n3 c3) (y := .slice o4 n4 c4) HS5.out HR5.out rfl rfl rfl)
      have HUZ := Lib.hid (up2 (x := .slice o3 n3 c3) (y := .slice o4 n4 c4) HU5.out HXW.out)
      have hz := (HR5.out.set 0 (.slice o3 n3 c3)).set 1 (.slice o4 n4 c4)
      have z0 := hz.cell (j := 0) rfl
      have z1 := hz.cell (j := 1) rfl
      have HPO : Hid (AppPost w RS (.returned (.tuple #[.agg #[.slice o3 n3 c3, .slice o4 n4 c4], .bool (decide (TE = 0))])) ((W5.setCell ⟨X, 0, none⟩ (.slice o3 n3 c3)).setCell ⟨X, 1, none⟩ (.slice o4 n4 c4))) := by
        rw [HZ.out]
        refine ⟨o3, c3, o4, c4, ?_, ?_, HUZ.out⟩
        · rw [hn3, hn4]
        · rw [hn3, hn4]
          exact HSZ.out
      have HEZ := Lib.hid (⟨z0, z1⟩ : _ ∧ _)
      clear hz z0 z1 HSZ HUZ hn3 hn4 HZ
      generalize decide (TE = 0) = DB at hde HPO
      go_wp2_with fail
      obtain ⟨z0, z1⟩ := HEZ.out
      have hpo := HPO.out
      generalize (W5.setCell ⟨X, 0, none⟩ (.slice o3 n3 c3)).setCell ⟨X, 1, none⟩ (.slice o4 n4 c4) = WZ at z0 z1 hpo ⊢
      exact bodyPost_ret (v := .tuple #[.agg #[.slice o3 n3 c3, .slice o4 n4 c4], .bool DB]) (by simp [results, Tryz.results22, go_sem, z0, z1]) rfl hpo
  · have hkz : (k == 1) = false := by rw [beq_eq_false_iff_ne]; exact hk
    have HZ : Hid (RS = (zeroS, false)) := by
      show _ = _
      rw [← HRS.out]
      unfold appR
      rw [if_pos hk]
    have r0 := HR.out.frozen 0
    have r1 := HR.out.frozen 1
    have r2 := HR.out.cell (j := 0) rfl
    have r3 := HR.out.cell (j := 1) rfl
    clear hk
    go_wp2_with fail
    obtain ⟨WZ, hwz, z0, z1, hpost⟩ := ZF.out _ HR.out HU.out HZ.out
    rw [hwz]
    exact bodyPost_ret (v := .tuple #[.agg #[.slice none 0 0, .slice none 0 0], .bool false]) (by simp [results, Tryz.results22, go_sem, z0, z1]) rfl hpost

end Go.Proofs.YtkkecgamaahniaaGreat

/-
  What package log's Replay returns. Conditions: a log of at most 2^48 bytes.
-/
namespace Go.Proofs.YtkkecgamaahniaaGreat
open Go.RowKit
open Go.Proofs
open WoolBag
open WoolVol

def strSz : Value → Nat
  | .string b => b.size
  | _ => 0

def RepPost (w : World) (r : Sta × Nat × Int) (e : Ending) (w' : World) : Prop :=
  ∃ (o1 : Option Addr) (c1 : Nat) (o2 : Option Addr) (c2 : Nat), e = .returned (.tuple #[.agg #[.slice o1 r.1.b.length c1, .slice o2 r.1.v.length c2], .int .i64 ((r.2.1 : Nat) : Int), .int .i64 r.2.2]) ∧ Stat w' (.agg #[.slice o1 r.1.b.length c1, .slice o2 r.1.v.length c2]) r.1 ∧ Up w w'

structure ReI (R X : Nat) (w : World) (RS : Sta × Nat × Int) (s : List UInt8) (n : Nat) (cur : Sta) (x y : Value) (wr : World) : Prop where
  row : RowC wr X 31 [x, y]
  box : RowC wr R 31 [.slice none 0 0, .slice none 0 0]
  st : Stat wr (.agg #[x, y]) cur
  good : WoolVol.Good FP cur
  eq : playG FP getV (s.length + 1) cur s n = RS
  le : n ≤ 200
  len : s.length ≤ 281474976710656
  up : Up w wr

def ReLoop (R X : Nat) (w : World) (RS : Sta × Nat × Int) (vs vn : Value) (wr : World) : Prop :=
  ∃ (s : List UInt8) (n : Nat) (cur : Sta) (x y : Value), vs = .string (bs s) ∧ vn = .int .i64 (n : Int) ∧ ReI R X w RS s n cur x y wr

/-- a round of the play -/
theorem play_step {cur : Sta} {s B : List UInt8} {n K Z E : Nat} {RS : Sta × Nat × Int} (hG : getV s = ((K, B), Z, E)) (h : playG FP getV (s.length + 1) cur s n = RS) :
    (E = 7 → RS = (cur, n, 0)) ∧ (E ≠ 7 → E ≠ 0 → RS = (zeroS, 0, (E : Int))) ∧ (E = 0 → Z ≤ s.length ∧ 0 < Z ∧ B.length ≤ 700 ∧ (n = 200 → RS = (zeroS, 0, 2)) ∧
      (n ≠ 200 → ((appR cur (K : Int) B).2 = false → RS = (zeroS, 0, 3)) ∧ ((appR cur (K : Int) B).2 = true → WoolVol.Good FP (appR cur (K : Int) B).1 ∧ playG FP getV ((s.drop Z).length + 1) (appR cur (K : Int) B).1 (s.drop Z) (n + 1) = RS))) := by
  have hs0 : s = [] → E = 7 := by
    rintro rfl
    have h9 : getV [] = ((0, []), 0, 7) := by rfl
    rw [h9] at hG
    simp only [Prod.mk.injEq] at hG
    omega
  have hu : playG FP getV (s.length + 1) cur s n = if s = [] ∨ (getV s).2.2 = 7 then (cur, n, 0)
    else if (getV s).2.2 ≠ 0 then (zeroS, 0, ((getV s).2.2 : Int))
    else if n = 200 then (zeroS, 0, 2)
    else match decO (getV s).1.2 with
      | none => (zeroS, 0, 3)
      | some o => if (getV s).1.1 ≠ 1 ∨ (doO FP cur o).2 ≠ 0 then (zeroS, 0, 3) else playG FP getV s.length (doO FP cur o).1 (s.drop (getV s).2.1) (n + 1) := rfl
  rw [hu, hG] at h
  simp only at h
  refine ⟨fun e => ?_, fun e7 e0 => ?_, fun e0 => ?_⟩
  · rw [if_pos (.inr e)] at h; exact h.symm
  · rw [if_neg (by rintro (h9 | h9); exact e7 (hs0 h9); exact e7 h9), if_pos e0] at h; exact h.symm
  · subst e0
    have hsn : ¬ (s = [] ∨ (0 : Nat) = 7) := by
      rintro (h9 | h9)
      · have := hs0 h9; omega
      · omega
    rw [if_neg hsn, if_neg (by simp)] at h
    obtain ⟨K', B', _, _, h3, h4, h5, _⟩ := get_ok s (by rw [hG])
    rw [hG] at h5
    simp only [Prod.mk.injEq] at h5
    obtain ⟨⟨rfl, rfl⟩, rfl, _⟩ := h5
    refine ⟨h4, by omega, h3, fun hn => ?_, fun hn => ?_⟩
    · rw [if_pos hn] at h; exact h.symm
    · rw [if_neg hn] at h
      unfold appR
      by_cases hK : K = 1
      · subst hK
        rw [if_neg (by simp)]
        cases hd : decO B with
        | none => rw [hd] at h; exact ⟨fun _ => h.symm, fun h9 => by simp at h9⟩
        | some o =>
          rw [hd] at h
          simp only at h ⊢
          by_cases hz : (doO FP cur o).2 = 0
          · rw [if_neg (by simp [hz])] at h
            refine ⟨fun h9 => by simp [hz] at h9, fun _ => ⟨?_, ?_⟩⟩
            · unfold doO at hz ⊢
              by_cases hc : chkO o ≠ 0
              · rw [if_pos hc]; exact zero_good
              · rw [if_neg hc] at hz ⊢
                exact (doK_good hz).2
            · rw [← h]
              refine play_fuel frames1 _ _ _ _ _ (by omega) ?_
              rw [List.length_drop]
              omega
          · rw [if_pos (.inr hz)] at h
            exact ⟨fun _ => h.symm, fun h9 => by simp [hz] at h9⟩
      · rw [if_pos (by omega)]
        refine ⟨fun _ => ?_, fun h9 => by simp at h9⟩
        cases hd : decO B with
        | none => rw [hd] at h; exact h.symm
        | some o => rw [hd] at h; simp only at h; rw [if_pos (.inl hK)] at h; exact h.symm

end Go.Proofs.YtkkecgamaahniaaGreat

/-
  What package log's Replay returns, walked. Conditions: a log of at most 2^48 bytes.
-/
namespace Go.Proofs.YtkkecgamaahniaaGreat
open Go.RowKit
open Go.Proofs
open WoolBag
open WoolVol

set_option maxRecDepth 100000 in
set_option maxHeartbeats 4000000 in
theorem replay_any (s : List UInt8) (w : World) (hl : s.length ≤ 281474976710656) : Calls Tryz.prog 8 #[.string (bs s)] w (RepPost w (replayG FP getV s)) := by
  obtain ⟨RS, hRS⟩ : ∃ RS, replayG FP getV s = RS := ⟨_, rfl⟩
  rw [hRS]
  have HX : Hid (RowC ((w.alloc (.cells #[.slice none 0 0, .slice none 0 0] 31)).alloc (.cells #[.slice none 0 0, .slice none 0 0] 31)) (w.heap.size + 1) 31 [.slice none 0 0, .slice none 0 0]) := box_new w _ _ _ _
  have HR : Hid (RowC ((w.alloc (.cells #[.slice none 0 0, .slice none 0 0] 31)).alloc (.cells #[.slice none 0 0, .slice none 0 0] 31)) w.heap.size 31 [.slice none 0 0, .slice none 0 0]) := RowC.up (rowN_at [.slice none 0 0, .slice none 0 0] _ rfl) (Up.alloc _ _)
  have HW0 : Hid (Up w ((w.alloc (.cells #[.slice none 0 0, .slice none 0 0] 31)).alloc (.cells #[.slice none 0 0, .slice none 0 0] 31))) := (Up.alloc _ _).trans (Up.alloc _ _)
  go_enter Tryz.func8, Tryz.ntmps8
  go_upto_region 2 with (fail)
  generalize (w.alloc (.cells #[.slice none 0 0, .slice none 0 0] 31)).alloc (.cells #[.slice none 0 0, .slice none 0 0] 31) = W0 at HX HR HW0 ⊢
  obtain ⟨X, hX⟩ : ∃ X, w.heap.size + 1 = X := ⟨_, rfl⟩
  have HXW : Hid (X = w.heap.size + 1) := hX.symm
  rw [hX] at HX ⊢
  obtain ⟨R, hR⟩ : ∃ R, w.heap.size = R := ⟨_, rfl⟩
  have HRW : Hid (R = w.heap.size) := hR.symm
  rw [hR] at HR ⊢
  clear hX hR
  have HRX : Hid (R ≠ X) := by have h1 := HXW.out; have h2 := HRW.out; show R ≠ X; omega
  have HXG : Hid (w.heap.size ≤ X) := by have h1 := HXW.out; show w.heap.size ≤ X; omega
  have HRG : Hid (w.heap.size ≤ R) := by have h1 := HRW.out; show w.heap.size ≤ R; omega
  have HST5 : Hid (ReLoop R X w RS (.string (bs s)) (.int .i64 0) W0) := ⟨s, 0, zeroS, _, _, rfl, rfl, ⟨HX.out, HR.out, Stat.zero _, zero_good, hRS, by omega, hl, HW0.out⟩⟩
  clear HX HR HW0 hRS hl
  go_wp2_with fail
  go_loopw [0, 6] (fun vs vn wr => ReLoop R X w RS vs vn wr) (fun vs _ _ => strSz vs)
  case atStart => exact HST5.out
  case round =>
    obtain ⟨s, n, cur, x, y, rfl, rfl, hI⟩ := hrel
    have HI := Lib.hid hI
    obtain ⟨vbx, vvx, hag, hbx, hvx⟩ := hI.st
    simp at hag
    obtain ⟨rfl, rfl⟩ := hag
    obtain ⟨p5, d5, rfl, _⟩ := hbx.slice
    obtain ⟨p6, d6, rfl, _, _⟩ := hvx.slice
    obtain ⟨L5, hL5⟩ : ∃ L5, cur.b.length = L5 := ⟨_, rfl⟩
    obtain ⟨L6, hL6⟩ : ∃ L6, cur.v.length = L6 := ⟨_, rfl⟩
    rw [hL5, hL6] at HI
    have HL5 := Lib.hid hL5
    have HL6 := Lib.hid hL6
    have hsz := bs_size s
    have HG := Lib.hid (fun W => frmGet_any s W hI.len)
    have hn200 := hI.le
    obtain ⟨⟨⟨K, B⟩, Z, E⟩, hGV⟩ : ∃ r, getV s = r := ⟨_, rfl⟩
    obtain ⟨hs1, hs2, hs3⟩ := play_step hGV hI.eq
    have HS1 := Lib.hid hs1
    have HS2 := Lib.hid hs2
    have HS3 := Lib.hid hs3
    unfold getR at HG
    rw [hGV] at HG
    unfold frmR at HG
    simp only at HG
    clear hs1 hs2 hs3 hGV hbx hvx hI hL5 hL6
    go_wp2_with fail
    refine (HG.out _).mono ?_
    rintro e w3 ⟨rfl, u3⟩
    have hv := u3.trans (Up.alloc w3 (.cells #[.int .i64 (K : Int), .string (bs B)] 56))
    have HF : Hid (RowC (w3.alloc (.cells #[.int .i64 (K : Int), .string (bs B)] 56)) w3.heap.size 56 [.int .i64 (K : Int), .string (bs B)]) := heap_alloc_new w3 _
    have HXA := Lib.hid (HI.out.row.up hv)
    have HRA := Lib.hid (HI.out.box.up hv)
    have HSA := Lib.hid (HI.out.st.up hv)
    have HUA := Lib.hid (HI.out.up.trans hv)
    clear u3 hv
    go_upto_region 5 with (fail)
    generalize w3.alloc (.cells #[.int .i64 (K : Int), .string (bs B)] 56) = W4 at HF HXA HRA HSA HUA ⊢
    generalize w3.heap.size = Q at HF ⊢
    have r0 := HRA.out.frozen 0
    have r1 := HRA.out.frozen 1
    have r2 := HRA.out.cell (j := 0) rfl
    have r3 := HRA.out.cell (j := 1) rfl
    by_cases h7 : E = 7
    · subst h7
      have HZ := Lib.hid (HS1.out rfl)
      have x0 := HXA.out.cell (j := 0) rfl
      have x1 := HXA.out.cell (j := 1) rfl
      clear HS1 HS2 HS3
      go_wp2_with fail
      have hz := (HRA.out.set 0 (.slice p5 L5 d5)).set 1 (.slice p6 L6 d6)
      have z0 := hz.cell (j := 0) rfl
      have z1 := hz.cell (j := 1) rfl
      have HSZ := Lib.hid (Stat.boxed (x := .slice p5 L5 d5) (y := .slice p6 L6 d6) HSA.out HRA.out rfl rfl rfl)
      have HUZ := Lib.hid (up2 (x := .slice p5 L5 d5) (y := .slice p6 L6 d6) HUA.out HRG.out)
      generalize (W4.setCell ⟨R, 0, none⟩ (.slice p5 L5 d5)).setCell ⟨R, 1, none⟩ (.slice p6 L6 d6) = WZ at z0 z1 HSZ HUZ ⊢
      exact bodyPost_ret (v := .tuple #[.agg #[.slice p5 L5 d5, .slice p6 L6 d6], .int .i64 (n : Int), .int .i64 0]) (by simp [results, Tryz.results8, go_sem, z0, z1]) rfl ⟨p5, d5, p6, d6, by rw [HZ.out]; simp only; rw [HL5.out, HL6.out], by rw [HZ.out]; simp only; rw [HL5.out, HL6.out]; exact HSZ.out, HUZ.out⟩
    have he7 : ((E : Int) == 7) = false := by rw [beq_eq_false_iff_ne]; omega
    by_cases h0 : E = 0
    · subst h0
      obtain ⟨hz1, hz2, hb7, hn2, hap⟩ := HS3.out rfl
      by_cases hn : n = 200
      · have HZ := Lib.hid (hn2 hn)
        subst hn
        clear HS1 HS2 HS3 hap hn2
        go_wp2_with fail
        have hz := (HRA.out.set 0 (.slice none 0 0)).set 1 (.slice none 0 0)
        have z0 := hz.cell (j := 0) rfl
        have z1 := hz.cell (j := 1) rfl
        have HUZ := Lib.hid (up2 (x := .slice none 0 0) (y := .slice none 0 0) HUA.out HRG.out)
        generalize (W4.setCell ⟨R, 0, none⟩ (.slice none 0 0)).setCell ⟨R, 1, none⟩ (.slice none 0 0) = WZ at z0 z1 HUZ ⊢
        exact bodyPost_ret (v := .tuple #[.agg #[.slice none 0 0, .slice none 0 0], .int .i64 0, .int .i64 2]) (by simp [results, Tryz.results8, go_sem, z0, z1]) rfl ⟨none, 0, none, 0, by rw [HZ.out]; rfl, by rw [HZ.out]; exact Stat.zero _, HUZ.out⟩
      · have hnz : ((n : Int) == 200) = false := by rw [beq_eq_false_iff_ne]; omega
        obtain ⟨ha1, ha2⟩ := hap hn
        have HAP := Lib.hid (apply_any _ cur (K : Int) B W4 HSA.out HI.out.good (by omega))
        obtain ⟨⟨TS, ok⟩, hA⟩ : ∃ r, appR cur (K : Int) B = r := ⟨_, rfl⟩
        rw [hA] at HAP ha1 ha2
        unfold AppPost at HAP
        simp only at HAP ha1 ha2
        have HA1 := Lib.hid ha1
        have HA2 := Lib.hid ha2
        have HXL := Lib.hid HXA.out.lt
        have x0 := HXA.out.cell (j := 0) rfl
        have x1 := HXA.out.cell (j := 1) rfl
        have y0 := HF.out.cell (j := 0) rfl
        have y1 := HF.out.cell (j := 1) rfl
        have HFB := Lib.hid (from_bs s (Z : Int) Z rfl hz1)
        have HDL : Hid ((s.drop Z).length = s.length - Z) := List.length_drop
        have HZ12 : Hid (Z ≤ s.length ∧ 0 < Z) := ⟨hz1, hz2⟩
        clear ha1 ha2 hA hap hn2 HS1 HS2 HS3 hz1 hz2 hb7
        go_wp2_with fail
        refine HAP.out.mono ?_
        rintro e w5 ⟨o7, c7, o8, c8, rfl, hs5, u5⟩
        obtain ⟨n7, hn7⟩ : ∃ n7, TS.b.length = n7 := ⟨_, rfl⟩
        obtain ⟨n8, hn8⟩ : ∃ n8, TS.v.length = n8 := ⟨_, rfl⟩
        rw [hn7, hn8] at hs5 ⊢
        have hv := u5.trans (Up.alloc w5 (.cells #[.slice o7 n7 c7, .slice o8 n8 c8] 31))
        have HY : Hid (RowC (w5.alloc (.cells #[.slice o7 n7 c7, .slice o8 n8 c8] 31)) w5.heap.size 31 [.slice o7 n7 c7, .slice o8 n8 c8]) := heap_alloc_new w5 _
        have HS6 := Lib.hid (hs5.up (Up.alloc w5 (.cells #[.slice o7 n7 c7, .slice o8 n8 c8] 31)))
        replace HXA := Lib.hid (HXA.out.up hv)
        replace HRA := Lib.hid (HRA.out.up hv)
        replace HUA := Lib.hid (HUA.out.trans hv)
        have HYX : Hid (X ≠ w5.heap.size) := Nat.ne_of_lt (Nat.lt_of_lt_of_le HXL.out u5.size)
        clear u5 hv hs5 x0 x1 y0 y1 r0 r1 r2 r3 hn7 hn8
        go_upto_region 12 with (fail)
        generalize w5.alloc (.cells #[.slice o7 n7 c7, .slice o8 n8 c8] 31) = W6 at HY HS6 HXA HRA HUA ⊢
        generalize w5.heap.size = Y at HY HYX ⊢
        cases ok with
        | false =>
          have HZ := Lib.hid (HA1.out rfl)
          have r0 := HRA.out.frozen 0
          have r1 := HRA.out.frozen 1
          have r2 := HRA.out.cell (j := 0) rfl
          have r3 := HRA.out.cell (j := 1) rfl
          go_wp2_with fail
          have hz := (HRA.out.set 0 (.slice none 0 0)).set 1 (.slice none 0 0)
          have z0 := hz.cell (j := 0) rfl
          have z1 := hz.cell (j := 1) rfl
          have HUZ := Lib.hid (up2 (x := .slice none 0 0) (y := .slice none 0 0) HUA.out HRG.out)
          generalize (W6.setCell ⟨R, 0, none⟩ (.slice none 0 0)).setCell ⟨R, 1, none⟩ (.slice none 0 0) = WZ at z0 z1 HUZ ⊢
          exact bodyPost_ret (v := .tuple #[.agg #[.slice none 0 0, .slice none 0 0], .int .i64 0, .int .i64 3]) (by simp [results, Tryz.results8, go_sem, z0, z1]) rfl ⟨none, 0, none, 0, by rw [HZ.out]; rfl, by rw [HZ.out]; exact Stat.zero _, HUZ.out⟩
        | true =>
          obtain ⟨hg2, hp2⟩ := HA2.out rfl
          have HG2 := Lib.hid hg2
          have HP2 := Lib.hid hp2
          have hfb := HFB.out
          have x0 := HXA.out.frozen 0
          have x1 := HXA.out.frozen 1
          have x2 := HXA.out.cell (j := 0) rfl
          have x3 := HXA.out.cell (j := 1) rfl
          have y0 := HY.out.cell (j := 0) rfl
          have y1 := HY.out.cell (j := 1) rfl
          clear hg2 hp2
          go_upto_region 14 with (fail)
          go_region
          have HX7 := Lib.hid (((HXA.out.set 0 (.slice o7 n7 c7)).set 1 (.slice o8 n8 c8)).up (Up.drew _))
          have HR7 := Lib.hid (((HRA.out.other HRX.out 0 (.slice o7 n7 c7)).other HRX.out 1 (.slice o8 n8 c8)).up (Up.drew _))
          have HS7 := Lib.hid ((Stat.boxed (x := .slice o7 n7 c7) (y := .slice o8 n8 c8) HS6.out HXA.out rfl rfl rfl).up (Up.drew _))
          have HU7 := Lib.hid ((up2 (x := .slice o7 n7 c7) (y := .slice o8 n8 c8) HUA.out HXG.out).trans (Up.drew _))
          generalize ((W6.setCell ⟨X, 0, none⟩ (.slice o7 n7 c7)).setCell ⟨X, 1, none⟩ (.slice o8 n8 c8)).drew = W7 at HX7 HR7 HS7 HU7 ⊢
          have hw9 : wrap64 ((n : Int) + 1) = (n : Int) + 1 := by unfold wrap64; omega
          clear x0 x1 x2 x3 y0 y1 hfb HAP HA1 HA2
          go_wp2_with fail
          go_roundw
          case rel => exact ⟨s.drop Z, n + 1, TS, _, _, rfl, by go_num, ⟨HX7.out, HR7.out, HS7.out, HG2.out, HP2.out, by omega, by have h9 := HDL.out; have h8 := HI.out.len; omega, HU7.out⟩⟩
          case measure =>
            have h9 := HDL.out
            have h8 := HZ12.out
            simp only [strSz, bs_size]
            omega
    · have HZ := Lib.hid (HS2.out h7 h0)
      have he0 : ((E : Int) == 0) = false := by rw [beq_eq_false_iff_ne]; omega
      clear HS1 HS2 HS3
      go_wp2_with fail
      have hz := (HRA.out.set 0 (.slice none 0 0)).set 1 (.slice none 0 0)
      have z0 := hz.cell (j := 0) rfl
      have z1 := hz.cell (j := 1) rfl
      have HUZ := Lib.hid (up2 (x := .slice none 0 0) (y := .slice none 0 0) HUA.out HRG.out)
      generalize (W4.setCell ⟨R, 0, none⟩ (.slice none 0 0)).setCell ⟨R, 1, none⟩ (.slice none 0 0) = WZ at z0 z1 HUZ ⊢
      exact bodyPost_ret (v := .tuple #[.agg #[.slice none 0 0, .slice none 0 0], .int .i64 0, .int .i64 (E : Int)]) (by simp [results, Tryz.results8, go_sem, z0, z1]) rfl ⟨none, 0, none, 0, by rw [HZ.out]; rfl, by rw [HZ.out]; exact Stat.zero _, HUZ.out⟩

end Go.Proofs.YtkkecgamaahniaaGreat
