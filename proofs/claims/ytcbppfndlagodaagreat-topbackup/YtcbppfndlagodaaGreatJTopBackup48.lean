/-
  The texts LawTree4, TreeH, one behind the other; each says below what it holds and on what conditions.
-/
import Derived.Test.YtcbppfndlagodaaGreatJTopBackup47

/-
  sync.root, leftHalf, compare and Compare. Conditions: as each says.
-/
namespace Go.Proofs.YtcbppfndlagodaaGreat
open Go.RowKit
open Go.Proofs
open WoolTree

set_option maxRecDepth 100000 in
theorem syncRoot_any (v : Value) (l : List (List UInt8)) (w : World) (h : Txs w v l) (hE : chkT l = 0) :
    Calls Tryz.prog 62 #[v] w fun e w' => e = .returned (.int .i64 ((rtx TH l : Nat) : Int)) ∧ Up w w' := by
  have HR := Lib.hid (rootT_any v l w h)
  rw [hE, rootV_ok hE] at HR
  obtain ⟨o, c, rfl, _, _⟩ := h.slice
  generalize rtx TH l = R at *
  generalize l.length = n at *
  clear h hE
  go_enter Tryz.func62, Tryz.ntmps62
  go_wp2_with fail
  refine HR.out.mono ?_
  rintro e w1 ⟨rfl, u1⟩
  go_wp2_with fail
  go_ret
  exact ⟨rfl, u1⟩

set_option maxRecDepth 100000 in
theorem bitsLen_any (x : Int) (w : World) (h0 : 0 ≤ x) (h1 : x ≤ 18446744073709551615) :
    Calls Tryz.prog 84 #[.int .u64 x] w fun e w' => e = .returned (.int .i64 (WoolMath.blen x.toNat)) ∧ w = w' := by
  have H := Lib.hid (fun W => len64 x W h0 h1)
  generalize WoolMath.blen x.toNat = B at *
  go_enter Tryz.func84, Tryz.ntmps84
  go_wp2_with fail
  refine (H.out _).mono ?_
  rintro e w1 ⟨rfl, rfl⟩
  go_wp2_with fail
  go_ret
  exact ⟨rfl, rfl⟩

theorem shl_oneL (j K : Nat) (hj : j ≤ 60) (hK : 2 ^ j = K) : wrap64 ((2 : Int) ^ j) = (K : Int) := by
  have h : 2 ^ j ≤ 2 ^ 60 := Nat.pow_le_pow_right (by omega) hj
  have h6 : (2 : Nat) ^ 60 = 1152921504606846976 := by decide
  have e : ((2 : Int) ^ j) = (K : Int) := by rw [← hK]; simp
  rw [e]
  unfold wrap64
  omega

set_option maxRecDepth 100000 in
theorem leftHalf_any (n : Nat) (w : World) (h2 : 2 ≤ n) (h32 : n ≤ 32) :
    Calls Tryz.prog 63 #[.int .i64 (n : Int)] w fun e w' => e = .returned (.int .i64 ((spn n : Nat) : Int)) ∧ w = w' := by
  have HB := Lib.hid (fun W => bitsLen_any ((n : Int) - 1) W (by omega) (by omega))
  rw [show ((n : Int) - 1).toNat = n - 1 by omega, WoolMath.blen_pos (n - 1) (by omega)] at HB
  have hl : (n - 1).log2 ≤ 4 := by
    have := (Nat.log2_lt (show n - 1 ≠ 0 by omega)).2 (show n - 1 < 2 ^ 5 by omega)
    omega
  have hs : spn n = 2 ^ (n - 1).log2 := rfl
  rw [hs]
  generalize (n - 1).log2 = j at *
  obtain ⟨K, hK⟩ : ∃ K, 2 ^ j = K := ⟨_, rfl⟩
  have hw := shl_oneL j K (by omega) hK
  rw [hK]
  have hj : (((j + 1 : Nat) : Int)) - 1 = (j : Int) := by omega
  clear hK hs
  go_enter Tryz.func63, Tryz.ntmps63
  go_wp2_with fail
  refine (HB.out _).mono ?_
  rintro e w1 ⟨rfl, rfl⟩
  go_wp2_with fail
  go_ret
  exact ⟨by rw [← hw]; rfl, rfl⟩

/-! ytcbppfndlagodaagreat# a row behind a row -/

/-- an append whose run is known -/
theorem wpList_append_runT {P : Program} (w : World) {ops : Array Oper} {rest : List Oper} {o : Oper} {a : Act} {Q : Exit → Act → World → Prop} (hgd : o.guard = none) (s x : Operand) (ts : Array TypeId)
    (ho : o.op = .call { callee := .builtin .append, args := #[s, x], argTypes := ts }) (v1 v2 v' : Value) (w' : World) (hs : a.eval s = v1) (hx : a.eval x = v2)
    (hrun : (Builtin.append_ ts o.type #[v1, v2]).run P w = .ok v' w') (h : wpList P ops Q rest (a.put o.dst v') w') : wpList P ops Q (o :: rest) a w := by
  refine wpList_plain hgd fun K hK => ?_
  unfold Oper.wp execOp
  simp only [ho, resolve, invoke, builtin, Sem.run_bind, Sem.run_pure, Result.andThen_ok, List.map_toArray, List.map_cons, List.map_nil, hs, hx, hrun]
  exact hK _ _ h

theorem intL_one (l : List Nat) : ∀ u ∈ intL l, u.oneCell' = true := by
  intro u h
  obtain ⟨x, _, rfl⟩ := List.mem_map.1 h
  rfl

theorem intL_append (a b : List Nat) : intL (a ++ b) = intL a ++ intL b := List.map_append

theorem run_ints_cat {w : World} {base b2 n c : Nat} {v : Value} {o : Option Addr} {l m : List Nat} (ty : TypeId) (h1 : Ints w base v l) (h2 : Ints w b2 (.slice o n c) m) (hs : l.length + m.length ≤ 1000000) (hb : base ≤ w.heap.size) :
    ∃ v' w', (Builtin.append_ #[22, 22] ty #[v, .slice o n c]).run Tryz.prog w = .ok v' w' ∧ Ints w' base v' (l ++ m) ∧ w.grownBy w' v.ownBlock := by
  obtain ⟨i, hi, hz0, hz1, hz2⟩ := info_parts intInfo
  rcases own_row h2 with ⟨e, hm, _⟩ | ⟨g, cap, sp, e, _, hr, _⟩
  · simp only [Value.slice.injEq] at e
    obtain ⟨rfl, rfl, rfl⟩ := e
    have hm0 : m = [] := List.eq_nil_of_length_eq_zero (by simpa [intL] using hm)
    subst hm0
    rw [List.append_nil]
    refine ⟨v, w, ?_, h1, World.grownBy.refl _ _⟩
    rcases own_row h1 with ⟨rfl, _⟩ | ⟨g, cap, sp, rfl, _, _, hc, _⟩
    · simp [Builtin.append_, run_underlying Tryz.underlying22, sizeOf, typeInfo, hi, Builtin.lenOf, Builtin.firstCells]
    · simp [Builtin.append_, run_underlying Tryz.underlying22, sizeOf, typeInfo, hi, Builtin.lenOf, Builtin.firstCells, storeCells, hc]
  · simp only [Value.slice.injEq] at e
    obtain ⟨rfl, rfl, rfl⟩ := e
    obtain ⟨v', w', hrun, ho, hg, _⟩ := run_append_own_at (P := Tryz.prog) w base 22 ty 3 i (.int .i64 0) 1 8 Tryz.underlying22 hi hz0 hz1 hz2 rfl (by decide) v l.length (intL l) h1 ⟨g, 0, none⟩ m.length c (intL m) (by rw [intL_length, Nat.mul_one])
      (fun j u hj => by rw [add_offT, Nat.zero_add]; exact hr.cell (by rw [List.getElem?_append_left (List.getElem?_eq_some_iff.1 hj).1]; exact hj)) (intL_one m) (by unfold maxLen; omega) (by omega) hb
    refine ⟨v', w', hrun, ?_, hg⟩
    unfold Ints
    rw [intL_append, List.length_append]
    exact ho

/-! ytcbppfndlagodaagreat# compare -/

def CpPost (r : List Nat × Nat) (w : World) (e : Ending) (w' : World) : Prop := ∃ v, e = .returned (.tuple #[v, .int .i64 (r.2 : Int)]) ∧ Ints w' w.heap.size v r.1 ∧ Up w w'

theorem cm_short (n : Nat) (a b : List (List UInt8)) (f : Nat) (h0 : 0 < a.length) (hn : a.length ≤ n) : (cm TH n a b f).1.length ≤ a.length ∧ (cm TH n a b f).2 ≤ 2 * a.length := by
  have h2 := cm_many TH n a b f h0 hn
  refine ⟨?_, by omega⟩
  obtain ⟨p, r⟩ := cm_rise TH n a b f h0
  have hsub : (cm TH n a b f).1 ⊆ (List.range a.length).map (· + f) := by
    intro i hi
    have := r i hi
    rw [List.mem_map]
    exact ⟨i - f, by rw [List.mem_range]; omega, by omega⟩
  have hnd : (cm TH n a b f).1.Nodup := p.imp (fun h => Nat.ne_of_lt h)
  have := hnd.length_le_of_subset hsub
  simpa using this

set_option maxRecDepth 100000 in
set_option maxHeartbeats 2000000 in
theorem compare_any : ∀ (n : Nat) (a b : List (List UInt8)) (v1 v2 : Value) (f : Nat) (w : World), Txs w v1 a → Txs w v2 b → chkT a = 0 → chkT b = 0 → a.length = b.length → a.length ≤ n → f + a.length ≤ 64 →
    Calls Tryz.prog 32 #[v1, v2, .int .i64 (f : Int)] w (CpPost (cm TH n a b f) w)
  | 0, a, b, v1, v2, f, w, h1, h2, ca, cb, hl, hn, hf => by
    have := (chkT_ok ca).1
    omega
  | n + 1, a, b, v1, v2, f, w, h1, h2, ca, cb, hl, hn, hf => by
    obtain ⟨a0, a32, _⟩ := chkT_ok ca
    have HR1 := Lib.hid (fun W (hW : Up w W) => syncRoot_any v1 a W (h1.up hW) ca)
    have HR2 := Lib.hid (fun W (hW : Up w W) => syncRoot_any v2 b W (h2.up hW) cb)
    obtain ⟨o1, c1, rfl, _, _⟩ := h1.slice
    obtain ⟨o2, c2, rfl, _, _⟩ := h2.slice
    rw [← hl] at HR2 h2 ⊢
    by_cases hr : rtx TH a = rtx TH b
    · rw [cm_same TH n a b f hr]
      rw [← hr] at HR2
      generalize rtx TH a = R at *
      have drr : ((R : Int) == (R : Int)) = true := by simp
      generalize a.length = m at *
      clear h1 h2 ca cb hl hn hr
      go_enter Tryz.func32, Tryz.ntmps32
      go_wp2_with fail
      refine (HR1.out _ (Up.refl _)).mono ?_
      rintro e w1 ⟨rfl, u1⟩
      have HU1 := Lib.hid u1
      clear u1
      go_wp2_with fail
      refine (HR2.out _ HU1.out).mono ?_
      rintro e w2 ⟨rfl, u2⟩
      go_wp2_with fail
      go_ret2
      exact ⟨_, rfl, Ints.nil _ _, HU1.out.trans u2⟩
    · have drr : ((rtx TH a : Int) == (rtx TH b : Int)) = false := by rw [beq_eq_false_iff_ne]; omega
      by_cases h1l : a.length ≤ 1
      · rw [cm_leaf TH n a b f hr h1l]
        have hm : a.length = 1 := by omega
        rw [hm] at HR1 HR2 ⊢
        generalize rtx TH a = RA at *
        generalize rtx TH b = RB at *
        clear h1 h2 ca cb hl hn hr a32 a0 h1l hm
        go_enter Tryz.func32, Tryz.ntmps32
        go_wp2_with fail
        refine (HR1.out _ (Up.refl _)).mono ?_
        rintro e w1 ⟨rfl, u1⟩
        have HU1 := Lib.hid u1
        clear u1
        go_wp2_with fail
        refine (HR2.out _ HU1.out).mono ?_
        rintro e w2 ⟨rfl, u2⟩
        have HU2 := Lib.hid (HU1.out.trans u2)
        clear u2
        go_wp2_with fail
        go_ret2
        refine ⟨_, rfl, ?_, HU2.out.trans (Up.alloc _ _)⟩
        exact World.ownsRow_lit w2 _ 1 HU2.out.size (by unfold maxLen; omega) rfl
      · have h2l : 2 ≤ a.length := by omega
        rw [cm_pair TH n a b f hr h2l]
        have s1 := spn_lt a.length h2l
        have s0 := spn_pos a.length
        have HLH := Lib.hid (fun W => leftHalf_any a.length W h2l a32)
        obtain ⟨oA1, runA1, rdA1⟩ := h1.upto (spn a.length) (by omega)
        obtain ⟨oA2, runA2, rdA2⟩ := h2.upto (spn a.length) (by omega)
        obtain ⟨oB1, runB1, rdB1⟩ := h1.from (spn a.length) (by omega)
        obtain ⟨oB2, runB2, rdB2⟩ := h2.from (spn a.length) (by omega)
        rw [← hl] at runB2 rdB2
        have t1 : (a.take (spn a.length)).length = spn a.length := by rw [List.length_take]; omega
        have t2 : (b.take (spn a.length)).length = spn a.length := by rw [List.length_take]; omega
        have t3 : (a.drop (spn a.length)).length = a.length - spn a.length := List.length_drop
        have t4 : (b.drop (spn a.length)).length = a.length - spn a.length := by rw [List.length_drop, hl]
        have HA := Lib.hid (fun W (hW : Up w W) => compare_any n (a.take (spn a.length)) (b.take (spn a.length)) _ _ f W (rdA1.up hW) (rdA2.up hW) (chkT_take ca _ s0 (by omega)) (chkT_take cb _ s0 (by omega)) (by omega) (by omega) (by omega))
        have HB := Lib.hid (fun W (hW : Up w W) => compare_any n (a.drop (spn a.length)) (b.drop (spn a.length)) _ _ (f + spn a.length) W (rdB1.up hW) (rdB2.up hW) (chkT_drop ca _ (by omega)) (chkT_drop cb _ (by omega)) (by omega) (by omega) (by omega))
        have k1 := cm_short n (a.take (spn a.length)) (b.take (spn a.length)) f (by omega) (by omega)
        have k2 := cm_short n (a.drop (spn a.length)) (b.drop (spn a.length)) (f + spn a.length) (by omega) (by omega)
        rw [t1] at k1
        rw [t3] at k2
        have hfk : (f : Int) + ((spn a.length : Nat) : Int) = ((f + spn a.length : Nat) : Int) := by omega
        have hfk2 : f + spn a.length ≤ 64 := by omega
        generalize cm TH n (a.take (spn a.length)) (b.take (spn a.length)) f = r1 at *
        generalize cm TH n (a.drop (spn a.length)) (b.drop (spn a.length)) (f + spn a.length) = r2 at *
        obtain ⟨r1a, r1b⟩ := r1
        obtain ⟨r2a, r2b⟩ := r2
        simp only at k1 k2 ⊢
        unfold CpPost at HA HB
        have dm : ((a.length : Int) == 1) = false := by rw [beq_eq_false_iff_ne]; omega
        generalize rtx TH a = RA at *
        generalize rtx TH b = RB at *
        generalize spn a.length = K at *
        generalize a.length = m at *
        obtain ⟨fk, hfe⟩ : ∃ fk, f + K = fk := ⟨_, rfl⟩
        rw [hfe] at hfk hfk2 HB
        have hwf : IntKind.i64.wrap (fk : Int) = (fk : Int) := IntWalk.i64_in _ (by omega)
        clear h1 h2 ca cb hl hn hr h1l t1 t2 t3 t4 rdA1 rdA2 rdB1 rdB2 hfe
        go_enter Tryz.func32, Tryz.ntmps32
        go_wp2_with fail
        refine (HR1.out _ (Up.refl _)).mono ?_
        rintro e w1 ⟨rfl, u1⟩
        have HU1 := Lib.hid u1
        clear u1
        go_wp2_with fail
        refine (HR2.out _ HU1.out).mono ?_
        rintro e w2 ⟨rfl, u2⟩
        have HU2 := Lib.hid (HU1.out.trans u2)
        clear u2
        go_wp2_with fail
        refine (HLH.out _).mono ?_
        rintro e w3 ⟨rfl, rfl⟩
        go_wp2_with fail
        go_region_held3 (fun _ => True) (trivial) ((go_at_call 32; ((with_reducible refine (HA.out _ (HU2.out.trans (Up.drew _))).mono ?_); rintro e w4 ⟨v4, rfl, hi4, u4⟩; obtain ⟨o4, c4, hv4⟩ := hi4.shape; subst hv4; have HI4 := Lib.hid hi4; have HU4 := Lib.hid (HU2.out.trans ((Up.drew _).trans u4)); clear hi4 u4)))
        all_goals
          go_wp2_with fail
          go_region_held3 (fun _ => True) (trivial) ((go_at_call 32; ((with_reducible refine (HB.out _ (HU4.out.trans (Up.drew _))).mono ?_); rintro e w5 ⟨v5, rfl, hi5, u5⟩; obtain ⟨o5, c5, hv5⟩ := hi5.shape; subst hv5; have HI5 := Lib.hid hi5; have HU45 := Lib.hid ((Up.drew _).trans u5); have HU5 := Lib.hid (HU4.out.trans ((Up.drew _).trans u5)); clear hi5 u5)))
          all_goals
            have hcat := run_ints_cat 22 (own_baseT (HI4.out.up HU45.out) HU2.out.size) HI5.out (by omega) HU5.out.size
            obtain ⟨v6, w6, hrun, hi6, hg6⟩ := hcat
            have HI6 := Lib.hid hi6
            have HU6 := Lib.hid (grown_upT HU5.out (own_baseT (HI4.out.up HU45.out) HU2.out.size) hg6)
            clear hi6 hg6
            go_wp2_with (at_builtin; refine wpList_append_runT _ rfl _ _ #[22, 22] rfl _ _ _ _ rfl rfl hrun ?_)
            go_wp2_with fail
            go_ret2
            refine ⟨v6, ?_, HI6.out, HU6.out⟩
            have e1 : ((1 + r1b + r2b : Nat) : Int) = 1 + (r1b : Int) + (r2b : Int) := by omega
            simp only [e1]
            rfl

end Go.Proofs.YtcbppfndlagodaaGreat

/-
  What Compare of package sync returns. Conditions: as each says.
-/
namespace Go.Proofs.YtcbppfndlagodaaGreat
open Go.RowKit
open Go.Proofs
open WoolTree

def cpE (a b : List (List UInt8)) : Int := if chkT a ≠ 0 then chkT a else if chkT b ≠ 0 then chkT b else if a.length ≠ b.length then 11 else 0
def cpV (a b : List (List UInt8)) : List Nat × Nat := if cpE a b = 0 then cm TH a.length a b 0 else ([], 0)

theorem cpE_ok {a b : List (List UInt8)} (h : cpE a b = 0) : chkT a = 0 ∧ chkT b = 0 ∧ a.length = b.length := by
  unfold cpE at h
  by_cases h1 : chkT a ≠ 0
  · rw [if_pos h1] at h; exact absurd h h1
  · rw [if_neg h1] at h
    by_cases h2 : chkT b ≠ 0
    · rw [if_pos h2] at h; exact absurd h h2
    · rw [if_neg h2] at h
      by_cases h3 : a.length ≠ b.length
      · rw [if_pos h3] at h; cases h
      · exact ⟨by omega, by omega, by omega⟩

def CmpPost (a b : List (List UInt8)) (w : World) (e : Ending) (w' : World) : Prop := ∃ v, e = .returned (.tuple #[v, .int .i64 ((cpV a b).2 : Int), .int .i64 (cpE a b)]) ∧ Ints w' w.heap.size v (cpV a b).1 ∧ Up w w'

set_option maxRecDepth 100000 in
set_option maxHeartbeats 1000000 in
theorem compareT_any (v1 v2 : Value) (a b : List (List UInt8)) (w : World) (h1 : Txs w v1 a) (h2 : Txs w v2 b) :
    Calls Tryz.prog 11 #[v1, v2] w (CmpPost a b w) := by
  have HC1 := Lib.hid (fun W (hW : Up w W) => checkT_any v1 a W (h1.up hW))
  have HC2 := Lib.hid (fun W (hW : Up w W) => checkT_any v2 b W (h2.up hW))
  have H1 := Lib.hid h1
  have H2 := Lib.hid h2
  obtain ⟨o1, c1, rfl, _, _⟩ := h1.slice
  obtain ⟨o2, c2, rfl, _, _⟩ := h2.slice
  by_cases ha : chkT a = 0
  · by_cases hb : chkT b = 0
    · rw [ha] at HC1
      rw [hb] at HC2
      by_cases hl : a.length = b.length
      · have hE : cpE a b = 0 := by unfold cpE; rw [if_neg (by rw [ha]; simp), if_neg (by rw [hb]; simp), if_neg (by omega)]
        have hV : cpV a b = cm TH a.length a b 0 := if_pos hE
        unfold CmpPost
        rw [hE, hV]
        have HCM := Lib.hid (fun W (hW : Up w W) => compare_any a.length a b _ _ 0 W (H1.out.up hW) (H2.out.up hW) ha hb hl (Nat.le_refl _) (by have := (chkT_ok ha).2.1; omega))
        unfold CpPost at HCM
        rw [← hl] at HCM HC2 ⊢
        generalize cm TH a.length a b 0 = r at *
        obtain ⟨r1, r2⟩ := r
        simp only at HCM ⊢
        generalize a.length = m at *
        have dm : ((m : Int) != (m : Int)) = false := by simp
        clear h1 h2 H1 H2 ha hb hl hE hV
        go_enter Tryz.func11, Tryz.ntmps11
        go_wp2_with fail
        refine (HC1.out _ (Up.refl _)).mono ?_
        rintro e w1 ⟨rfl, u1⟩
        have HU1 := Lib.hid u1
        clear u1
        go_wp2_with fail
        refine (HC2.out _ HU1.out).mono ?_
        rintro e w2 ⟨rfl, u2⟩
        have HU2 := Lib.hid (HU1.out.trans u2)
        clear u2
        go_wp2_with fail
        refine (HCM.out _ HU2.out).mono ?_
        rintro e w3 ⟨v3, rfl, hi3, u3⟩
        obtain ⟨o3, c3, hv3⟩ := hi3.shape
        subst hv3
        have HI3 := Lib.hid hi3
        have HU3 := Lib.hid (HU2.out.trans u3)
        clear hi3 u3
        go_wp2_with fail
        exact bodyPost_ret (v := .tuple #[.slice o3 r1.length c3, .int .i64 (r2 : Int), .int .i64 0]) (by simp [results, Tryz.results11, go_sem]) rfl ⟨_, rfl, own_baseT HI3.out HU2.out.size, HU3.out⟩
      · have hE : cpE a b = 11 := by unfold cpE; rw [if_neg (by rw [ha]; simp), if_neg (by rw [hb]; simp), if_pos hl]
        have hV : cpV a b = ([], 0) := by unfold cpV; rw [hE]; rfl
        unfold CmpPost
        rw [hE, hV]
        have dm : ((a.length : Int) != (b.length : Int)) = true := by rw [bne_iff_ne]; omega
        generalize a.length = m at *
        generalize b.length = n at *
        clear h1 h2 H1 H2 ha hb hl hE hV
        go_enter Tryz.func11, Tryz.ntmps11
        go_wp2_with fail
        refine (HC1.out _ (Up.refl _)).mono ?_
        rintro e w1 ⟨rfl, u1⟩
        have HU1 := Lib.hid u1
        clear u1
        go_wp2_with fail
        refine (HC2.out _ HU1.out).mono ?_
        rintro e w2 ⟨rfl, u2⟩
        have HU2 := Lib.hid (HU1.out.trans u2)
        clear u2
        go_wp2_with fail
        exact bodyPost_ret (v := .tuple #[.slice none 0 0, .int .i64 ((0 : Nat) : Int), .int .i64 11]) (by simp [results, Tryz.results11, go_sem]) rfl ⟨_, rfl, Ints.nil _ _, HU2.out⟩
    · have hE : cpE a b = chkT b := by unfold cpE; rw [if_neg (by rw [ha]; simp), if_pos hb]
      have hV : cpV a b = ([], 0) := by unfold cpV; rw [if_neg (by rw [hE]; exact hb)]
      unfold CmpPost
      rw [hE, hV]
      rw [ha] at HC1
      have hne : (chkT b != 0) = true := by rw [bne_iff_ne]; exact hb
      generalize chkT b = E at *
      generalize a.length = m at *
      generalize b.length = n at *
      clear h1 h2 H1 H2 ha hb hE hV
      go_enter Tryz.func11, Tryz.ntmps11
      go_wp2_with fail
      refine (HC1.out _ (Up.refl _)).mono ?_
      rintro e w1 ⟨rfl, u1⟩
      have HU1 := Lib.hid u1
      clear u1
      go_wp2_with fail
      refine (HC2.out _ HU1.out).mono ?_
      rintro e w2 ⟨rfl, u2⟩
      have HU2 := Lib.hid (HU1.out.trans u2)
      clear u2
      go_wp2_with fail
      exact bodyPost_ret (v := .tuple #[.slice none 0 0, .int .i64 ((0 : Nat) : Int), .int .i64 E]) (by simp [results, Tryz.results11, go_sem]) rfl ⟨_, rfl, Ints.nil _ _, HU2.out⟩
  · have hE : cpE a b = chkT a := by unfold cpE; rw [if_pos ha]
    have hV : cpV a b = ([], 0) := by unfold cpV; rw [if_neg (by rw [hE]; exact ha)]
    unfold CmpPost
    rw [hE, hV]
    have hne : (chkT a != 0) = true := by rw [bne_iff_ne]; exact ha
    generalize chkT a = E at *
    generalize a.length = m at *
    generalize b.length = n at *
    clear h1 h2 H1 H2 ha hE hV
    go_enter Tryz.func11, Tryz.ntmps11
    go_wp2_with fail
    refine (HC1.out _ (Up.refl _)).mono ?_
    rintro e w1 ⟨rfl, u1⟩
    have HU1 := Lib.hid u1
    clear u1
    go_wp2_with fail
    exact bodyPost_ret (v := .tuple #[.slice none 0 0, .int .i64 ((0 : Nat) : Int), .int .i64 E]) (by simp [results, Tryz.results11, go_sem]) rfl ⟨_, rfl, Ints.nil _ _, HU1.out⟩

end Go.Proofs.YtcbppfndlagodaaGreat
