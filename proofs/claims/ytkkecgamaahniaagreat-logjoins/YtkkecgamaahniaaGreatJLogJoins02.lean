/-
  A log with a turned body in the middle, in plain words; a piece of a slice of deeds. Conditions: as each says.
-/
import Derived.Test.YtkkecgamaahniaaGreatJB46
import Derived.Test.YtkkecgamaahniaaGreatJLogJoins01
namespace Go.Proofs.YtkkecgamaahniaaGreat
open Go.RowKit
open Go.Proofs
open WoolBag
open WoolVol

theorem add_offL (b off k : Nat) : (⟨b, off, none⟩ : Addr).add k = ⟨b, off + k, none⟩ := by
  unfold Addr.add
  split
  · rename_i e; subst e; rfl
  · rfl

theorem size_op (W : World) : (sizeOf 27).run Tryz.prog W = .ok 5 W := by
  obtain ⟨i, hi, _, hz1, _⟩ := info_parts opInfoG
  simp [sizeOf, typeInfo, hi, hz1]

/-- a piece of a slice of deeds -/
theorem Ops.sub {w : World} {o : Option Addr} {n c : Nat} {l : List Opn} (h : Ops w (.slice o n c) l) (a b : Nat) (hab : a ≤ b) (hb : b ≤ l.length) : Ops w (.slice (if c = a then o else o.map (·.add (a * 5))) (b - a) (c - a)) ((l.take b).drop a) := by
  obtain ⟨⟨h0, o', c', e, h2, h3, h4⟩, hw⟩ := h
  simp only [Value.slice.injEq] at e
  obtain ⟨rfl, rfl, rfl⟩ := e
  have hlen : ((l.take b).drop a).length = b - a := by rw [List.length_drop, List.length_take]; omega
  refine ⟨⟨by rw [fl_length opC_len], _, c - a, by rw [hlen], by omega, by unfold maxLen at *; omega, ?_⟩, fun x hx => hw x (List.mem_of_mem_take (List.mem_of_mem_drop hx))⟩
  by_cases hz : b = a
  · left; omega
  · right
    rcases h4 with h4 | ⟨g, off, rfl, h6⟩
    · omega
    · refine ⟨g, off + a * 5, ?_, fun j u hj => ?_⟩
      · rw [if_neg (by omega), Option.map_some, add_offL]
      · rw [fl_drop opC_len, List.getElem?_drop, fl_take opC_len, List.getElem?_take] at hj
        split at hj
        · rw [Nat.add_assoc]
          exact h6 _ u hj
        · cases hj

set_option maxRecDepth 100000 in
/-- the deeds between two places, cut off -/
theorem Ops.between {w : World} {o : Option Addr} {n c : Nat} {l : List Opn} (h : Ops w (.slice o n c) l) (a b : Nat) (hab : a ≤ b) (hb : b ≤ l.length) :
    ∃ o', (∀ W, (Instr.slice 22 (.slice o n c) (some (.int .i64 (a : Int))) (some (.int .i64 (b : Int))) none).run Tryz.prog W = .ok (.slice o' (b - a) (c - a)) W) ∧ Ops w (.slice o' (b - a) (c - a)) ((l.take b).drop a) := by
  obtain ⟨o9, c9, e, hc, _⟩ := h.slice
  simp only [Value.slice.injEq] at e
  obtain ⟨rfl, rfl, rfl⟩ := e
  have := h.sub a b hab hb
  refine ⟨_, fun W => ?_, this⟩
  rw [run_slice_lh W 22 o l.length c Tryz.underlying22 .i64 .i64 (a : Int) (b : Int) (by omega) (by omega) (by omega)]
  rw [show Tryz.prog.elem 22 = 27 from by kernel_rfl, size_op]
  rfl

/-- what follows a whole frame does not matter -/
theorem get_more {y more : List UInt8} (h3 : 3 ≤ y.length) (h : y.length = bl y + 7) : getV (y ++ more) = getV y := by
  have t1 : (y ++ more).take 1 = y.take 1 := List.take_append_of_le_length (by omega)
  have b1 : bl (y ++ more) = bl y := by
    unfold bl
    rw [List.drop_append_of_le_length (by omega), List.take_append_of_le_length (by rw [List.length_drop]; omega)]
  have t2 : ((y ++ more).drop (3 + bl y)).take 4 = (y.drop (3 + bl y)).take 4 := by
    rw [List.drop_append_of_le_length (by omega), List.take_append_of_le_length (by rw [List.length_drop]; omega)]
  have t3 : (y ++ more).take (3 + bl y) = y.take (3 + bl y) := List.take_append_of_le_length (by omega)
  have t4 : ((y ++ more).drop 3).take (bl y) = (y.drop 3).take (bl y) := by
    rw [List.drop_append_of_le_length (by omega), List.take_append_of_le_length (by rw [List.length_drop]; omega)]
  have hl : (y ++ more).length = y.length + more.length := List.length_append
  unfold getV
  rw [b1, t1, t2, t3, t4, hl]
  rw [if_neg (show ¬ y.length + more.length < 3 by omega), if_neg (show ¬ y.length < 3 by omega), if_neg (show ¬ y.length + more.length < bl y + 7 by omega), if_neg (show ¬ y.length < bl y + 7 by omega)]

/-- a log whose frame q is turned -/
theorem burst_replay {K : List Opn} {S : Sta} (hk : KeptL K S) {q : Nat} (hq : q < K.length) {Y rest : List UInt8} {T E : Nat} (hl : Y.length = ((frm 1 (encO K[q])).drop 3).length) (hT0 : T ≠ 0) (hT : T < 65536) (hs : sp Y = sp ((frm 1 (encO K[q])).drop 3) ^^^ T * 2 ^ E) :
    replayG FP getV (logG (frm 1) (K.take q) ++ (frm 1 (encO K[q])).take 3 ++ Y ++ rest) = (zeroS, 0, 6) := by
  have hc := hk.chk _ (List.getElem_mem hq)
  have hel := encO_len hc
  have hfl := frm_length 1 (encO K[q])
  rw [List.length_drop, hfl] at hl
  have hg := get_burst 1 (encO K[q]) Y T E (by omega) (by omega) (by omega) (by omega) hT0 hT hs
  have hylen : ((frm 1 (encO K[q])).take 3 ++ Y).length = (encO K[q]).length + 7 := by rw [List.length_append, List.length_take, hfl, hl]; omega
  have hb0 : bl ((frm 1 (encO K[q])).take 3 ++ Y) = (encO K[q]).length := by
    obtain ⟨_, a2, _⟩ := frm_head 1 (encO K[q]) [] (by omega) (by omega)
    rw [List.append_nil] at a2
    have e : bl ((frm 1 (encO K[q])).take 3 ++ Y) = bl (frm 1 (encO K[q])) := by
      unfold bl
      rw [List.drop_append_of_le_length (by rw [List.length_take]; omega), List.take_append_of_le_length (by rw [List.length_drop, List.length_take]; omega), List.drop_take, List.take_take]
      rfl
    rw [e, a2]
  have hg2 : getV ((frm 1 (encO K[q])).take 3 ++ Y ++ rest) = ((0, []), 0, 6) := by
    rw [get_more (by rw [hylen]; omega) (by rw [hylen, hb0])]
    exact hg
  obtain ⟨mid, hr, _⟩ := runs_take K q hk.runs
  have hlen := hk.len
  have e : logG (frm 1) (K.take q) ++ (frm 1 (encO K[q])).take 3 ++ Y ++ rest = logG (frm 1) (K.take q) ++ ((frm 1 (encO K[q])).take 3 ++ Y ++ rest) := by simp [List.append_assoc]
  rw [e]
  unfold replayG
  rw [play_log frames1 (K.take q) ((frm 1 (encO K[q])).take 3 ++ Y ++ rest) 0 _ hr (by rw [List.length_take]; omega) (by omega)]
  unfold playG
  rw [hg2, if_neg, if_pos (by simp)]
  · rfl
  · rintro (h9 | h9)
    · have := congrArg List.length h9
      rw [List.length_append, hylen] at this
      simp at this
    · simp at h9

/-- a deed that drops a volume -/
def dr1 : Opn := ⟨2, [97], [], 0, []⟩
theorem dr1_chk : chkO dr1 = 0 := by decide

theorem take_drop_one {K : List Opn} {q : Nat} (hq : q < K.length) : (K.take (q + 1)).drop q = [K[q]] := by
  rw [List.take_succ_eq_append_getElem hq, List.drop_append_of_le_length (by rw [List.length_take]; omega), List.drop_eq_nil_of_le (by rw [List.length_take]; omega)]
  rfl

theorem u16_natL (a : Int) (h : (Lit.int .u16 a).wf = true) : ∃ T : Nat, a = (T : Int) ∧ T < 65536 := by
  have h1 : 0 ≤ a ∧ a < 65536 := by
    simp [Lit.wf] at h
    have e1 : IntKind.u16.min = 0 := by decide
    have e2 : IntKind.u16.max = 65535 := by decide
    omega
  obtain ⟨n, rfl⟩ := Int.eq_ofNat_of_zero_le h1.1
  exact ⟨n, rfl, by omega⟩

end Go.Proofs.YtkkecgamaahniaaGreat
