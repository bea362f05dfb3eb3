/-
  slices.Equal of two rows of ints that read alike; what the law DiffSays asks, in plain words. Conditions: as each says.
-/
import Derived.Test.YtjklecglecpflaaGreatDoorDiff3
import Derived.Test.YtjklecglecpflaaGreatDoorRefVol9
namespace Go.Proofs.YtjklecglecpflaaGreatDoor
open Go.RowKit
open Go.Proofs
open WoolBag
open WoolVol

theorem inL_at {l : List Int} {k : Nat} (h : k < l.length) : (inL l)[k]? = some (.int .i64 l[k]) := by
  unfold inL; rw [List.getElem?_map, List.getElem?_eq_getElem h]; rfl

set_option maxRecDepth 100000 in
set_option maxHeartbeats 400000 in
theorem equalN_yes (v1 v2 : Value) (l : List Int) (w : World) (h1 : Sl w 1 v1 l.length (inL l)) (h2 : Sl w 1 v2 l.length (inL l)) :
    Calls Tryz.prog 15 #[v1, v2] w fun e w' => e = .returned (.bool true) ∧ Up w w' := by
  obtain ⟨o1, c1, rfl, p1, p2⟩ := h1.slice
  obtain ⟨o2, c2, rfl, q1, q2⟩ := h2.slice
  have HP := Lib.hid h1
  have HQ := Lib.hid h2
  unfold maxLen at p2 q2
  clear h1 h2
  go_enter Tryz.func15, Tryz.ntmps15
  go_wp2_with fail
  go_loopw [13] (fun i wr => EqDRel l.length w i wr) (fun i _ => l.length - (intOf i).toNat)
  case atStart => exact ⟨0, Nat.zero_le _, rfl, Up.refl w⟩
  case round =>
    obtain ⟨k, hk, rfl, hu⟩ := hrel
    by_cases hlt : k < l.length
    · have hne : l.length ≠ 0 := by omega
      obtain ⟨b, off, rfl, h5⟩ := Sl.cells HP.out hne
      obtain ⟨b', off', rfl, h6⟩ := Sl.cells HQ.out hne
      have e1 := h5 k _ (inL_at hlt)
      have f1 := h6 k _ (inL_at hlt)
      rw [← hu.cell (World.block_lt_of_cell? w _ e1)] at e1
      rw [← hu.cell (World.block_lt_of_cell? w _ f1)] at f1
      generalize l[k] = x at e1 f1
      have HU := Lib.hid hu
      have d1 : decide (k < l.length) = true := decide_eq_true hlt
      clear h5 h6 hu hne
      go_wp2_with fail
      go_quiet (fail)
      go_wp2_with fail
      go_roundw
      case rel => exact ⟨k + 1, by omega, by go_num, HU.out.trans (Up.drewN _ _)⟩
      case measure => simp only [intOf]; omega
    · have d1 : decide (k < l.length) = false := decide_eq_false hlt
      go_wp2_with fail
      go_ret
      exact ⟨rfl, hu⟩

theorem txt_tx {st : Sta} (g : WoolVol.Good FP st) {k j : Nat} (hk : k < st.v.length) (hj : j < st.v[k].bl.length) {t : List UInt8} (h : txAt st k j = some t) : txt st.b st.v[k].bl[j] = 43 :: t := by
  have hb := blk_eq hk hj
  unfold txAt at h
  rw [hb] at h
  generalize st.v[k].bl[j] = i at h
  cases h1 : i.1 with
  | false => rw [h1] at h; simp at h
  | true =>
    rw [h1] at h
    simp only [if_true] at h
    unfold tx at h
    cases hi : it st.b i with
    | none => rw [hi] at h; simp at h
    | some x =>
      rw [hi] at h
      simp only [Option.some.injEq] at h
      obtain ⟨hx, he⟩ := (it_some g.bag).1 hi
      obtain ⟨m, hm, rfl⟩ := List.getElem_of_mem hx
      unfold txt
      rw [h1, if_pos rfl, he, g.bag.idx_id hm]
      show 43 :: (st.b[m]!).t = 43 :: t
      rw [getElem!_pos st.b m hm, h]

/-- the error of two names -/
def twoE (st : Sta) (a b : List UInt8) : Int := if chkS FP st ≠ 0 then chkS FP st else if (vix (nmB a) st.v).isNone || (vix (nmB b) st.v).isNone then 4 else 0

theorem vix_cases (p : Vo → Bool) (l : List Vo) : vix p l = none ∨ ∃ k, vix p l = some k := by
  cases vix p l with
  | none => exact .inl rfl
  | some k => exact .inr ⟨k, rfl⟩

theorem both_two (st : Sta) (a b : List UInt8) : (bothR st a b).2.2 = twoE st a b := by
  unfold bothR twoE blocks vfind
  by_cases hc : chkS FP st ≠ 0
  · simp only [if_pos hc]
  · simp only [if_neg hc]
    rcases vix_cases (nmB a) st.v with ha | ⟨k, ha⟩
    · rw [ha]; simp
    · rw [ha]
      rcases vix_cases (nmB b) st.v with hb | ⟨m, hb⟩
      · rw [hb]; simp
      · rw [hb]; simp

end Go.Proofs.YtjklecglecpflaaGreatDoor
