/-
  The texts StU, StP, NameV, one behind the other; each says below what it holds and on what conditions.
-/
import Derived.Test.YtkghinpajogdhaaJTopProof19
import Derived.Test.YtkghinpajogdhaaJTopProof07
import Derived.Test.YtkghinpajogdhaaJTopProof01
import Derived.Test.YtkghinpajogdhaaJTopProof10
import Derived.BigRegion

/-
  Identifiers of a state's volumes, seen one behind the other; how many of them are used, and which texts; in plain words, by whatever fingerprint. Conditions: as each says.
-/
namespace WoolVol
open WoolBag

variable {F : List UInt8 → Int}

/-- the identifiers ahead of place i of volume k -/
def seenAt (l : List Vo) (k i : Nat) : List Idn := ids (l.take k) ++ (l[k]!).bl.take i

theorem seen_zero (l : List Vo) : seenAt l 0 0 = [] := by simp [seenAt, ids]

theorem seen_step {l : List Vo} {k i : Nat} (hk : k < l.length) (hi : i < l[k].bl.length) : seenAt l k (i + 1) = seenAt l k i ++ [l[k].bl[i]] := by
  unfold seenAt
  rw [getElem!_pos l k hk, List.take_add_one, List.getElem?_eq_getElem hi, List.append_assoc]
  rfl

theorem ids_append (a b : List Vo) : ids (a ++ b) = ids a ++ ids b := by unfold ids; rw [List.map_append, List.flatten_append]

theorem seen_next {l : List Vo} {k : Nat} (hk : k < l.length) : seenAt l (k + 1) 0 = seenAt l k l[k].bl.length := by
  unfold seenAt
  rw [getElem!_pos l k hk, List.take_length, List.take_add_one, List.getElem?_eq_getElem hk, ids_append]
  simp [ids]

theorem seen_end (l : List Vo) : seenAt l l.length 0 = ids l := by
  unfold seenAt
  rw [List.take_length, List.take_zero, List.append_nil]

theorem usedN_le (l : List Idn) : usedN l ≤ l.length := List.length_filter_le _ _

theorem seen_le {l : List Vo} {k i : Nat} (hk : k < l.length) : (seenAt l k i).length ≤ (ids l).length := by
  have e : ids l = ids (l.take k) ++ (l[k].bl ++ ids (l.drop (k + 1))) := by
    have e2 : l = l.take k ++ l[k] :: l.drop (k + 1) := by rw [← List.drop_eq_getElem_cons hk, List.take_append_drop]
    conv => lhs; rw [e2]
    rw [ids_append]
    rfl
  rw [e]
  unfold seenAt
  rw [getElem!_pos l k hk]
  simp only [List.length_append, List.length_take]
  omega

/-- the texts that identifiers stand for -/
def txsOf (b : List Itm) (l : List Idn) : List (List UInt8) := l.filterMap (fun i => if i.1 then tx b i else none)

theorem txs_used (st : Sta) : txsOf st.b (ids st.v) = usedT st := rfl

/-- unlike texts of the identifiers seen -/
def roomAt (st : Sta) (k i : Nat) : List (List UInt8) := uniq (txsOf st.b (seenAt st.v k i))

theorem room_zero (st : Sta) : roomAt st 0 0 = [] := by unfold roomAt; rw [seen_zero]; rfl

theorem room_next {st : Sta} {k : Nat} (hk : k < st.v.length) : roomAt st (k + 1) 0 = roomAt st k st.v[k].bl.length := by unfold roomAt; rw [seen_next hk]

theorem room_end {st : Sta} (g : Good F st) : (roomAt st st.v.length 0).length = st.b.length := by
  unfold roomAt
  rw [seen_end, txs_used]
  exact bag_uniq g

theorem uniq_snoc (l : List (List UInt8)) (t : List UInt8) : uniq (l ++ [t]) = addT (uniq l) t := by
  unfold uniq
  rw [List.foldl_append]
  rfl

theorem room_hole {st : Sta} {k i : Nat} (hk : k < st.v.length) (hi : i < st.v[k].bl.length) (h0 : st.v[k].bl[i].1 = false) : roomAt st k (i + 1) = roomAt st k i := by
  unfold roomAt
  rw [seen_step hk hi]
  unfold txsOf
  rw [List.filterMap_append]
  simp [h0]

theorem room_step {st : Sta} (g : Good F st) {k i : Nat} (hk : k < st.v.length) (hi : i < st.v[k].bl.length) (h1 : st.v[k].bl[i].1 = true) : roomAt st k (i + 1) = addT (roomAt st k i) ((txAt st k i).getD []) := by
  have ht := tx_is g hk hi
  rw [h1] at ht
  have e : txAt st k i = tx st.b st.v[k].bl[i] := by
    unfold txAt
    rw [blk_eq hk hi, if_pos h1]
  unfold roomAt
  rw [seen_step hk hi]
  unfold txsOf
  rw [List.filterMap_append, e]
  rw [e] at ht
  cases h : tx st.b st.v[k].bl[i] with
  | none => rw [h] at ht; cases ht
  | some t =>
    have h2 : List.filterMap (fun i : Idn => if i.1 then tx st.b i else none) [st.v[k].bl[i]] = [t] := by
      simp [h1, h]
    rw [h2, uniq_snoc]
    rfl

theorem uniq_len (l : List (List UInt8)) : (uniq l).length ≤ l.length := by
  have : ∀ (l all : List (List UInt8)), (l.foldl addT all).length ≤ all.length + l.length := by
    intro l
    induction l with
    | nil => intro all; simp
    | cons t r ih =>
      intro all
      have h1 := ih (addT all t)
      have h2 := addT_len all t
      rw [List.foldl_cons, List.length_cons]
      omega
  have h := this l []
  simpa [uniq] using h

theorem room_le {st : Sta} (g : Good F st) {k i : Nat} (hk : k < st.v.length) : (roomAt st k i).length ≤ 192 := by
  have h1 := uniq_len (txsOf st.b (seenAt st.v k i))
  have h2 := seen_le (l := st.v) (i := i) hk
  have h3 := ids_shortG g
  have h4 : (txsOf st.b (seenAt st.v k i)).length ≤ (seenAt st.v k i).length := List.length_filterMap_le _ _
  unfold roomAt
  omega

/-! ytkghinpajogdhaa# a state that a deed answers is valid, whether it was done or not -/

theorem write_errZ {st : Sta} {s t : List UInt8} {a : Int} (h : (write F st s a t).2 ≠ 0) : (write F st s a t).1 = zeroS := by
  unfold write at h ⊢
  by_cases h1 : (trim F st s a).2 ≠ 0
  · rw [if_pos h1]
  rw [if_neg h1] at h ⊢
  by_cases h2 : (put F (trim F st s a).1.b t).2.2 ≠ 0
  · rw [if_pos h2]
  rw [if_neg h2] at h
  exact absurd rfl h

theorem trim_errZ {st : Sta} {s : List UInt8} {a : Int} (h : (trim F st s a).2 ≠ 0) : (trim F st s a).1 = zeroS := by
  unfold trim at h ⊢
  by_cases h1 : (vloc F st s a).2 ≠ 0
  · rw [if_pos h1]
  rw [if_neg h1] at h
  exact absurd rfl h

theorem vdrop_errZ {st : Sta} {s : List UInt8} (h : (vdrop F st s).2 ≠ 0) : (vdrop F st s).1 = zeroS := by
  unfold vdrop at h ⊢
  by_cases h1 : (vfind F st s).2 ≠ 0
  · rw [if_pos h1]
  rw [if_neg h1] at h
  exact absurd rfl h

theorem make_errZ {st : Sta} {s : List UInt8} {n : Int} (h : (make F st s n).2 ≠ 0) : (make F st s n).1 = zeroS := by
  unfold make at h ⊢
  by_cases h0 : chkS F st ≠ 0
  · rw [if_pos h0]
  rw [if_neg h0] at h ⊢
  by_cases h1 : n < 1 ∨ 32 < n
  · rw [if_pos h1]
  rw [if_neg h1] at h ⊢
  by_cases h2 : newE st s ≠ 0
  · rw [if_pos h2]
  rw [if_neg h2] at h
  exact absurd rfl h

theorem clone_errZ {st : Sta} {s t : List UInt8} (h : (clone F st s t).2 ≠ 0) : (clone F st s t).1 = zeroS := by
  unfold clone at h ⊢
  by_cases h0 : (vfind F st s).2 ≠ 0
  · rw [if_pos h0]
  rw [if_neg h0] at h ⊢
  by_cases h2 : newE st t ≠ 0
  · rw [if_pos h2]
  rw [if_neg h2] at h
  exact absurd rfl h

theorem write_goodA (st : Sta) (s t : List UInt8) (a : Int) : Good F (write F st s a t).1 := by
  by_cases h : (write F st s a t).2 = 0
  · obtain ⟨_, _, _, _, _, _, _, _, _, _, _, hk⟩ := write_g h
    exact hk.good
  · rw [write_errZ h]; exact zero_good

theorem trim_goodA (st : Sta) (s : List UInt8) (a : Int) : Good F (trim F st s a).1 := by
  by_cases h : (trim F st s a).2 = 0
  · obtain ⟨_, _, _, _, _, _, _, _, hk⟩ := trim_g h
    exact hk.good
  · rw [trim_errZ h]; exact zero_good

theorem make_goodA (st : Sta) (s : List UInt8) (n : Int) : Good F (make F st s n).1 := by
  by_cases h : (make F st s n).2 = 0
  · obtain ⟨_, _, _, _, _, _, _, hk⟩ := make_g h
    exact hk
  · rw [make_errZ h]; exact zero_good

theorem clone_goodA (st : Sta) (s t : List UInt8) : Good F (clone F st s t).1 := by
  by_cases h : (clone F st s t).2 = 0
  · obtain ⟨_, _, _, _, _, _, hk⟩ := clone_g h
    exact hk
  · rw [clone_errZ h]; exact zero_good

theorem vdrop_goodA (st : Sta) (s : List UInt8) : Good F (vdrop F st s).1 := by
  by_cases h : (vdrop F st s).2 = 0
  · obtain ⟨_, _, _, _, _, hk⟩ := vdrop_g h
    exact hk
  · rw [vdrop_errZ h]; exact zero_good

end WoolVol

/-
  States by deeds hold no empty volume; texts of a right state are short; a proof fits one root only. Conditions: as each says.
-/
namespace WoolVol
open WoolBag

variable {F : List UInt8 → Int}

/-- no volume of a state is empty -/
def Full (st : Sta) : Prop := ∀ v ∈ st.v, 0 < v.bl.length

theorem setB_full {b b' : List Itm} {l : List Vo} {k j : Nat} {y : Idn} (hk : k < l.length) (h : Full ⟨b, l⟩) : Full ⟨b', setB l k j y⟩ := by
  intro v hv
  have hv' : v ∈ setB l k j y := hv
  rw [setB_eq hk] at hv'
  rcases List.mem_or_eq_of_mem_set hv' with h1 | rfl
  · exact h v h1
  · show 0 < (l[k].bl.set j y).length
    rw [List.length_set]
    exact h _ (List.getElem_mem hk)

theorem doK_full {st : Sta} {o : Opn} (h : (doK F st o).2 = 0) (hp : Full st) : Full (doK F st o).1 := by
  unfold doK at h ⊢
  by_cases h1 : o.kd = 1
  · rw [if_pos h1] at h ⊢
    obtain ⟨_, _, m, _, hm, _, he, _⟩ := make_g h
    rw [he]
    intro v hv
    rcases vins_memG.1 hv with rfl | hv
    · show 0 < (List.replicate m noId).length
      rw [List.length_replicate]
      exact hm
    · exact hp v hv
  rw [if_neg h1] at h ⊢
  by_cases h2 : o.kd = 2
  · rw [if_pos h2] at h ⊢
    obtain ⟨_, k, hk, _, he, _⟩ := vdrop_g h
    rw [he]
    exact fun v hv => hp v (List.mem_of_mem_eraseIdx hv)
  rw [if_neg h2] at h ⊢
  by_cases h3 : o.kd = 3
  · rw [if_pos h3] at h ⊢
    obtain ⟨_, k, hk, j, hj, _, _, b', i, _, he, _⟩ := write_g h
    rw [he]
    have h9 : Full ⟨st.b, setB st.v k j noId⟩ := setB_full (b := st.b) hk hp
    exact setB_full (b := st.b) (by rw [setB_eq hk, List.length_set]; exact hk) h9
  rw [if_neg h3] at h ⊢
  by_cases h4 : o.kd = 4
  · rw [if_pos h4] at h ⊢
    obtain ⟨_, k, hk, j, hj, _, _, he, _⟩ := trim_g h
    rw [he]
    exact setB_full (b := st.b) hk hp
  rw [if_neg h4] at h ⊢
  obtain ⟨_, _, k, hk, _, he, _⟩ := clone_g h
  rw [he]
  intro v hv
  rcases vins_memG.1 hv with rfl | hv
  · exact hp st.v[k] (List.getElem_mem hk)
  · exact hp v hv

theorem stepO_full {st : Sta} (g : Full st) (o : Opn) : Full (stepO F st o) := by
  unfold stepO
  by_cases h : (doO F st o).2 = 0
  · rw [if_pos h]
    unfold doO at h ⊢
    by_cases hc : chkO o ≠ 0
    · rw [if_pos hc] at h; exact absurd h hc
    · rw [if_neg hc] at h ⊢
      exact doK_full h g
  · rw [if_neg h]; exact g

theorem deeds_full : ∀ (l : List Opn) {st : Sta}, Full st → Full (deeds F st l)
  | [], _, g => g
  | o :: r, _, g => deeds_full r (stepO_full g o)

theorem zero_full : Full zeroS := fun v hv => by simp [zeroS] at hv

theorem txAt_len {st : Sta} (g : Good F st) (k i : Nat) : ((txAt st k i).getD []).length ≤ 64 := by
  unfold txAt
  by_cases h1 : (blk st k i).1 = true
  · rw [if_pos h1]
    unfold tx
    cases h : it st.b (blk st k i) with
    | none => simp
    | some x => exact (g.bag.ok x ((it_some g.bag).1 h).1).1
  · rw [if_neg h1]; simp

theorem rdG_txt {st : Sta} (g : Good F st) (k n : Nat) : ∀ t ∈ rdG st k n, t.length ≤ 64 := by
  intro t ht
  unfold rdG at ht
  obtain ⟨i, _, rfl⟩ := List.mem_map.1 ht
  exact txAt_len g k i

end WoolVol

namespace WoolTree

/-- a proof that fits a root fits no other -/
theorem vf_other (H : List UInt8 → Nat) : ∀ (k n i x : Nat) (p : List (Bool × Int)) (r r' : Int), vf H k n i x p r = true → r' ≠ r → vf H k n i x p r' = false
  | 0, n, i, x, p, r, r', h, hr => by
    unfold vf at h ⊢
    rw [Bool.and_eq_true, beq_iff_eq] at h
    have : ((x : Int) == r') = false := by rw [beq_eq_false_iff_ne, h.2]; exact fun e => hr e.symm
    rw [this, Bool.and_false]
  | k + 1, n, i, x, p, r, r', h, hr => by
    unfold vf at h ⊢
    by_cases hb : bes i < n
    · rw [if_pos hb] at h ⊢
      match p, h with
      | s :: q, h =>
        simp only [Bool.and_eq_true] at h ⊢
        rw [vf_other H k _ _ _ q r r' h.2 hr, Bool.and_false]
    · rw [if_neg hb] at h ⊢
      exact vf_other H k _ _ _ p r r' h hr

end WoolTree

/-
  What vol's isNameByte and Name return. Conditions: as each says.
-/
namespace Go.Proofs.Ytkghinpajogdhaa
open Go.RowKit
open Go.Proofs
open WoolBag
open WoolVol

theorem isName_any (c : UInt8) (w : World) : Calls Try.prog 55 #[.int .u8 ((c.toNat : Nat) : Int)] w fun e w' => e = .returned (.bool (nbB c)) ∧ w = w' := by
  have hv : nbB c = ((decide (97 ≤ c.toNat) && decide (c.toNat ≤ 122)) || (decide (48 ≤ c.toNat) && decide (c.toNat ≤ 57))) := rfl
  rw [hv]
  generalize c.toNat = z
  clear hv
  by_cases h1 : 97 ≤ z
  · by_cases h2 : z ≤ 122
    · go_enter Try.func55, Try.ntmps55
      go_wp2
      go_ret
      first | (simp; done) | (simp; constructor <;> omega) | (simp; omega)
    · by_cases h3 : 48 ≤ z
      · by_cases h4 : z ≤ 57
        · omega
        · have e : ((decide (97 ≤ z) && decide (z ≤ 122)) || (decide (48 ≤ z) && decide (z ≤ 57))) = false := by simp [h2, h4]
          rw [e]
          have d1 : decide ((z : Int) ≤ 57) = false := decide_eq_false (by omega)
          have d2 : decide ((z : Int) ≤ 122) = false := decide_eq_false (by omega)
          clear e
          go_enter Try.func55, Try.ntmps55
          go_wp2
          go_ret
          exact ⟨rfl, rfl⟩
      · omega
  · by_cases h3 : 48 ≤ z
    · by_cases h4 : z ≤ 57
      · go_enter Try.func55, Try.ntmps55
        go_wp2
        go_ret
        first | (simp; done) | (simp; constructor <;> omega) | (simp; omega)
      · go_enter Try.func55, Try.ntmps55
        go_wp2
        go_ret
        first | (simp; done) | (simp; constructor <;> omega) | (simp; omega)
    · go_enter Try.func55, Try.ntmps55
      go_wp2
      go_ret
      first | (simp; done) | (simp; constructor <;> omega) | (simp; omega)

def NameRel (s : List UInt8) (w : World) (i : Value) (wr : World) : Prop := ∃ k : Nat, k ≤ s.length ∧ i = .int .i64 k ∧ w = wr ∧ (s.take k).all nbB = true

set_option maxHeartbeats 400000 in
theorem name_any (s : List UInt8) (w : World) (hs : s.length ≤ 9223372036854775807) : Calls Try.prog 34 #[.string (bs s)] w fun e w' => e = .returned (.bool (nameB s)) ∧ w = w' := by
  have hsz := bs_size s
  by_cases h1 : s.length < 1
  · have hv : nameB s = false := by unfold nameB; simp; omega
    rw [hv]
    obtain ⟨n, hn⟩ : ∃ n, s.length = n := ⟨_, rfl⟩
    rw [hn] at hsz h1
    clear hn hv
    go_enter Try.func34, Try.ntmps34
    go_wp2
    go_ret
    exact ⟨rfl, rfl⟩
  by_cases h2 : 12 < s.length
  · have hv : nameB s = false := by unfold nameB; simp; omega
    rw [hv]
    obtain ⟨n, hn⟩ : ∃ n, s.length = n := ⟨_, rfl⟩
    rw [hn] at hsz h1 h2
    clear hn hv
    go_enter Try.func34, Try.ntmps34
    go_wp2
    go_ret
    exact ⟨rfl, rfl⟩
  have hv : nameB s = s.all nbB := by
    unfold nameB
    rw [decide_eq_true (by omega), decide_eq_true (by omega)]; simp
  rw [hv]
  clear hv
  obtain ⟨n, hn⟩ : ∃ n, s.length = n := ⟨_, rfl⟩
  have HN := Lib.hid hn
  rw [hn] at hsz h1 h2 hs
  clear hn
  go_enter Try.func34, Try.ntmps34
  go_wp2_with fail
  go_loopw [14] (fun i wr => NameRel s w i wr) (fun i _ => n - (intOf i).toNat)
  case atStart => exact ⟨0, Nat.zero_le _, rfl, rfl, rfl⟩
  case round =>
    obtain ⟨k, hk, rfl, rfl, hall⟩ := hrel
    rw [HN.out] at hk
    by_cases hlt : k < n
    · have hkl : k < s.length := by rw [HN.out]; exact hlt
      have hi := index_bs s k hkl
      have hst : (s.take (k + 1)).all nbB = nbB s[k] := by
        rw [List.take_succ_eq_append_getElem hkl, List.all_append, hall]; simp
      have hno : nbB s[k] = false → s.all nbB = false := by
        intro h
        cases ha : s.all nbB with
        | false => rfl
        | true => rw [List.all_eq_true] at ha; rw [ha _ (List.getElem_mem hkl)] at h; cases h
      have HST := Lib.hid hst
      have HNO := Lib.hid hno
      have HC := Lib.hid (fun W => isName_any s[k] W)
      clear hst hno hall
      generalize nbB s[k] = bb at *
      generalize (s[k].toNat : Nat) = z at *
      cases bb with
      | false =>
        have HF := Lib.hid (HNO.out rfl)
        go_wp2_with fail
        refine (HC.out _).mono ?_
        rintro e w1 ⟨rfl, rfl⟩
        go_wp2_with fail
        go_ret
        exact ⟨by rw [HF.out]; rfl, rfl⟩
      | true =>
        go_wp2_with fail
        refine (HC.out _).mono ?_
        rintro e w1 ⟨rfl, rfl⟩
        go_wp2_with fail
        go_roundw
        case rel => exact ⟨k + 1, by rw [HN.out]; omega, by go_num, rfl, HST.out⟩
        case measure => simp only [intOf]; omega
    · have hte : s.take k = s := List.take_of_length_le (by rw [HN.out]; omega)
      rw [hte] at hall
      have HF := Lib.hid hall
      clear hall hte
      go_wp2_with fail
      go_ret
      exact ⟨by rw [HF.out]; rfl, rfl⟩

end Go.Proofs.Ytkghinpajogdhaa
