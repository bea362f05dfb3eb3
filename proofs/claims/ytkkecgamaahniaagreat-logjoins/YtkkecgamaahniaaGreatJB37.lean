/-
  The texts StG, StU, StV, one behind the other; each says below what it holds and on what conditions.
-/
import Derived.Test.YtkkecgamaahniaaGreatJB30
import Derived.Test.YtkkecgamaahniaaGreatJB17
import Derived.Test.YtkkecgamaahniaaGreatJB24
import Derived.Test.YtkkecgamaahniaaGreatJB11
import Derived.Test.YtkkecgamaahniaaGreatJB33
import Derived.Test.YtkkecgamaahniaaGreatJB36
import Derived.Deep.AppendLies
import Derived.BigQuiet

/-
  What the laws' begun, made, pick and texts return. Conditions: as each says.
-/
namespace Go.Proofs.YtkkecgamaahniaaGreat
open Go.RowKit
open Go.Proofs
open WoolBag
open WoolVol

/-- some name -/
def PickPost (w : World) (e : Ending) (w' : World) : Prop := ∃ nm : List UInt8, nm.length ≤ 9223372036854775807 ∧ e = .returned (.string (bs nm)) ∧ Up w w'

/-- a state by the first deeds of a row -/
structure MdI (l : List Opn) (R X : Nat) (w : World) (j : Nat) (cur : Sta) (x y : Value) (wr : World) : Prop where
  row : RowC wr X 31 [x, y]
  box : RowC wr R 31 [.slice none 0 0, .slice none 0 0]
  st : Stat wr (.agg #[x, y]) cur
  eq : cur = deeds FP zeroS (l.take j)
  good : WoolVol.Good FP cur
  up : Up w wr

def MdLoop (l : List Opn) (R X N : Nat) (w : World) (i : Value) (wr : World) : Prop :=
  ∃ j cur x y, j ≤ N ∧ i = .int .i64 ((j : Nat) : Int) ∧ MdI l R X w j cur x y wr

def MadePost (st : Sta) (w : World) (e : Ending) (w' : World) : Prop := ∃ v', e = .returned v' ∧ Stat w' v' st ∧ Up w w'

theorem deeds_snoc (st : Sta) (l : List Opn) (j : Nat) (hj : j < l.length) : deeds FP st (l.take (j + 1)) = stepO FP (deeds FP st (l.take j)) l[j] := by
  unfold deeds
  rw [List.take_add_one, List.getElem?_eq_getElem hj, List.foldl_append]
  rfl

theorem made_take (l : List Opn) : madeO FP l = deeds FP zeroS (l.take (min l.length 60)) := by
  unfold madeO
  congr 1
  rcases Nat.le_total l.length 60 with h | h
  · rw [Nat.min_eq_left h, List.take_of_length_le h, List.take_length]
  · rw [Nat.min_eq_right h]

set_option maxRecDepth 100000 in
set_option maxHeartbeats 2000000 in
theorem made_any (v : Value) (l : List Opn) (w : World) (h : Ops w v l) : Calls Tryz.prog 13 #[v] w (MadePost (madeO FP l) w) := by
  rw [made_take]
  have HOP := Lib.hid h
  obtain ⟨o, c, rfl, p1, p2⟩ := h.slice
  unfold maxLen at p2
  obtain ⟨n, hn⟩ : ∃ n, l.length = n := ⟨_, rfl⟩
  rw [hn] at p1 HOP ⊢
  have HLN := Lib.hid hn
  obtain ⟨N, hN⟩ : ∃ N, min n 60 = N := ⟨_, rfl⟩
  rw [hN]
  have hmin : ∀ (ts : Array TypeId) (t : TypeId) (W : World), (Builtin.min_ ts t #[.int .i64 (n : Int), .int .i64 60]).run Tryz.prog W = .ok (.int .i64 (N : Int)) W := by
    intro ts t W
    simp [Builtin.min_, Builtin.min2]
    omega
  have hNn : N ≤ n := by omega
  have hN6 : N ≤ 60 := by omega
  have HNN := Lib.hid hNn
  clear hN hn h
  have HX : Hid (RowC ((w.alloc (.cells #[.slice none 0 0, .slice none 0 0] 31)).alloc (.cells #[.slice none 0 0, .slice none 0 0] 31)) (w.heap.size + 1) 31 [.slice none 0 0, .slice none 0 0]) := box_new w _ _ _ _
  have HR : Hid (RowC ((w.alloc (.cells #[.slice none 0 0, .slice none 0 0] 31)).alloc (.cells #[.slice none 0 0, .slice none 0 0] 31)) w.heap.size 31 [.slice none 0 0, .slice none 0 0]) := RowC.up (rowN_at [.slice none 0 0, .slice none 0 0] _ rfl) (Up.alloc _ _)
  have HW0 : Hid (Up w ((w.alloc (.cells #[.slice none 0 0, .slice none 0 0] 31)).alloc (.cells #[.slice none 0 0, .slice none 0 0] 31))) := (Up.alloc _ _).trans (Up.alloc _ _)
  go_enter Tryz.func13, Tryz.ntmps13
  go_upto_region 2 with (fail)
  generalize (w.alloc (.cells #[.slice none 0 0, .slice none 0 0] 31)).alloc (.cells #[.slice none 0 0, .slice none 0 0] 31) = W0 at HX HR HW0 ⊢
  obtain ⟨X, hX⟩ : ∃ X, w.heap.size + 1 = X := ⟨_, rfl⟩
  have HXW : Hid (X = w.heap.size + 1) := hX.symm
  rw [hX] at HX ⊢
  obtain ⟨R, hR⟩ : ∃ R, w.heap.size = R := ⟨_, rfl⟩
  have HRW : Hid (R = w.heap.size) := hR.symm
  rw [hR] at HR ⊢
  clear hX hR
  have HRX : Hid (R ≠ X) := by have h1 := HXW.out; have h2 := HRW.out; show R ≠ X; omega
  have HXG : Hid (w.heap.size ≤ X) := by have h1 := HXW.out; show w.heap.size ≤ X; omega
  have HRG : Hid (w.heap.size ≤ R) := by have h1 := HRW.out; show w.heap.size ≤ R; omega
  have HST5 : Hid (MdLoop l R X N w (.int .i64 0) W0) := ⟨0, zeroS, _, _, Nat.zero_le _, rfl, ⟨HX.out, HR.out, Stat.zero _, rfl, zero_good, HW0.out⟩⟩
  clear HX HR HW0
  go_wp2_with fail
  go_loopw [14] (fun i wr => MdLoop l R X N w i wr) (fun i _ => N - (intOf i).toNat)
  case atStart => exact HST5.out
  case round =>
    obtain ⟨j, cur, x, y, hjN, rfl, hI⟩ := hrel
    have HI := Lib.hid hI
    obtain ⟨vbx, vvx, hag, hbx, hvx⟩ := hI.st
    simp at hag
    obtain ⟨rfl, rfl⟩ := hag
    obtain ⟨p5, d5, rfl, _⟩ := hbx.slice
    obtain ⟨p6, d6, rfl, _, _⟩ := hvx.slice
    obtain ⟨L5, hL5⟩ : ∃ L5, cur.b.length = L5 := ⟨_, rfl⟩
    obtain ⟨L6, hL6⟩ : ∃ L6, cur.v.length = L6 := ⟨_, rfl⟩
    rw [hL5, hL6] at HI
    have x0 := HI.out.row.cell (j := 0) rfl
    have x1 := HI.out.row.cell (j := 1) rfl
    clear hbx hvx hI hL5 hL6
    by_cases hlt : j < N
    · have dz : decide (j < N) = true := decide_eq_true hlt
      have hjl : j < l.length := by have := HLN.out; omega
      obtain ⟨b, off, rfl, hat⟩ := (HOP.out.up HI.out.up).at (fun e => by rw [e] at hjl; simp at hjl)
      obtain ⟨e0, e1, e2, e3, e4⟩ := hat j hjl
      have HDO := Lib.hid (fun W (hW : Up wr W) => do_any _ cur l[j] W (HI.out.st.up hW) (good_wf HI.out.good) (HOP.out.2 l[j] (List.getElem_mem hjl)))
      have HST := Lib.hid (deeds_snoc zeroS l j hjl)
      rw [← HI.out.eq] at HST
      have HGD := Lib.hid (stepO_good HI.out.good l[j])
      unfold opA StEPost at HDO
      unfold stepO at HST HGD
      obtain ⟨⟨TS, TE⟩, hR⟩ : ∃ R, doO FP cur l[j] = R := ⟨_, rfl⟩
      rw [hR] at HDO HST HGD
      simp only at HDO HST HGD
      generalize bs l[j].nm = S1 at e1 HDO
      generalize bs l[j].to = S2 at e2 HDO
      generalize bs l[j].tx = S3 at e4 HDO
      generalize l[j].kd = K1 at e0 HDO
      generalize l[j].pl = K2 at e3 HDO
      clear hat hR x0 x1
      go_upto_region 5 with (fail)
      have HUP := Lib.hid (Up.alloc wr (.cells #[.int .i64 K1, .string S1, .string S2, .int .i64 K2, .string S3] 27))
      have HOQ : Hid (RowC (wr.alloc (.cells #[.int .i64 K1, .string S1, .string S2, .int .i64 K2, .string S3] 27)) wr.heap.size 27 [.int .i64 K1, .string S1, .string S2, .int .i64 K2, .string S3]) := heap_alloc_new wr _
      generalize wr.alloc (.cells #[.int .i64 K1, .string S1, .string S2, .int .i64 K2, .string S3] 27) = WA at HUP HOQ ⊢
      generalize wr.heap.size = Q at HOQ ⊢
      have HXA := Lib.hid (HI.out.row.up HUP.out)
      have x0 := HXA.out.cell (j := 0) rfl
      have x1 := HXA.out.cell (j := 1) rfl
      have y0 := HOQ.out.cell (j := 0) rfl
      have y1 := HOQ.out.cell (j := 1) rfl
      have y2 := HOQ.out.cell (j := 2) rfl
      have y3 := HOQ.out.cell (j := 3) rfl
      have y4 := HOQ.out.cell (j := 4) rfl
      clear e0 e1 e2 e3 e4
      go_wp2_with fail
      refine (HDO.out _ HUP.out).mono ?_
      rintro e w5 ⟨v5, rfl, ho5, u5⟩
      have hs5 := ho5.stat
      obtain ⟨o7, c7, o8, c8, hv5⟩ := hs5.shape
      subst hv5
      simp only at hs5 ⊢
      obtain ⟨n7, hn7⟩ : ∃ n7, TS.b.length = n7 := ⟨_, rfl⟩
      obtain ⟨n8, hn8⟩ : ∃ n8, TS.v.length = n8 := ⟨_, rfl⟩
      rw [hn7, hn8] at hs5 ⊢
      have hu5 := HUP.out.trans u5
      have HY : Hid (RowC (w5.alloc (.cells #[.slice o7 n7 c7, .slice o8 n8 c8] 31)) w5.heap.size 31 [.slice o7 n7 c7, .slice o8 n8 c8]) := heap_alloc_new w5 _
      have HU6 := Lib.hid (hu5.trans (Up.alloc w5 (.cells #[.slice o7 n7 c7, .slice o8 n8 c8] 31)))
      have HS6 := Lib.hid (hs5.up (Up.alloc w5 (.cells #[.slice o7 n7 c7, .slice o8 n8 c8] 31)))
      have HX6 := Lib.hid (HI.out.row.up HU6.out)
      have HR6 := Lib.hid (HI.out.box.up HU6.out)
      have HUW := Lib.hid (HI.out.up.trans HU6.out)
      clear ho5 u5 hu5 hs5 x0 x1 y0 y1 y2 y3 y4 hn7 hn8
      go_upto_region 6 with (fail)
      generalize w5.alloc (.cells #[.slice o7 n7 c7, .slice o8 n8 c8] 31) = W6 at HY HU6 HS6 HX6 HR6 HUW ⊢
      generalize w5.heap.size = Y at HY ⊢
      by_cases hE : TE = 0
      · subst hE
        rw [if_pos rfl] at HST HGD
        have y0 := HY.out.cell (j := 0) rfl
        have y1 := HY.out.cell (j := 1) rfl
        have z0 := HX6.out.cell (j := 0) rfl
        have z1 := HX6.out.cell (j := 1) rfl
        have z2 := HX6.out.frozen 0
        have z3 := HX6.out.frozen 1
        go_wp2_with fail
        go_roundw
        case rel => exact ⟨j + 1, TS, _, _, by omega, by go_num, ⟨(HX6.out.set 0 _).set 1 _, (HR6.out.other HRX.out 0 _).other HRX.out 1 _, Stat.boxed HS6.out HX6.out rfl rfl rfl, HST.out.symm, HGD.out, up2 HUW.out HXG.out⟩⟩
        case measure => simp only [intOf]; omega
      · have he : (TE == 0) = false := by rw [beq_eq_false_iff_ne]; exact hE
        rw [if_neg hE] at HST HGD
        clear hE
        go_wp2_with fail
        go_roundw
        case rel => exact ⟨j + 1, cur, _, _, by omega, by go_num, ⟨HX6.out, HR6.out, HI.out.st.up HU6.out, HST.out.symm, HI.out.good, HUW.out⟩⟩
        case measure => simp only [intOf]; omega
    · have dz : decide (j < N) = false := decide_eq_false hlt
      have hjN2 : j = N := by omega
      subst hjN2
      have r0 := HI.out.box.frozen 0
      have r1 := HI.out.box.frozen 1
      have r2 := HI.out.box.cell (j := 0) rfl
      have r3 := HI.out.box.cell (j := 1) rfl
      have HEQ := Lib.hid HI.out.eq
      clear hlt hjN
      go_wp2_with fail
      have hz := (HI.out.box.set 0 (.slice p5 L5 d5)).set 1 (.slice p6 L6 d6)
      have z0 := hz.cell (j := 0) rfl
      have z1 := hz.cell (j := 1) rfl
      have HSZ := Lib.hid (Stat.boxed (x := .slice p5 L5 d5) (y := .slice p6 L6 d6) HI.out.st HI.out.box rfl rfl rfl)
      have HUZ := Lib.hid (up2 (x := .slice p5 L5 d5) (y := .slice p6 L6 d6) HI.out.up HRG.out)
      generalize (wr.setCell ⟨R, 0, none⟩ (.slice p5 L5 d5)).setCell ⟨R, 1, none⟩ (.slice p6 L6 d6) = WZ at z0 z1 HSZ HUZ ⊢
      exact bodyPost_ret (v := .agg #[.slice p5 L5 d5, .slice p6 L6 d6]) (by simp [results, Tryz.results13, go_sem, z0, z1]) rfl ⟨_, rfl, by rw [← HEQ.out]; exact HSZ.out, HUZ.out⟩

/-- the blocks of a volume that can be read -/
def TextsPost (l : List (List UInt8)) (w : World) (e : Ending) (w' : World) : Prop := ∃ v', e = .returned v' ∧ Txs w' v' l ∧ Up w w'

def TextsRel (st : Sta) (k q : Nat) (base : Nat) (w : World) (out i : Value) (wr : World) : Prop :=
  ∃ j : Nat, i = .int .i64 (j : Int) ∧ j ≤ q ∧ wr.ownsRow base 9 1 out j (fl txC (rdG st k j)) ∧ Up w wr

theorem strInfoG : (Tryz.prog.info? 9).map (fun i => (i.zero, i.size, i.bytes)) = some (some (.string ⟨#[]⟩), 1, 16) := by kernel_rfl

end Go.Proofs.YtkkecgamaahniaaGreat

/-
  Identifiers of a state's volumes, seen one behind the other; how many of them are used, and which texts; in plain words, by whatever fingerprint. Conditions: as each says.
-/
namespace WoolVol
open WoolBag

variable {F : List UInt8 → Int}

/-- the identifiers ahead of place i of volume k -/
def seenAt (l : List Vo) (k i : Nat) : List Idn := ids (l.take k) ++ (l[k]!).bl.take i

theorem seen_zero (l : List Vo) : seenAt l 0 0 = [] := by simp [seenAt, ids]

theorem seen_step {l : List Vo} {k i : Nat} (hk : k < l.length) (hi : i < l[k].bl.length) : seenAt l k (i + 1) = seenAt l k i ++ [l[k].bl[i]] := by
  unfold seenAt
  rw [getElem!_pos l k hk, List.take_add_one, List.getElem?_eq_getElem hi, List.append_assoc]
  rfl

theorem ids_append (a b : List Vo) : ids (a ++ b) = ids a ++ ids b := by unfold ids; rw [List.map_append, List.flatten_append]

theorem seen_next {l : List Vo} {k : Nat} (hk : k < l.length) : seenAt l (k + 1) 0 = seenAt l k l[k].bl.length := by
  unfold seenAt
  rw [getElem!_pos l k hk, List.take_length, List.take_add_one, List.getElem?_eq_getElem hk, ids_append]
  simp [ids]

theorem seen_end (l : List Vo) : seenAt l l.length 0 = ids l := by
  unfold seenAt
  rw [List.take_length, List.take_zero, List.append_nil]

theorem usedN_le (l : List Idn) : usedN l ≤ l.length := List.length_filter_le _ _

theorem seen_le {l : List Vo} {k i : Nat} (hk : k < l.length) : (seenAt l k i).length ≤ (ids l).length := by
  have e : ids l = ids (l.take k) ++ (l[k].bl ++ ids (l.drop (k + 1))) := by
    have e2 : l = l.take k ++ l[k] :: l.drop (k + 1) := by rw [← List.drop_eq_getElem_cons hk, List.take_append_drop]
    conv => lhs; rw [e2]
    rw [ids_append]
    rfl
  rw [e]
  unfold seenAt
  rw [getElem!_pos l k hk]
  simp only [List.length_append, List.length_take]
  omega

/-- the texts that identifiers stand for -/
def txsOf (b : List Itm) (l : List Idn) : List (List UInt8) := l.filterMap (fun i => if i.1 then tx b i else none)

theorem txs_used (st : Sta) : txsOf st.b (ids st.v) = usedT st := rfl

/-- unlike texts of the identifiers seen -/
def roomAt (st : Sta) (k i : Nat) : List (List UInt8) := uniq (txsOf st.b (seenAt st.v k i))

theorem room_zero (st : Sta) : roomAt st 0 0 = [] := by unfold roomAt; rw [seen_zero]; rfl

theorem room_next {st : Sta} {k : Nat} (hk : k < st.v.length) : roomAt st (k + 1) 0 = roomAt st k st.v[k].bl.length := by unfold roomAt; rw [seen_next hk]

theorem room_end {st : Sta} (g : Good F st) : (roomAt st st.v.length 0).length = st.b.length := by
  unfold roomAt
  rw [seen_end, txs_used]
  exact bag_uniq g

theorem uniq_snoc (l : List (List UInt8)) (t : List UInt8) : uniq (l ++ [t]) = addT (uniq l) t := by
  unfold uniq
  rw [List.foldl_append]
  rfl

theorem room_hole {st : Sta} {k i : Nat} (hk : k < st.v.length) (hi : i < st.v[k].bl.length) (h0 : st.v[k].bl[i].1 = false) : roomAt st k (i + 1) = roomAt st k i := by
  unfold roomAt
  rw [seen_step hk hi]
  unfold txsOf
  rw [List.filterMap_append]
  simp [h0]

theorem room_step {st : Sta} (g : Good F st) {k i : Nat} (hk : k < st.v.length) (hi : i < st.v[k].bl.length) (h1 : st.v[k].bl[i].1 = true) : roomAt st k (i + 1) = addT (roomAt st k i) ((txAt st k i).getD []) := by
  have ht := tx_is g hk hi
  rw [h1] at ht
  have e : txAt st k i = tx st.b st.v[k].bl[i] := by
    unfold txAt
    rw [blk_eq hk hi, if_pos h1]
  unfold roomAt
  rw [seen_step hk hi]
  unfold txsOf
  rw [List.filterMap_append, e]
  rw [e] at ht
  cases h : tx st.b st.v[k].bl[i] with
  | none => rw [h] at ht; cases ht
  | some t =>
    have h2 : List.filterMap (fun i : Idn => if i.1 then tx st.b i else none) [st.v[k].bl[i]] = [t] := by
      simp [h1, h]
    rw [h2, uniq_snoc]
    rfl

theorem uniq_len (l : List (List UInt8)) : (uniq l).length ≤ l.length := by
  have : ∀ (l all : List (List UInt8)), (l.foldl addT all).length ≤ all.length + l.length := by
    intro l
    induction l with
    | nil => intro all; simp
    | cons t r ih =>
      intro all
      have h1 := ih (addT all t)
      have h2 := addT_len all t
      rw [List.foldl_cons, List.length_cons]
      omega
  have h := this l []
  simpa [uniq] using h

theorem room_le {st : Sta} (g : Good F st) {k i : Nat} (hk : k < st.v.length) : (roomAt st k i).length ≤ 192 := by
  have h1 := uniq_len (txsOf st.b (seenAt st.v k i))
  have h2 := seen_le (l := st.v) (i := i) hk
  have h3 := ids_shortG g
  have h4 : (txsOf st.b (seenAt st.v k i)).length ≤ (seenAt st.v k i).length := List.length_filterMap_le _ _
  unfold roomAt
  omega

/-! ytkkecgamaahniaagreat# a state that a deed answers is valid, whether it was done or not -/

theorem write_errZ {st : Sta} {s t : List UInt8} {a : Int} (h : (write F st s a t).2 ≠ 0) : (write F st s a t).1 = zeroS := by
  unfold write at h ⊢
  by_cases h1 : (trim F st s a).2 ≠ 0
  · rw [if_pos h1]
  rw [if_neg h1] at h ⊢
  by_cases h2 : (put F (trim F st s a).1.b t).2.2 ≠ 0
  · rw [if_pos h2]
  rw [if_neg h2] at h
  exact absurd rfl h

theorem trim_errZ {st : Sta} {s : List UInt8} {a : Int} (h : (trim F st s a).2 ≠ 0) : (trim F st s a).1 = zeroS := by
  unfold trim at h ⊢
  by_cases h1 : (vloc F st s a).2 ≠ 0
  · rw [if_pos h1]
  rw [if_neg h1] at h
  exact absurd rfl h

theorem vdrop_errZ {st : Sta} {s : List UInt8} (h : (vdrop F st s).2 ≠ 0) : (vdrop F st s).1 = zeroS := by
  unfold vdrop at h ⊢
  by_cases h1 : (vfind F st s).2 ≠ 0
  · rw [if_pos h1]
  rw [if_neg h1] at h
  exact absurd rfl h

theorem make_errZ {st : Sta} {s : List UInt8} {n : Int} (h : (make F st s n).2 ≠ 0) : (make F st s n).1 = zeroS := by
  unfold make at h ⊢
  by_cases h0 : chkS F st ≠ 0
  · rw [if_pos h0]
  rw [if_neg h0] at h ⊢
  by_cases h1 : n < 1 ∨ 32 < n
  · rw [if_pos h1]
  rw [if_neg h1] at h ⊢
  by_cases h2 : newE st s ≠ 0
  · rw [if_pos h2]
  rw [if_neg h2] at h
  exact absurd rfl h

theorem clone_errZ {st : Sta} {s t : List UInt8} (h : (clone F st s t).2 ≠ 0) : (clone F st s t).1 = zeroS := by
  unfold clone at h ⊢
  by_cases h0 : (vfind F st s).2 ≠ 0
  · rw [if_pos h0]
  rw [if_neg h0] at h ⊢
  by_cases h2 : newE st t ≠ 0
  · rw [if_pos h2]
  rw [if_neg h2] at h
  exact absurd rfl h

theorem write_goodA (st : Sta) (s t : List UInt8) (a : Int) : Good F (write F st s a t).1 := by
  by_cases h : (write F st s a t).2 = 0
  · obtain ⟨_, _, _, _, _, _, _, _, _, _, _, hk⟩ := write_g h
    exact hk.good
  · rw [write_errZ h]; exact zero_good

theorem trim_goodA (st : Sta) (s : List UInt8) (a : Int) : Good F (trim F st s a).1 := by
  by_cases h : (trim F st s a).2 = 0
  · obtain ⟨_, _, _, _, _, _, _, _, hk⟩ := trim_g h
    exact hk.good
  · rw [trim_errZ h]; exact zero_good

theorem make_goodA (st : Sta) (s : List UInt8) (n : Int) : Good F (make F st s n).1 := by
  by_cases h : (make F st s n).2 = 0
  · obtain ⟨_, _, _, _, _, _, _, hk⟩ := make_g h
    exact hk
  · rw [make_errZ h]; exact zero_good

theorem clone_goodA (st : Sta) (s t : List UInt8) : Good F (clone F st s t).1 := by
  by_cases h : (clone F st s t).2 = 0
  · obtain ⟨_, _, _, _, _, _, hk⟩ := clone_g h
    exact hk
  · rw [clone_errZ h]; exact zero_good

theorem vdrop_goodA (st : Sta) (s : List UInt8) : Good F (vdrop F st s).1 := by
  by_cases h : (vdrop F st s).2 = 0
  · obtain ⟨_, _, _, _, _, hk⟩ := vdrop_g h
    exact hk
  · rw [vdrop_errZ h]; exact zero_good

end WoolVol

/-
  Boxes that hold states; what calls answer, in the shapes that the laws' walks meet. Conditions: as each says.
-/
namespace Go.Proofs.YtkkecgamaahniaaGreat
open Go.RowKit
open Go.Proofs
open WoolBag
open WoolVol

/-- a box that holds a state -/
structure BoxS (W : World) (X : Nat) (S : Sta) (o1 : Option Addr) (n1 c1 : Nat) (o2 : Option Addr) (n2 c2 : Nat) : Prop where
  row : RowC W X 31 [.slice o1 n1 c1, .slice o2 n2 c2]
  st : Stat W (.agg #[.slice o1 n1 c1, .slice o2 n2 c2]) S
  e1 : S.b.length = n1
  e2 : S.v.length = n2

section
variable {W W' : World} {X Y : Nat} {st st' : Sta} {o1 o2 o3 o4 : Option Addr} {n1 c1 n2 c2 n3 c3 n4 c4 : Nat}

theorem BoxS.up (h : BoxS W X st o1 n1 c1 o2 n2 c2) (hu : Up W W') : BoxS W' X st o1 n1 c1 o2 n2 c2 := ⟨h.row.up hu, h.st.up hu, h.e1, h.e2⟩
theorem BoxS.new (h : Stat W (.agg #[.slice o1 n1 c1, .slice o2 n2 c2]) st) (h1 : st.b.length = n1) (h2 : st.v.length = n2) : BoxS (W.alloc (.cells #[.slice o1 n1 c1, .slice o2 n2 c2] 31)) W.heap.size st o1 n1 c1 o2 n2 c2 :=
  ⟨heap_alloc_new W _, h.up (Up.alloc _ _), h1, h2⟩
theorem BoxS.k0 (h : BoxS W X st o1 n1 c1 o2 n2 c2) : W.cell? ⟨X, 0, none⟩ = some (.slice o1 n1 c1) := h.row.cell (j := 0) rfl
theorem BoxS.k1 (h : BoxS W X st o1 n1 c1 o2 n2 c2) : W.cell? ⟨X, 1, none⟩ = some (.slice o2 n2 c2) := h.row.cell (j := 1) rfl
theorem BoxS.f0 (h : BoxS W X st o1 n1 c1 o2 n2 c2) : W.frozen? ⟨X, 0, none⟩ = false := h.row.frozen 0
theorem BoxS.f1 (h : BoxS W X st o1 n1 c1 o2 n2 c2) : W.frozen? ⟨X, 1, none⟩ = false := h.row.frozen 1
theorem BoxS.vols (h : BoxS W X st o1 n1 c1 o2 n2 c2) : Vols W (.slice o2 n2 c2) st.v := by
  obtain ⟨vb, vv, hag, hb, hv⟩ := h.st
  simp at hag
  obtain ⟨rfl, rfl⟩ := hag
  exact hv
theorem BoxS.items (h : BoxS W X st o1 n1 c1 o2 n2 c2) : Items W (.slice o1 n1 c1) st.b := by
  obtain ⟨vb, vv, hag, hb, hv⟩ := h.st
  simp at hag
  obtain ⟨rfl, rfl⟩ := hag
  exact hb
/-- another state laid into the box -/
theorem BoxS.put (h : BoxS W X st o1 n1 c1 o2 n2 c2) (h' : Stat W (.agg #[.slice o3 n3 c3, .slice o4 n4 c4]) st') (h1 : st'.b.length = n3) (h2 : st'.v.length = n4) :
    BoxS ((W.setCell ⟨X, 0, none⟩ (.slice o3 n3 c3)).setCell ⟨X, 1, none⟩ (.slice o4 n4 c4)) X st' o3 n3 c3 o4 n4 c4 :=
  ⟨(h.row.set 0 _).set 1 _, h'.boxed h.row rfl rfl rfl, h1, h2⟩
/-- a box beside it -/
theorem BoxS.beside (h : BoxS W X st o1 n1 c1 o2 n2 c2) (h' : BoxS W Y st' o3 n3 c3 o4 n4 c4) (hne : X ≠ Y) {x y : Value} (hx : isSl x = true) :
    BoxS ((W.setCell ⟨Y, 0, none⟩ x).setCell ⟨Y, 1, none⟩ y) X st o1 n1 c1 o2 n2 c2 :=
  ⟨(h.row.other hne 0 x).other hne 1 y, h.st.boxed h'.row rfl rfl hx, h.e1, h.e2⟩
theorem BoxS.lt (h : BoxS W X st o1 n1 c1 o2 n2 c2) : X < W.heap.size := h.row.lt
end

/-- a row of the call's own does not lie in a box of another type -/
theorem RowC.notOwn {w : World} {Q T T' base m n : Nat} {v : Value} {L L' : List Value} (hr : RowC w Q T' L') (ho : w.ownsRow base T m v n L) (hne : T ≠ T') : v.ownBlock ≠ some Q := by
  rcases own_row ho with ⟨rfl, _, _⟩ | ⟨g, cap, sp, rfl, _, hrow, _⟩
  · intro h; cases h
  · intro h
    have e : g = Q := Option.some.inj h
    subst e
    exact RowC.apart hrow hr hne rfl

/-- a state and an error -/
def StO (w : World) (r : Sta × Int) (e : Ending) (w' : World) : Prop :=
  ∃ (o1 : Option Addr) (c1 : Nat) (o2 : Option Addr) (c2 : Nat), e = .returned (.tuple #[.agg #[.slice o1 r.1.b.length c1, .slice o2 r.1.v.length c2], .int .i64 r.2]) ∧ Stat w' (.agg #[.slice o1 r.1.b.length c1, .slice o2 r.1.v.length c2]) r.1 ∧ Up w w'

theorem StO.rd {f : FuncId} {a : Array Value} {w : World} {r : Sta × Int} (h : Calls Tryz.prog f a w (RdEPost w r)) : Calls Tryz.prog f a w (StO w r) := by
  refine h.mono ?_
  rintro e w' ⟨v, rfl, h1, h2⟩
  obtain ⟨o1, c1, o2, c2, hv⟩ := h1.shape
  subst hv
  exact ⟨o1, c1, o2, c2, rfl, h1, h2⟩

theorem StO.ow {f : FuncId} {a : Array Value} {w : World} {r : Sta × Int} (h : Calls Tryz.prog f a w (StEPost w r)) : Calls Tryz.prog f a w (StO w r) := by
  refine h.mono ?_
  rintro e w' ⟨v, rfl, h1, h2⟩
  have h3 := h1.stat
  obtain ⟨o1, c1, o2, c2, hv⟩ := h3.shape
  subst hv
  exact ⟨o1, c1, o2, c2, rfl, h3, h2⟩

def MdO (w : World) (r : Sta) (e : Ending) (w' : World) : Prop :=
  ∃ (o1 : Option Addr) (c1 : Nat) (o2 : Option Addr) (c2 : Nat), e = .returned (.agg #[.slice o1 r.b.length c1, .slice o2 r.v.length c2]) ∧ Stat w' (.agg #[.slice o1 r.b.length c1, .slice o2 r.v.length c2]) r ∧ Up w w'

theorem MdO.of {f : FuncId} {a : Array Value} {w : World} {r : Sta} (h : Calls Tryz.prog f a w (MadePost r w)) : Calls Tryz.prog f a w (MdO w r) := by
  refine h.mono ?_
  rintro e w' ⟨v, rfl, h1, h2⟩
  obtain ⟨o1, c1, o2, c2, hv⟩ := h1.shape
  subst hv
  exact ⟨o1, c1, o2, c2, rfl, h1, h2⟩

def TxO (l : List (List UInt8)) (w : World) (e : Ending) (w' : World) : Prop := ∃ (o : Option Addr) (c : Nat), e = .returned (.slice o l.length c) ∧ Txs w' (.slice o l.length c) l ∧ Up w w'

theorem TxO.of {f : FuncId} {a : Array Value} {w : World} {l : List (List UInt8)} (h : Calls Tryz.prog f a w (TextsPost l w)) : Calls Tryz.prog f a w (TxO l w) := by
  refine h.mono ?_
  rintro e w' ⟨v, rfl, h1, h2⟩
  obtain ⟨o, c, rfl, _⟩ := h1.slice
  exact ⟨o, c, rfl, h1, h2⟩

def IdO (r : List Idn × Int) (w : World) (e : Ending) (w' : World) : Prop := ∃ (o : Option Addr) (c : Nat), e = .returned (.tuple #[.slice o r.1.length c, .int .i64 r.2]) ∧ Ids w' (.slice o r.1.length c) r.1 ∧ c ≤ maxLen ∧ Up w w'

theorem IdO.of {f : FuncId} {a : Array Value} {w : World} {st : Sta} {s : List UInt8} (h : Calls Tryz.prog f a w (BlPost st s w)) : Calls Tryz.prog f a w (IdO (blocks FP st s) w) := by
  refine h.mono ?_
  rintro e w' ⟨v, rfl, h1, h2⟩
  obtain ⟨o, c, rfl, _, hc⟩ := h1.slice
  exact ⟨o, c, rfl, h1, hc, h2⟩

theorem textsG_len {st : Sta} (g : WoolVol.Good FP st) (s : List UInt8) : (textsG FP st s).length ≤ 32 := by
  cases hx : vix (nmB s) st.v with
  | none => rw [textsG_miss g hx]; simp
  | some k =>
    obtain ⟨hk, _⟩ := vix_name hx
    rw [textsG_of g hk hx, rdG_len]
    exact (g.vol _ (List.getElem_mem hk)).2.1

theorem txt_same (l : List UInt8) : ((bs l).toList == (bs l).toList) = true := by simp
theorem txt_other {a b : List UInt8} (h : a ≠ b) : ((bs a).toList == (bs b).toList) = false := by
  rw [txt_eqT]
  simpa using h

/-- two names, picked -/
def Picks2 (w : World) (p q : Value) (w' : World) : Prop := ∃ a b : List UInt8, a.length ≤ 9223372036854775807 ∧ b.length ≤ 9223372036854775807 ∧ p = .string (bs a) ∧ q = .string (bs b) ∧ Up w w'
def Picks3 (w : World) (p q r : Value) (w' : World) : Prop := ∃ a b c : List UInt8, a.length ≤ 9223372036854775807 ∧ b.length ≤ 9223372036854775807 ∧ c.length ≤ 9223372036854775807 ∧ p = .string (bs a) ∧ q = .string (bs b) ∧ r = .string (bs c) ∧ Up w w'

end Go.Proofs.YtkkecgamaahniaaGreat
