/-
  The texts StU, StV, SamE, one behind the other; each says below what it holds and on what conditions.
-/
import Derived.Test.YtnmdfdkagkpcaaaJVolOwn44
import Derived.Test.YtnmdfdkagkpcaaaJVolOwn45
import Derived.Test.YtnmdfdkagkpcaaaJVolOwn29
import Derived.Test.YtnmdfdkagkpcaaaJVolOwn23
import Derived.Deep.OwnRows
import Derived.Laws.OwnMore

/-
  Identifiers of a state's volumes, seen one behind the other; how many of them are used, and which texts; in plain words, by whatever fingerprint. Conditions: as each says.
-/
namespace WoolVol
open WoolBag

variable {F : List UInt8 → Int}

/-- the identifiers ahead of place i of volume k -/
def seenAt (l : List Vo) (k i : Nat) : List Idn := ids (l.take k) ++ (l[k]!).bl.take i

theorem seen_zero (l : List Vo) : seenAt l 0 0 = [] := by simp [seenAt, ids]

theorem seen_step {l : List Vo} {k i : Nat} (hk : k < l.length) (hi : i < l[k].bl.length) : seenAt l k (i + 1) = seenAt l k i ++ [l[k].bl[i]] := by
  unfold seenAt
  rw [getElem!_pos l k hk, List.take_add_one, List.getElem?_eq_getElem hi, List.append_assoc]
  rfl

theorem ids_append (a b : List Vo) : ids (a ++ b) = ids a ++ ids b := by unfold ids; rw [List.map_append, List.flatten_append]

theorem seen_next {l : List Vo} {k : Nat} (hk : k < l.length) : seenAt l (k + 1) 0 = seenAt l k l[k].bl.length := by
  unfold seenAt
  rw [getElem!_pos l k hk, List.take_length, List.take_add_one, List.getElem?_eq_getElem hk, ids_append]
  simp [ids]

theorem seen_end (l : List Vo) : seenAt l l.length 0 = ids l := by
  unfold seenAt
  rw [List.take_length, List.take_zero, List.append_nil]

theorem usedN_le (l : List Idn) : usedN l ≤ l.length := List.length_filter_le _ _

theorem seen_le {l : List Vo} {k i : Nat} (hk : k < l.length) : (seenAt l k i).length ≤ (ids l).length := by
  have e : ids l = ids (l.take k) ++ (l[k].bl ++ ids (l.drop (k + 1))) := by
    have e2 : l = l.take k ++ l[k] :: l.drop (k + 1) := by rw [← List.drop_eq_getElem_cons hk, List.take_append_drop]
    conv => lhs; rw [e2]
    rw [ids_append]
    rfl
  rw [e]
  unfold seenAt
  rw [getElem!_pos l k hk]
  simp only [List.length_append, List.length_take]
  omega

/-- the texts that identifiers stand for -/
def txsOf (b : List Itm) (l : List Idn) : List (List UInt8) := l.filterMap (fun i => if i.1 then tx b i else none)

theorem txs_used (st : Sta) : txsOf st.b (ids st.v) = usedT st := rfl

/-- unlike texts of the identifiers seen -/
def roomAt (st : Sta) (k i : Nat) : List (List UInt8) := uniq (txsOf st.b (seenAt st.v k i))

theorem room_zero (st : Sta) : roomAt st 0 0 = [] := by unfold roomAt; rw [seen_zero]; rfl

theorem room_next {st : Sta} {k : Nat} (hk : k < st.v.length) : roomAt st (k + 1) 0 = roomAt st k st.v[k].bl.length := by unfold roomAt; rw [seen_next hk]

theorem room_end {st : Sta} (g : Good F st) : (roomAt st st.v.length 0).length = st.b.length := by
  unfold roomAt
  rw [seen_end, txs_used]
  exact bag_uniq g

theorem uniq_snoc (l : List (List UInt8)) (t : List UInt8) : uniq (l ++ [t]) = addT (uniq l) t := by
  unfold uniq
  rw [List.foldl_append]
  rfl

theorem room_hole {st : Sta} {k i : Nat} (hk : k < st.v.length) (hi : i < st.v[k].bl.length) (h0 : st.v[k].bl[i].1 = false) : roomAt st k (i + 1) = roomAt st k i := by
  unfold roomAt
  rw [seen_step hk hi]
  unfold txsOf
  rw [List.filterMap_append]
  simp [h0]

theorem room_step {st : Sta} (g : Good F st) {k i : Nat} (hk : k < st.v.length) (hi : i < st.v[k].bl.length) (h1 : st.v[k].bl[i].1 = true) : roomAt st k (i + 1) = addT (roomAt st k i) ((txAt st k i).getD []) := by
  have ht := tx_is g hk hi
  rw [h1] at ht
  have e : txAt st k i = tx st.b st.v[k].bl[i] := by
    unfold txAt
    rw [blk_eq hk hi, if_pos h1]
  unfold roomAt
  rw [seen_step hk hi]
  unfold txsOf
  rw [List.filterMap_append, e]
  rw [e] at ht
  cases h : tx st.b st.v[k].bl[i] with
  | none => rw [h] at ht; cases ht
  | some t =>
    have h2 : List.filterMap (fun i : Idn => if i.1 then tx st.b i else none) [st.v[k].bl[i]] = [t] := by
      simp [h1, h]
    rw [h2, uniq_snoc]
    rfl

theorem uniq_len (l : List (List UInt8)) : (uniq l).length ≤ l.length := by
  have : ∀ (l all : List (List UInt8)), (l.foldl addT all).length ≤ all.length + l.length := by
    intro l
    induction l with
    | nil => intro all; simp
    | cons t r ih =>
      intro all
      have h1 := ih (addT all t)
      have h2 := addT_len all t
      rw [List.foldl_cons, List.length_cons]
      omega
  have h := this l []
  simpa [uniq] using h

theorem room_le {st : Sta} (g : Good F st) {k i : Nat} (hk : k < st.v.length) : (roomAt st k i).length ≤ 192 := by
  have h1 := uniq_len (txsOf st.b (seenAt st.v k i))
  have h2 := seen_le (l := st.v) (i := i) hk
  have h3 := ids_shortG g
  have h4 : (txsOf st.b (seenAt st.v k i)).length ≤ (seenAt st.v k i).length := List.length_filterMap_le _ _
  unfold roomAt
  omega

/-! ytnmdfdkagkpcaaa# a state that a deed answers is valid, whether it was done or not -/

theorem write_errZ {st : Sta} {s t : List UInt8} {a : Int} (h : (write F st s a t).2 ≠ 0) : (write F st s a t).1 = zeroS := by
  unfold write at h ⊢
  by_cases h1 : (trim F st s a).2 ≠ 0
  · rw [if_pos h1]
  rw [if_neg h1] at h ⊢
  by_cases h2 : (put F (trim F st s a).1.b t).2.2 ≠ 0
  · rw [if_pos h2]
  rw [if_neg h2] at h
  exact absurd rfl h

theorem trim_errZ {st : Sta} {s : List UInt8} {a : Int} (h : (trim F st s a).2 ≠ 0) : (trim F st s a).1 = zeroS := by
  unfold trim at h ⊢
  by_cases h1 : (vloc F st s a).2 ≠ 0
  · rw [if_pos h1]
  rw [if_neg h1] at h
  exact absurd rfl h

theorem vdrop_errZ {st : Sta} {s : List UInt8} (h : (vdrop F st s).2 ≠ 0) : (vdrop F st s).1 = zeroS := by
  unfold vdrop at h ⊢
  by_cases h1 : (vfind F st s).2 ≠ 0
  · rw [if_pos h1]
  rw [if_neg h1] at h
  exact absurd rfl h

theorem make_errZ {st : Sta} {s : List UInt8} {n : Int} (h : (make F st s n).2 ≠ 0) : (make F st s n).1 = zeroS := by
  unfold make at h ⊢
  by_cases h0 : chkS F st ≠ 0
  · rw [if_pos h0]
  rw [if_neg h0] at h ⊢
  by_cases h1 : n < 1 ∨ 32 < n
  · rw [if_pos h1]
  rw [if_neg h1] at h ⊢
  by_cases h2 : newE st s ≠ 0
  · rw [if_pos h2]
  rw [if_neg h2] at h
  exact absurd rfl h

theorem clone_errZ {st : Sta} {s t : List UInt8} (h : (clone F st s t).2 ≠ 0) : (clone F st s t).1 = zeroS := by
  unfold clone at h ⊢
  by_cases h0 : (vfind F st s).2 ≠ 0
  · rw [if_pos h0]
  rw [if_neg h0] at h ⊢
  by_cases h2 : newE st t ≠ 0
  · rw [if_pos h2]
  rw [if_neg h2] at h
  exact absurd rfl h

theorem write_goodA (st : Sta) (s t : List UInt8) (a : Int) : Good F (write F st s a t).1 := by
  by_cases h : (write F st s a t).2 = 0
  · obtain ⟨_, _, _, _, _, _, _, _, _, _, _, hk⟩ := write_g h
    exact hk.good
  · rw [write_errZ h]; exact zero_good

theorem trim_goodA (st : Sta) (s : List UInt8) (a : Int) : Good F (trim F st s a).1 := by
  by_cases h : (trim F st s a).2 = 0
  · obtain ⟨_, _, _, _, _, _, _, _, hk⟩ := trim_g h
    exact hk.good
  · rw [trim_errZ h]; exact zero_good

theorem make_goodA (st : Sta) (s : List UInt8) (n : Int) : Good F (make F st s n).1 := by
  by_cases h : (make F st s n).2 = 0
  · obtain ⟨_, _, _, _, _, _, _, hk⟩ := make_g h
    exact hk
  · rw [make_errZ h]; exact zero_good

theorem clone_goodA (st : Sta) (s t : List UInt8) : Good F (clone F st s t).1 := by
  by_cases h : (clone F st s t).2 = 0
  · obtain ⟨_, _, _, _, _, _, hk⟩ := clone_g h
    exact hk
  · rw [clone_errZ h]; exact zero_good

theorem vdrop_goodA (st : Sta) (s : List UInt8) : Good F (vdrop F st s).1 := by
  by_cases h : (vdrop F st s).2 = 0
  · obtain ⟨_, _, _, _, _, hk⟩ := vdrop_g h
    exact hk
  · rw [vdrop_errZ h]; exact zero_good

end WoolVol

/-
  Boxes that hold states; what calls answer, in the shapes that the laws' walks meet. Conditions: as each says.
-/
namespace Go.Proofs.Ytnmdfdkagkpcaaa
open Go.RowKit
open Go.Proofs
open WoolBag
open WoolVol

/-- a box that holds a state -/
structure BoxS (W : World) (X : Nat) (S : Sta) (o1 : Option Addr) (n1 c1 : Nat) (o2 : Option Addr) (n2 c2 : Nat) : Prop where
  row : RowC W X 31 [.slice o1 n1 c1, .slice o2 n2 c2]
  st : Stat W (.agg #[.slice o1 n1 c1, .slice o2 n2 c2]) S
  e1 : S.b.length = n1
  e2 : S.v.length = n2

section
variable {W W' : World} {X Y : Nat} {st st' : Sta} {o1 o2 o3 o4 : Option Addr} {n1 c1 n2 c2 n3 c3 n4 c4 : Nat}

theorem BoxS.up (h : BoxS W X st o1 n1 c1 o2 n2 c2) (hu : Up W W') : BoxS W' X st o1 n1 c1 o2 n2 c2 := ⟨h.row.up hu, h.st.up hu, h.e1, h.e2⟩
theorem BoxS.new (h : Stat W (.agg #[.slice o1 n1 c1, .slice o2 n2 c2]) st) (h1 : st.b.length = n1) (h2 : st.v.length = n2) : BoxS (W.alloc (.cells #[.slice o1 n1 c1, .slice o2 n2 c2] 31)) W.heap.size st o1 n1 c1 o2 n2 c2 :=
  ⟨heap_alloc_new W _, h.up (Up.alloc _ _), h1, h2⟩
theorem BoxS.k0 (h : BoxS W X st o1 n1 c1 o2 n2 c2) : W.cell? ⟨X, 0, none⟩ = some (.slice o1 n1 c1) := h.row.cell (j := 0) rfl
theorem BoxS.k1 (h : BoxS W X st o1 n1 c1 o2 n2 c2) : W.cell? ⟨X, 1, none⟩ = some (.slice o2 n2 c2) := h.row.cell (j := 1) rfl
theorem BoxS.f0 (h : BoxS W X st o1 n1 c1 o2 n2 c2) : W.frozen? ⟨X, 0, none⟩ = false := h.row.frozen 0
theorem BoxS.f1 (h : BoxS W X st o1 n1 c1 o2 n2 c2) : W.frozen? ⟨X, 1, none⟩ = false := h.row.frozen 1
theorem BoxS.vols (h : BoxS W X st o1 n1 c1 o2 n2 c2) : Vols W (.slice o2 n2 c2) st.v := by
  obtain ⟨vb, vv, hag, hb, hv⟩ := h.st
  simp at hag
  obtain ⟨rfl, rfl⟩ := hag
  exact hv
theorem BoxS.items (h : BoxS W X st o1 n1 c1 o2 n2 c2) : Items W (.slice o1 n1 c1) st.b := by
  obtain ⟨vb, vv, hag, hb, hv⟩ := h.st
  simp at hag
  obtain ⟨rfl, rfl⟩ := hag
  exact hb
/-- another state laid into the box -/
theorem BoxS.put (h : BoxS W X st o1 n1 c1 o2 n2 c2) (h' : Stat W (.agg #[.slice o3 n3 c3, .slice o4 n4 c4]) st') (h1 : st'.b.length = n3) (h2 : st'.v.length = n4) :
    BoxS ((W.setCell ⟨X, 0, none⟩ (.slice o3 n3 c3)).setCell ⟨X, 1, none⟩ (.slice o4 n4 c4)) X st' o3 n3 c3 o4 n4 c4 :=
  ⟨(h.row.set 0 _).set 1 _, h'.boxed h.row rfl rfl rfl, h1, h2⟩
/-- a box beside it -/
theorem BoxS.beside (h : BoxS W X st o1 n1 c1 o2 n2 c2) (h' : BoxS W Y st' o3 n3 c3 o4 n4 c4) (hne : X ≠ Y) {x y : Value} (hx : isSl x = true) :
    BoxS ((W.setCell ⟨Y, 0, none⟩ x).setCell ⟨Y, 1, none⟩ y) X st o1 n1 c1 o2 n2 c2 :=
  ⟨(h.row.other hne 0 x).other hne 1 y, h.st.boxed h'.row rfl rfl hx, h.e1, h.e2⟩
theorem BoxS.lt (h : BoxS W X st o1 n1 c1 o2 n2 c2) : X < W.heap.size := h.row.lt
end

/-- a row of the call's own does not lie in a box of another type -/
theorem RowC.notOwn {w : World} {Q T T' base m n : Nat} {v : Value} {L L' : List Value} (hr : RowC w Q T' L') (ho : w.ownsRow base T m v n L) (hne : T ≠ T') : v.ownBlock ≠ some Q := by
  rcases own_row ho with ⟨rfl, _, _⟩ | ⟨g, cap, sp, rfl, _, hrow, _⟩
  · intro h; cases h
  · intro h
    have e : g = Q := Option.some.inj h
    subst e
    exact RowC.apart hrow hr hne rfl

/-- a state and an error -/
def StO (w : World) (r : Sta × Int) (e : Ending) (w' : World) : Prop :=
  ∃ (o1 : Option Addr) (c1 : Nat) (o2 : Option Addr) (c2 : Nat), e = .returned (.tuple #[.agg #[.slice o1 r.1.b.length c1, .slice o2 r.1.v.length c2], .int .i64 r.2]) ∧ Stat w' (.agg #[.slice o1 r.1.b.length c1, .slice o2 r.1.v.length c2]) r.1 ∧ Up w w'

theorem StO.rd {f : FuncId} {a : Array Value} {w : World} {r : Sta × Int} (h : Calls Try.prog f a w (RdEPost w r)) : Calls Try.prog f a w (StO w r) := by
  refine h.mono ?_
  rintro e w' ⟨v, rfl, h1, h2⟩
  obtain ⟨o1, c1, o2, c2, hv⟩ := h1.shape
  subst hv
  exact ⟨o1, c1, o2, c2, rfl, h1, h2⟩

theorem StO.ow {f : FuncId} {a : Array Value} {w : World} {r : Sta × Int} (h : Calls Try.prog f a w (StEPost w r)) : Calls Try.prog f a w (StO w r) := by
  refine h.mono ?_
  rintro e w' ⟨v, rfl, h1, h2⟩
  have h3 := h1.stat
  obtain ⟨o1, c1, o2, c2, hv⟩ := h3.shape
  subst hv
  exact ⟨o1, c1, o2, c2, rfl, h3, h2⟩

def MdO (w : World) (r : Sta) (e : Ending) (w' : World) : Prop :=
  ∃ (o1 : Option Addr) (c1 : Nat) (o2 : Option Addr) (c2 : Nat), e = .returned (.agg #[.slice o1 r.b.length c1, .slice o2 r.v.length c2]) ∧ Stat w' (.agg #[.slice o1 r.b.length c1, .slice o2 r.v.length c2]) r ∧ Up w w'

theorem MdO.of {f : FuncId} {a : Array Value} {w : World} {r : Sta} (h : Calls Try.prog f a w (MadePost r w)) : Calls Try.prog f a w (MdO w r) := by
  refine h.mono ?_
  rintro e w' ⟨v, rfl, h1, h2⟩
  obtain ⟨o1, c1, o2, c2, hv⟩ := h1.shape
  subst hv
  exact ⟨o1, c1, o2, c2, rfl, h1, h2⟩

def TxO (l : List (List UInt8)) (w : World) (e : Ending) (w' : World) : Prop := ∃ (o : Option Addr) (c : Nat), e = .returned (.slice o l.length c) ∧ Txs w' (.slice o l.length c) l ∧ Up w w'

theorem TxO.of {f : FuncId} {a : Array Value} {w : World} {l : List (List UInt8)} (h : Calls Try.prog f a w (TextsPost l w)) : Calls Try.prog f a w (TxO l w) := by
  refine h.mono ?_
  rintro e w' ⟨v, rfl, h1, h2⟩
  obtain ⟨o, c, rfl, _⟩ := h1.slice
  exact ⟨o, c, rfl, h1, h2⟩

def IdO (r : List Idn × Int) (w : World) (e : Ending) (w' : World) : Prop := ∃ (o : Option Addr) (c : Nat), e = .returned (.tuple #[.slice o r.1.length c, .int .i64 r.2]) ∧ Ids w' (.slice o r.1.length c) r.1 ∧ c ≤ maxLen ∧ Up w w'

theorem IdO.of {f : FuncId} {a : Array Value} {w : World} {st : Sta} {s : List UInt8} (h : Calls Try.prog f a w (BlPost st s w)) : Calls Try.prog f a w (IdO (blocks FP st s) w) := by
  refine h.mono ?_
  rintro e w' ⟨v, rfl, h1, h2⟩
  obtain ⟨o, c, rfl, _, hc⟩ := h1.slice
  exact ⟨o, c, rfl, h1, hc, h2⟩

theorem textsG_len {st : Sta} (g : WoolVol.Good FP st) (s : List UInt8) : (textsG FP st s).length ≤ 32 := by
  cases hx : vix (nmB s) st.v with
  | none => rw [textsG_miss g hx]; simp
  | some k =>
    obtain ⟨hk, _⟩ := vix_name hx
    rw [textsG_of g hk hx, rdG_len]
    exact (g.vol _ (List.getElem_mem hk)).2.1

/-- equal texts compare equal -/
theorem equalT_same (v1 v2 : Value) (l m : List (List UInt8)) (w : World) (hl : l.length ≤ 32) (h1 : Txs w v1 l) (h2 : Txs w v2 m) (e : l = m) :
    Calls Try.prog 11 #[v1, v2] w fun e w' => e = .returned (.bool true) ∧ Up w w' := by
  subst e
  have h := equalT_any v1 v2 l l w (by omega) h1 h2
  rwa [show (l == l) = true from by simp] at h

theorem txt_same (l : List UInt8) : ((bs l).toList == (bs l).toList) = true := by simp
theorem txt_other {a b : List UInt8} (h : a ≠ b) : ((bs a).toList == (bs b).toList) = false := by
  rw [txt_eqT]
  simpa using h

/-- two names, picked -/
def Picks2 (w : World) (p q : Value) (w' : World) : Prop := ∃ a b : List UInt8, a.length ≤ 9223372036854775807 ∧ b.length ≤ 9223372036854775807 ∧ p = .string (bs a) ∧ q = .string (bs b) ∧ Up w w'
def Picks3 (w : World) (p q r : Value) (w' : World) : Prop := ∃ a b c : List UInt8, a.length ≤ 9223372036854775807 ∧ b.length ≤ 9223372036854775807 ∧ c.length ≤ 9223372036854775807 ∧ p = .string (bs a) ∧ q = .string (bs b) ∧ r = .string (bs c) ∧ Up w w'

end Go.Proofs.Ytnmdfdkagkpcaaa

/-
  slices.Equal of two rows of identifiers that read alike; the reference's SameState of two states that read alike. Conditions: as each says.
-/
namespace Go.Proofs.Ytnmdfdkagkpcaaa
open Go.RowKit
open Go.Proofs
open WoolBag
open WoolVol

def EqDRel (N : Nat) (w : World) (i : Value) (wr : World) : Prop := ∃ k : Nat, k ≤ N ∧ i = .int .i64 k ∧ Up w wr

set_option maxRecDepth 100000 in
set_option maxHeartbeats 400000 in
theorem equalD_yes (v1 v2 : Value) (l : List Idn) (w : World) (h1 : Ids w v1 l) (h2 : Ids w v2 l) :
    Calls Try.prog 28 #[v1, v2] w fun e w' => e = .returned (.bool true) ∧ Up w w' := by
  obtain ⟨o1, c1, rfl, p1, p2⟩ := h1.slice
  obtain ⟨o2, c2, rfl, q1, q2⟩ := h2.slice
  have HP := Lib.hid h1
  have HQ := Lib.hid h2
  unfold maxLen at p2 q2
  clear h1 h2
  go_enter Try.func28, Try.ntmps28
  go_wp2_with fail
  go_loopw [13] (fun i wr => EqDRel l.length w i wr) (fun i _ => l.length - (intOf i).toNat)
  case atStart => exact ⟨0, Nat.zero_le _, rfl, Up.refl w⟩
  case round =>
    obtain ⟨k, hk, rfl, hu⟩ := hrel
    by_cases hlt : k < l.length
    · have hne : l ≠ [] := by intro e; rw [e] at hlt; simp at hlt
      obtain ⟨b, off, rfl, h5⟩ := HP.out.at hne
      obtain ⟨b', off', rfl, h6⟩ := HQ.out.at hne
      obtain ⟨e1, e2, e3⟩ := h5 k hlt
      rw [← hu.cell (World.block_lt_of_cell? w _ e1)] at e1
      rw [← hu.cell (World.block_lt_of_cell? w _ e2)] at e2
      rw [← hu.cell (World.block_lt_of_cell? w _ e3)] at e3
      obtain ⟨f1, f2, f3⟩ := h6 k hlt
      rw [← hu.cell (World.block_lt_of_cell? w _ f1)] at f1
      rw [← hu.cell (World.block_lt_of_cell? w _ f2)] at f2
      rw [← hu.cell (World.block_lt_of_cell? w _ f3)] at f3
      generalize l[k].1 = xs at e1 f1
      generalize l[k].2.1 = xn at e2 f2
      generalize l[k].2.2 = xr at e3 f3
      have HU := Lib.hid hu
      have d1 : decide (k < l.length) = true := decide_eq_true hlt
      clear h5 h6 hu hne
      go_wp2_with fail
      go_quiet (fail)
      go_wp2_with fail
      go_roundw
      case rel => exact ⟨k + 1, by omega, by go_num, HU.out.trans (Up.drewN _ _)⟩
      case measure => simp only [intOf]; omega
    · have d1 : decide (k < l.length) = false := decide_eq_false hlt
      go_wp2_with fail
      go_ret
      exact ⟨rfl, hu⟩

set_option maxRecDepth 100000 in
set_option maxHeartbeats 400000 in
theorem same1_yes (s : List UInt8) (v1 v2 : Value) (l : List Idn) (w : World) (h1 : Ids w v1 l) (h2 : Ids w v2 l) :
    Calls Try.prog 54 #[.agg #[.string (bs s), v1], .agg #[.string (bs s), v2]] w fun e w' => e = .returned (.bool true) ∧ Up w w' := by
  have HE := Lib.hid (fun W (hW : Up w W) => equalD_yes v1 v2 l W (h1.up hW) (h2.up hW))
  obtain ⟨o1, c1, rfl, _, _⟩ := h1.slice
  obtain ⟨o2, c2, rfl, _, _⟩ := h2.slice
  clear h1 h2
  have hS : ((bs s).toList == (bs s).toList) = true := by rw [txt_eq]; simp
  generalize bs s = S at *
  go_enter Try.func54, Try.ntmps54
  go_wp2_with fail
  refine (HE.out _ ((Up.alloc _ _).trans (Up.alloc _ _))).mono ?_
  rintro e w1 ⟨rfl, u1⟩
  go_wp2_with fail
  go_ret
  exact ⟨rfl, ((Up.alloc _ _).trans (Up.alloc _ _)).trans u1⟩

theorem eg_same : ∀ args w, (callFunc 54 args).run Try.prog w = .ok (.enter 54 args) w := enters_of Try.func54 (by kernel_rfl) rfl

set_option maxRecDepth 100000 in
set_option maxHeartbeats 400000 in
theorem equalV_yes (v1 v2 : Value) (l : List Vo) (w : World) (h1 : Vols w v1 l) (h2 : Vols w v2 l) :
    Calls Try.prog 53 #[v1, v2, .func (.func 54) #[] #[]] w fun e w' => e = .returned (.bool true) ∧ Up w w' := by
  obtain ⟨o1, c1, rfl, p1, p2⟩ := h1.slice
  obtain ⟨o2, c2, rfl, q1, q2⟩ := h2.slice
  have HP := Lib.hid h1
  have HQ := Lib.hid h2
  unfold maxLen at p2 q2
  clear h1 h2
  go_enter Try.func53, Try.ntmps53
  go_wp2_with fail
  go_loopw [17] (fun i wr => EqDRel l.length w i wr) (fun i _ => l.length - (intOf i).toNat)
  case atStart => exact ⟨0, Nat.zero_le _, rfl, Up.refl w⟩
  case round =>
    obtain ⟨k, hk, rfl, hu⟩ := hrel
    by_cases hlt : k < l.length
    · have hne : l ≠ [] := by intro e; rw [e] at hlt; simp at hlt
      obtain ⟨b, off, rfl, h5⟩ := HP.out.at hne
      obtain ⟨b', off', rfl, h6⟩ := HQ.out.at hne
      obtain ⟨e1, u, e2, hi1⟩ := h5 k hlt
      obtain ⟨f1, u', f2, hi2⟩ := h6 k hlt
      obtain ⟨n1, dd1, rfl, _, _⟩ := hi1.slice
      obtain ⟨n2, d2, rfl, _, _⟩ := hi2.slice
      have HC := Lib.hid (fun W (hW : Up w W) => same1_yes l[k].nm _ _ l[k].bl W (hi1.up hW) (hi2.up hW))
      rw [← hu.cell (World.block_lt_of_cell? w _ e1)] at e1
      rw [← hu.cell (World.block_lt_of_cell? w _ e2)] at e2
      rw [← hu.cell (World.block_lt_of_cell? w _ f1)] at f1
      rw [← hu.cell (World.block_lt_of_cell? w _ f2)] at f2
      have f1' := Lib.cell?_alloc_some (.cells #[.string (bs l[k].nm), .slice n1 l[k].bl.length dd1] 62) f1
      have f2' := Lib.cell?_alloc_some (.cells #[.string (bs l[k].nm), .slice n1 l[k].bl.length dd1] 62) f2
      generalize bs l[k].nm = S at *
      obtain ⟨L, hL⟩ : ∃ L, l[k].bl.length = L := ⟨_, rfl⟩
      rw [hL] at e2 f2 f1' f2' HC
      have HU := Lib.hid hu
      have d1 : decide (k < l.length) = true := decide_eq_true hlt
      clear h5 h6 hu hne hi1 hi2 hL
      go_wp2_with fail
      refine (HC.out _ ((HU.out.trans (Up.alloc _ _)).trans (Up.alloc _ _))).mono ?_
      rintro e w1 ⟨rfl, u1⟩
      have HU1 := Lib.hid (((HU.out.trans (Up.alloc _ _)).trans (Up.alloc _ _)).trans u1)
      clear u1
      go_wp2_with fail
      go_roundw
      case rel => exact ⟨k + 1, by omega, by go_num, HU1.out⟩
      case measure => simp only [intOf]; omega
    · have d1 : decide (k < l.length) = false := decide_eq_false hlt
      go_wp2_with fail
      go_ret
      exact ⟨rfl, hu⟩

set_option maxRecDepth 100000 in
set_option maxHeartbeats 400000 in
theorem same_yes (v1 v2 : Value) (st : Sta) (w : World) (h1 : Stat w v1 st) (h2 : Stat w v2 st) :
    Calls Try.prog 23 #[v1, v2] w fun e w' => e = .returned (.bool true) ∧ Up w w' := by
  obtain ⟨a1, b1, rfl, hi1, hv1⟩ := h1
  obtain ⟨a2, b2, rfl, hi2, hv2⟩ := h2
  have HI := Lib.hid (fun W (hW : Up w W) => equalI_yes a1 a2 st.b W (hi1.up hW) (hi2.up hW))
  have HV := Lib.hid (fun W (hW : Up w W) => equalV_yes b1 b2 st.v W (hv1.up hW) (hv2.up hW))
  obtain ⟨o1, c1, rfl, _⟩ := hi1.slice
  obtain ⟨o2, c2, rfl, _⟩ := hi2.slice
  obtain ⟨o3, c3, rfl, _, _⟩ := hv1.slice
  obtain ⟨o4, c4, rfl, _, _⟩ := hv2.slice
  clear hi1 hi2 hv1 hv2
  generalize st.b.length = M at *
  generalize st.v.length = N at *
  go_enter Try.func23, Try.ntmps23
  have HR1 : Hid (RowC ((w.alloc (.cells #[.slice o1 M c1, .slice o3 N c3] 31)).alloc (.cells #[.slice o2 M c2, .slice o4 N c4] 31)) w.heap.size 31 [.slice o1 M c1, .slice o3 N c3]) := RowC.up (heap_alloc_new w _) (Up.alloc _ _)
  have HR2 : Hid (RowC ((w.alloc (.cells #[.slice o1 M c1, .slice o3 N c3] 31)).alloc (.cells #[.slice o2 M c2, .slice o4 N c4] 31)) (w.heap.size + 1) 31 [.slice o2 M c2, .slice o4 N c4]) := box_new w _ _ _ _
  have HW0 : Hid (Up w ((w.alloc (.cells #[.slice o1 M c1, .slice o3 N c3] 31)).alloc (.cells #[.slice o2 M c2, .slice o4 N c4] 31))) := (Up.alloc _ _).trans (Up.alloc _ _)
  go_wp2_with fail
  generalize ((w.alloc (.cells #[.slice o1 M c1, .slice o3 N c3] 31)).alloc (.cells #[.slice o2 M c2, .slice o4 N c4] 31)) = W0 at HR1 HR2 HW0 ⊢
  refine (HI.out _ HW0.out).mono ?_
  rintro e w1 ⟨rfl, u1⟩
  have x0 := (HR1.out.up u1).cell (j := 1) rfl
  have x1 := (HR2.out.up u1).cell (j := 1) rfl
  go_wp2_with fail
  refine (HV.out _ (HW0.out.trans u1)).mono ?_
  rintro e w2 ⟨rfl, u2⟩
  go_wp2_with fail
  go_ret
  exact ⟨rfl, (HW0.out.trans u1).trans u2⟩

end Go.Proofs.Ytnmdfdkagkpcaaa
