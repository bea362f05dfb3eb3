/-
  The texts StU, StV, VolR, one behind the other; each says below what it holds and on what conditions.
-/
import Derived.Test.YtnmdfdkagkpcaaaJDiffCopies43
import Derived.Test.YtnmdfdkagkpcaaaJDiffCopies45
import Derived.Test.YtnmdfdkagkpcaaaJDiffCopies13
import Derived.Test.YtnmdfdkagkpcaaaJDiffCopies37

/-
  Identifiers of a state's volumes, seen one behind the other; how many of them are used, and which texts; in plain words, by whatever fingerprint. Conditions: as each says.
-/
namespace WoolVol
open WoolBag

variable {F : List UInt8 → Int}

/-- the identifiers ahead of place i of volume k -/
def seenAt (l : List Vo) (k i : Nat) : List Idn := ids (l.take k) ++ (l[k]!).bl.take i

theorem seen_zero (l : List Vo) : seenAt l 0 0 = [] := by simp [seenAt, ids]

theorem seen_step {l : List Vo} {k i : Nat} (hk : k < l.length) (hi : i < l[k].bl.length) : seenAt l k (i + 1) = seenAt l k i ++ [l[k].bl[i]] := by
  unfold seenAt
  rw [getElem!_pos l k hk, List.take_add_one, List.getElem?_eq_getElem hi, List.append_assoc]
  rfl

theorem ids_append (a b : List Vo) : ids (a ++ b) = ids a ++ ids b := by unfold ids; rw [List.map_append, List.flatten_append]

theorem seen_next {l : List Vo} {k : Nat} (hk : k < l.length) : seenAt l (k + 1) 0 = seenAt l k l[k].bl.length := by
  unfold seenAt
  rw [getElem!_pos l k hk, List.take_length, List.take_add_one, List.getElem?_eq_getElem hk, ids_append]
  simp [ids]

theorem seen_end (l : List Vo) : seenAt l l.length 0 = ids l := by
  unfold seenAt
  rw [List.take_length, List.take_zero, List.append_nil]

theorem usedN_le (l : List Idn) : usedN l ≤ l.length := List.length_filter_le _ _

theorem seen_le {l : List Vo} {k i : Nat} (hk : k < l.length) : (seenAt l k i).length ≤ (ids l).length := by
  have e : ids l = ids (l.take k) ++ (l[k].bl ++ ids (l.drop (k + 1))) := by
    have e2 : l = l.take k ++ l[k] :: l.drop (k + 1) := by rw [← List.drop_eq_getElem_cons hk, List.take_append_drop]
    conv => lhs; rw [e2]
    rw [ids_append]
    rfl
  rw [e]
  unfold seenAt
  rw [getElem!_pos l k hk]
  simp only [List.length_append, List.length_take]
  omega

/-- the texts that identifiers stand for -/
def txsOf (b : List Itm) (l : List Idn) : List (List UInt8) := l.filterMap (fun i => if i.1 then tx b i else none)

theorem txs_used (st : Sta) : txsOf st.b (ids st.v) = usedT st := rfl

/-- unlike texts of the identifiers seen -/
def roomAt (st : Sta) (k i : Nat) : List (List UInt8) := uniq (txsOf st.b (seenAt st.v k i))

theorem room_zero (st : Sta) : roomAt st 0 0 = [] := by unfold roomAt; rw [seen_zero]; rfl

theorem room_next {st : Sta} {k : Nat} (hk : k < st.v.length) : roomAt st (k + 1) 0 = roomAt st k st.v[k].bl.length := by unfold roomAt; rw [seen_next hk]

theorem room_end {st : Sta} (g : Good F st) : (roomAt st st.v.length 0).length = st.b.length := by
  unfold roomAt
  rw [seen_end, txs_used]
  exact bag_uniq g

theorem uniq_snoc (l : List (List UInt8)) (t : List UInt8) : uniq (l ++ [t]) = addT (uniq l) t := by
  unfold uniq
  rw [List.foldl_append]
  rfl

theorem room_hole {st : Sta} {k i : Nat} (hk : k < st.v.length) (hi : i < st.v[k].bl.length) (h0 : st.v[k].bl[i].1 = false) : roomAt st k (i + 1) = roomAt st k i := by
  unfold roomAt
  rw [seen_step hk hi]
  unfold txsOf
  rw [List.filterMap_append]
  simp [h0]

theorem room_step {st : Sta} (g : Good F st) {k i : Nat} (hk : k < st.v.length) (hi : i < st.v[k].bl.length) (h1 : st.v[k].bl[i].1 = true) : roomAt st k (i + 1) = addT (roomAt st k i) ((txAt st k i).getD []) := by
  have ht := tx_is g hk hi
  rw [h1] at ht
  have e : txAt st k i = tx st.b st.v[k].bl[i] := by
    unfold txAt
    rw [blk_eq hk hi, if_pos h1]
  unfold roomAt
  rw [seen_step hk hi]
  unfold txsOf
  rw [List.filterMap_append, e]
  rw [e] at ht
  cases h : tx st.b st.v[k].bl[i] with
  | none => rw [h] at ht; cases ht
  | some t =>
    have h2 : List.filterMap (fun i : Idn => if i.1 then tx st.b i else none) [st.v[k].bl[i]] = [t] := by
      simp [h1, h]
    rw [h2, uniq_snoc]
    rfl

theorem uniq_len (l : List (List UInt8)) : (uniq l).length ≤ l.length := by
  have : ∀ (l all : List (List UInt8)), (l.foldl addT all).length ≤ all.length + l.length := by
    intro l
    induction l with
    | nil => intro all; simp
    | cons t r ih =>
      intro all
      have h1 := ih (addT all t)
      have h2 := addT_len all t
      rw [List.foldl_cons, List.length_cons]
      omega
  have h := this l []
  simpa [uniq] using h

theorem room_le {st : Sta} (g : Good F st) {k i : Nat} (hk : k < st.v.length) : (roomAt st k i).length ≤ 192 := by
  have h1 := uniq_len (txsOf st.b (seenAt st.v k i))
  have h2 := seen_le (l := st.v) (i := i) hk
  have h3 := ids_shortG g
  have h4 : (txsOf st.b (seenAt st.v k i)).length ≤ (seenAt st.v k i).length := List.length_filterMap_le _ _
  unfold roomAt
  omega

/-! ytnmdfdkagkpcaaa# a state that a deed answers is valid, whether it was done or not -/

theorem write_errZ {st : Sta} {s t : List UInt8} {a : Int} (h : (write F st s a t).2 ≠ 0) : (write F st s a t).1 = zeroS := by
  unfold write at h ⊢
  by_cases h1 : (trim F st s a).2 ≠ 0
  · rw [if_pos h1]
  rw [if_neg h1] at h ⊢
  by_cases h2 : (put F (trim F st s a).1.b t).2.2 ≠ 0
  · rw [if_pos h2]
  rw [if_neg h2] at h
  exact absurd rfl h

theorem trim_errZ {st : Sta} {s : List UInt8} {a : Int} (h : (trim F st s a).2 ≠ 0) : (trim F st s a).1 = zeroS := by
  unfold trim at h ⊢
  by_cases h1 : (vloc F st s a).2 ≠ 0
  · rw [if_pos h1]
  rw [if_neg h1] at h
  exact absurd rfl h

theorem vdrop_errZ {st : Sta} {s : List UInt8} (h : (vdrop F st s).2 ≠ 0) : (vdrop F st s).1 = zeroS := by
  unfold vdrop at h ⊢
  by_cases h1 : (vfind F st s).2 ≠ 0
  · rw [if_pos h1]
  rw [if_neg h1] at h
  exact absurd rfl h

theorem make_errZ {st : Sta} {s : List UInt8} {n : Int} (h : (make F st s n).2 ≠ 0) : (make F st s n).1 = zeroS := by
  unfold make at h ⊢
  by_cases h0 : chkS F st ≠ 0
  · rw [if_pos h0]
  rw [if_neg h0] at h ⊢
  by_cases h1 : n < 1 ∨ 32 < n
  · rw [if_pos h1]
  rw [if_neg h1] at h ⊢
  by_cases h2 : newE st s ≠ 0
  · rw [if_pos h2]
  rw [if_neg h2] at h
  exact absurd rfl h

theorem clone_errZ {st : Sta} {s t : List UInt8} (h : (clone F st s t).2 ≠ 0) : (clone F st s t).1 = zeroS := by
  unfold clone at h ⊢
  by_cases h0 : (vfind F st s).2 ≠ 0
  · rw [if_pos h0]
  rw [if_neg h0] at h ⊢
  by_cases h2 : newE st t ≠ 0
  · rw [if_pos h2]
  rw [if_neg h2] at h
  exact absurd rfl h

theorem write_goodA (st : Sta) (s t : List UInt8) (a : Int) : Good F (write F st s a t).1 := by
  by_cases h : (write F st s a t).2 = 0
  · obtain ⟨_, _, _, _, _, _, _, _, _, _, _, hk⟩ := write_g h
    exact hk.good
  · rw [write_errZ h]; exact zero_good

theorem trim_goodA (st : Sta) (s : List UInt8) (a : Int) : Good F (trim F st s a).1 := by
  by_cases h : (trim F st s a).2 = 0
  · obtain ⟨_, _, _, _, _, _, _, _, hk⟩ := trim_g h
    exact hk.good
  · rw [trim_errZ h]; exact zero_good

theorem make_goodA (st : Sta) (s : List UInt8) (n : Int) : Good F (make F st s n).1 := by
  by_cases h : (make F st s n).2 = 0
  · obtain ⟨_, _, _, _, _, _, _, hk⟩ := make_g h
    exact hk
  · rw [make_errZ h]; exact zero_good

theorem clone_goodA (st : Sta) (s t : List UInt8) : Good F (clone F st s t).1 := by
  by_cases h : (clone F st s t).2 = 0
  · obtain ⟨_, _, _, _, _, _, hk⟩ := clone_g h
    exact hk
  · rw [clone_errZ h]; exact zero_good

theorem vdrop_goodA (st : Sta) (s : List UInt8) : Good F (vdrop F st s).1 := by
  by_cases h : (vdrop F st s).2 = 0
  · obtain ⟨_, _, _, _, _, hk⟩ := vdrop_g h
    exact hk
  · rw [vdrop_errZ h]; exact zero_good

end WoolVol

/-
  Boxes that hold states; what calls answer, in the shapes that the laws' walks meet. Conditions: as each says.
-/
namespace Go.Proofs.Ytnmdfdkagkpcaaa
open Go.RowKit
open Go.Proofs
open WoolBag
open WoolVol

/-- a box that holds a state -/
structure BoxS (W : World) (X : Nat) (S : Sta) (o1 : Option Addr) (n1 c1 : Nat) (o2 : Option Addr) (n2 c2 : Nat) : Prop where
  row : RowC W X 31 [.slice o1 n1 c1, .slice o2 n2 c2]
  st : Stat W (.agg #[.slice o1 n1 c1, .slice o2 n2 c2]) S
  e1 : S.b.length = n1
  e2 : S.v.length = n2

section
variable {W W' : World} {X Y : Nat} {st st' : Sta} {o1 o2 o3 o4 : Option Addr} {n1 c1 n2 c2 n3 c3 n4 c4 : Nat}

theorem BoxS.up (h : BoxS W X st o1 n1 c1 o2 n2 c2) (hu : Up W W') : BoxS W' X st o1 n1 c1 o2 n2 c2 := ⟨h.row.up hu, h.st.up hu, h.e1, h.e2⟩
theorem BoxS.new (h : Stat W (.agg #[.slice o1 n1 c1, .slice o2 n2 c2]) st) (h1 : st.b.length = n1) (h2 : st.v.length = n2) : BoxS (W.alloc (.cells #[.slice o1 n1 c1, .slice o2 n2 c2] 31)) W.heap.size st o1 n1 c1 o2 n2 c2 :=
  ⟨heap_alloc_new W _, h.up (Up.alloc _ _), h1, h2⟩
theorem BoxS.k0 (h : BoxS W X st o1 n1 c1 o2 n2 c2) : W.cell? ⟨X, 0, none⟩ = some (.slice o1 n1 c1) := h.row.cell (j := 0) rfl
theorem BoxS.k1 (h : BoxS W X st o1 n1 c1 o2 n2 c2) : W.cell? ⟨X, 1, none⟩ = some (.slice o2 n2 c2) := h.row.cell (j := 1) rfl
theorem BoxS.f0 (h : BoxS W X st o1 n1 c1 o2 n2 c2) : W.frozen? ⟨X, 0, none⟩ = false := h.row.frozen 0
theorem BoxS.f1 (h : BoxS W X st o1 n1 c1 o2 n2 c2) : W.frozen? ⟨X, 1, none⟩ = false := h.row.frozen 1
theorem BoxS.vols (h : BoxS W X st o1 n1 c1 o2 n2 c2) : Vols W (.slice o2 n2 c2) st.v := by
  obtain ⟨vb, vv, hag, hb, hv⟩ := h.st
  simp at hag
  obtain ⟨rfl, rfl⟩ := hag
  exact hv
theorem BoxS.items (h : BoxS W X st o1 n1 c1 o2 n2 c2) : Items W (.slice o1 n1 c1) st.b := by
  obtain ⟨vb, vv, hag, hb, hv⟩ := h.st
  simp at hag
  obtain ⟨rfl, rfl⟩ := hag
  exact hb
/-- another state laid into the box -/
theorem BoxS.put (h : BoxS W X st o1 n1 c1 o2 n2 c2) (h' : Stat W (.agg #[.slice o3 n3 c3, .slice o4 n4 c4]) st') (h1 : st'.b.length = n3) (h2 : st'.v.length = n4) :
    BoxS ((W.setCell ⟨X, 0, none⟩ (.slice o3 n3 c3)).setCell ⟨X, 1, none⟩ (.slice o4 n4 c4)) X st' o3 n3 c3 o4 n4 c4 :=
  ⟨(h.row.set 0 _).set 1 _, h'.boxed h.row rfl rfl rfl, h1, h2⟩
/-- a box beside it -/
theorem BoxS.beside (h : BoxS W X st o1 n1 c1 o2 n2 c2) (h' : BoxS W Y st' o3 n3 c3 o4 n4 c4) (hne : X ≠ Y) {x y : Value} (hx : isSl x = true) :
    BoxS ((W.setCell ⟨Y, 0, none⟩ x).setCell ⟨Y, 1, none⟩ y) X st o1 n1 c1 o2 n2 c2 :=
  ⟨(h.row.other hne 0 x).other hne 1 y, h.st.boxed h'.row rfl rfl hx, h.e1, h.e2⟩
theorem BoxS.lt (h : BoxS W X st o1 n1 c1 o2 n2 c2) : X < W.heap.size := h.row.lt
end

/-- a row of the call's own does not lie in a box of another type -/
theorem RowC.notOwn {w : World} {Q T T' base m n : Nat} {v : Value} {L L' : List Value} (hr : RowC w Q T' L') (ho : w.ownsRow base T m v n L) (hne : T ≠ T') : v.ownBlock ≠ some Q := by
  rcases own_row ho with ⟨rfl, _, _⟩ | ⟨g, cap, sp, rfl, _, hrow, _⟩
  · intro h; cases h
  · intro h
    have e : g = Q := Option.some.inj h
    subst e
    exact RowC.apart hrow hr hne rfl

/-- a state and an error -/
def StO (w : World) (r : Sta × Int) (e : Ending) (w' : World) : Prop :=
  ∃ (o1 : Option Addr) (c1 : Nat) (o2 : Option Addr) (c2 : Nat), e = .returned (.tuple #[.agg #[.slice o1 r.1.b.length c1, .slice o2 r.1.v.length c2], .int .i64 r.2]) ∧ Stat w' (.agg #[.slice o1 r.1.b.length c1, .slice o2 r.1.v.length c2]) r.1 ∧ Up w w'

theorem StO.rd {f : FuncId} {a : Array Value} {w : World} {r : Sta × Int} (h : Calls Try.prog f a w (RdEPost w r)) : Calls Try.prog f a w (StO w r) := by
  refine h.mono ?_
  rintro e w' ⟨v, rfl, h1, h2⟩
  obtain ⟨o1, c1, o2, c2, hv⟩ := h1.shape
  subst hv
  exact ⟨o1, c1, o2, c2, rfl, h1, h2⟩

theorem StO.ow {f : FuncId} {a : Array Value} {w : World} {r : Sta × Int} (h : Calls Try.prog f a w (StEPost w r)) : Calls Try.prog f a w (StO w r) := by
  refine h.mono ?_
  rintro e w' ⟨v, rfl, h1, h2⟩
  have h3 := h1.stat
  obtain ⟨o1, c1, o2, c2, hv⟩ := h3.shape
  subst hv
  exact ⟨o1, c1, o2, c2, rfl, h3, h2⟩

def MdO (w : World) (r : Sta) (e : Ending) (w' : World) : Prop :=
  ∃ (o1 : Option Addr) (c1 : Nat) (o2 : Option Addr) (c2 : Nat), e = .returned (.agg #[.slice o1 r.b.length c1, .slice o2 r.v.length c2]) ∧ Stat w' (.agg #[.slice o1 r.b.length c1, .slice o2 r.v.length c2]) r ∧ Up w w'

theorem MdO.of {f : FuncId} {a : Array Value} {w : World} {r : Sta} (h : Calls Try.prog f a w (MadePost r w)) : Calls Try.prog f a w (MdO w r) := by
  refine h.mono ?_
  rintro e w' ⟨v, rfl, h1, h2⟩
  obtain ⟨o1, c1, o2, c2, hv⟩ := h1.shape
  subst hv
  exact ⟨o1, c1, o2, c2, rfl, h1, h2⟩

def TxO (l : List (List UInt8)) (w : World) (e : Ending) (w' : World) : Prop := ∃ (o : Option Addr) (c : Nat), e = .returned (.slice o l.length c) ∧ Txs w' (.slice o l.length c) l ∧ Up w w'

theorem TxO.of {f : FuncId} {a : Array Value} {w : World} {l : List (List UInt8)} (h : Calls Try.prog f a w (TextsPost l w)) : Calls Try.prog f a w (TxO l w) := by
  refine h.mono ?_
  rintro e w' ⟨v, rfl, h1, h2⟩
  obtain ⟨o, c, rfl, _⟩ := h1.slice
  exact ⟨o, c, rfl, h1, h2⟩

def IdO (r : List Idn × Int) (w : World) (e : Ending) (w' : World) : Prop := ∃ (o : Option Addr) (c : Nat), e = .returned (.tuple #[.slice o r.1.length c, .int .i64 r.2]) ∧ Ids w' (.slice o r.1.length c) r.1 ∧ c ≤ maxLen ∧ Up w w'

theorem IdO.of {f : FuncId} {a : Array Value} {w : World} {st : Sta} {s : List UInt8} (h : Calls Try.prog f a w (BlPost st s w)) : Calls Try.prog f a w (IdO (blocks FP st s) w) := by
  refine h.mono ?_
  rintro e w' ⟨v, rfl, h1, h2⟩
  obtain ⟨o, c, rfl, _, hc⟩ := h1.slice
  exact ⟨o, c, rfl, h1, hc, h2⟩

theorem textsG_len {st : Sta} (g : WoolVol.Good FP st) (s : List UInt8) : (textsG FP st s).length ≤ 32 := by
  cases hx : vix (nmB s) st.v with
  | none => rw [textsG_miss g hx]; simp
  | some k =>
    obtain ⟨hk, _⟩ := vix_name hx
    rw [textsG_of g hk hx, rdG_len]
    exact (g.vol _ (List.getElem_mem hk)).2.1

/-- equal texts compare equal -/
theorem equalT_same (v1 v2 : Value) (l m : List (List UInt8)) (w : World) (hl : l.length ≤ 32) (h1 : Txs w v1 l) (h2 : Txs w v2 m) (e : l = m) :
    Calls Try.prog 11 #[v1, v2] w fun e w' => e = .returned (.bool true) ∧ Up w w' := by
  subst e
  have h := equalT_any v1 v2 l l w (by omega) h1 h2
  rwa [show (l == l) = true from by simp] at h

theorem txt_same (l : List UInt8) : ((bs l).toList == (bs l).toList) = true := by simp
theorem txt_other {a b : List UInt8} (h : a ≠ b) : ((bs a).toList == (bs b).toList) = false := by
  rw [txt_eqT]
  simpa using h

/-- two names, picked -/
def Picks2 (w : World) (p q : Value) (w' : World) : Prop := ∃ a b : List UInt8, a.length ≤ 9223372036854775807 ∧ b.length ≤ 9223372036854775807 ∧ p = .string (bs a) ∧ q = .string (bs b) ∧ Up w w'
def Picks3 (w : World) (p q r : Value) (w' : World) : Prop := ∃ a b c : List UInt8, a.length ≤ 9223372036854775807 ∧ b.length ≤ 9223372036854775807 ∧ c.length ≤ 9223372036854775807 ∧ p = .string (bs a) ∧ q = .string (bs b) ∧ r = .string (bs c) ∧ Up w w'

end Go.Proofs.Ytnmdfdkagkpcaaa

/-
  Copying block by block, in plain words. Conditions: as each says.
-/
namespace Go.Proofs.Ytnmdfdkagkpcaaa
open Go.RowKit
open Go.Proofs
open WoolBag
open WoolVol

theorem trim_step {st : Sta} {s : List UInt8} {a : Int} (h : (trim FP st s a).2 = 0) : ∃ k j : Nat, a = (j : Int) ∧ k < st.v.length ∧ vix (nmB s) st.v = some k ∧ Keeps FP st (trim FP st s a).1 k j none := by
  have hvl : (vloc FP st s a).2 = 0 := by
    apply Classical.byContradiction
    intro hne
    rw [trim_no hne] at h
    exact hne h
  obtain ⟨hg, k, hk, j, rfl, hj, hf, _, hx⟩ := vloc_ok hvl
  refine ⟨k, j, rfl, hk, hx, ?_⟩
  rw [trim_yes hk hj hf]
  exact trim_keeps hg hk hj

theorem write_step {st : Sta} {s t : List UInt8} {a : Int} (h : (write FP st s a t).2 = 0) : ∃ k j : Nat, a = (j : Int) ∧ k < st.v.length ∧ vix (nmB s) st.v = some k ∧ Keeps FP st (write FP st s a t).1 k j (some t) := by
  have ht : (trim FP st s a).2 = 0 := by
    apply Classical.byContradiction
    intro hne
    rw [write_no hne] at h
    exact hne h
  have hvl : (vloc FP st s a).2 = 0 := by
    apply Classical.byContradiction
    intro hne
    rw [trim_no hne] at ht
    exact hne ht
  have hp : (WoolBag.put FP (trim FP st s a).1.b t).2.2 = 0 := by
    apply Classical.byContradiction
    intro hne
    rw [write_full ht hne] at h
    exact hne h
  obtain ⟨hg, k, hk, j, rfl, hj, hf, _, hx⟩ := vloc_ok hvl
  refine ⟨k, j, rfl, hk, hx, ?_⟩
  rw [write_yes ht hp, hf]
  rw [trim_yes hk hj hf] at hp ⊢
  simp only [Int.toNat_natCast]
  exact write_keeps hg hk hj (t := t) (Prod.ext rfl (Prod.ext rfl hp))

theorem read_tx {st : Sta} {s : List UInt8} {k j : Nat} (g : WoolVol.Good FP st) (hk : k < st.v.length) (hj : j < st.v[k].bl.length) (h : vloc FP st s (j : Int) = (k, 0)) : WoolVol.read FP st s (j : Int) = ((txAt st k j).getD [], 0) := by
  unfold WoolVol.read
  rw [h, if_neg (by simp)]
  simp only [Int.toNat_natCast]
  exact get_tx g hk hj

/-- one block copied, from the texts of the first state -/
def cpStep (st0 : Sta) (kf : Nat) (b : List UInt8) (cur : Sta) (p : Int) : Sta × Int :=
  match txAt st0 kf p.toNat with
  | some t => write FP cur b p t
  | none => trim FP cur b p

/-- blocks copied, one behind the other -/
def cpL (st0 : Sta) (kf L : Nat) (b : List UInt8) : Sta → List Int → Sta × Int
  | cur, [] => (cur, 0)
  | cur, p :: r => if p < 0 ∨ (L : Int) ≤ p then (zeroS, 1) else if (cpStep st0 kf b cur p).2 ≠ 0 then (zeroS, (cpStep st0 kf b cur p).2) else cpL st0 kf L b (cpStep st0 kf b cur p).1 r

/-- a state that copying leaves -/
structure CpI (st0 : Sta) (kf : Nat) (cur : Sta) : Prop where
  good : WoolVol.Good FP cur
  len : cur.v.length = st0.v.length
  vol : ∀ q (h : q < st0.v.length) (h' : q < cur.v.length), cur.v[q].nm = st0.v[q].nm ∧ cur.v[q].bl.length = st0.v[q].bl.length
  txt : ∀ p (h : kf < st0.v.length), p < st0.v[kf].bl.length → txAt cur kf p = txAt st0 kf p

theorem CpI.first {st0 : Sta} (g : WoolVol.Good FP st0) (kf : Nat) : CpI st0 kf st0 := ⟨g, rfl, fun _ _ _ => ⟨rfl, rfl⟩, fun _ _ _ => rfl⟩

theorem CpI.keeps {st0 cur cur' : Sta} {kf k j : Nat} (h : CpI st0 kf cur) (hk : Keeps FP cur cur' k j (txAt st0 kf j)) : CpI st0 kf cur' := by
  refine ⟨hk.good, hk.len.trans h.len, fun q hq hq' => ?_, fun p hkf hp => ?_⟩
  · have hqc : q < cur.v.length := by rw [h.len]; exact hq
    exact ⟨(hk.vol q hqc hq').1.trans (h.vol q hq hqc).1, (hk.vol q hqc hq').2.trans (h.vol q hq hqc).2⟩
  · have hqc : kf < cur.v.length := by rw [h.len]; exact hkf
    rw [hk.txt kf p hqc (by rw [(h.vol kf hkf hqc).2]; exact hp), h.txt p hkf hp]
    by_cases e : kf = k ∧ p = j
    · rw [if_pos e, e.2]
    · rw [if_neg e]

theorem CpI.step {st0 cur : Sta} {kf : Nat} {b : List UInt8} {p : Int} (h : CpI st0 kf cur) (h0 : (cpStep st0 kf b cur p).2 = 0) : CpI st0 kf (cpStep st0 kf b cur p).1 := by
  unfold cpStep at h0 ⊢
  cases e : txAt st0 kf p.toNat with
  | none =>
    rw [e] at h0
    obtain ⟨k, j, rfl, _, _, hk⟩ := trim_step h0
    rw [Int.toNat_natCast] at e
    rw [← e] at hk
    exact h.keeps hk
  | some t =>
    rw [e] at h0
    obtain ⟨k, j, rfl, _, _, hk⟩ := write_step h0
    rw [Int.toNat_natCast] at e
    rw [← e] at hk
    exact h.keeps hk

theorem CpI.vix {st0 cur : Sta} {kf : Nat} (h : CpI st0 kf cur) {s : List UInt8} {k : Nat} (hx : vix (nmB s) st0.v = some k) : vix (nmB s) cur.v = some k := by
  obtain ⟨h1, h2, h3⟩ := vix_some hx
  have hl : ∀ q (hq : q < st0.v.length), nmB s (cur.v[q]'(by rw [h.len]; exact hq)) = nmB s st0.v[q] := by
    intro q hq
    unfold nmB
    rw [(h.vol q hq (by rw [h.len]; exact hq)).1]
  refine vix_of (by rw [h.len]; exact h1) (by rw [hl k h1]; exact h2) (fun j hj => by rw [hl j (by omega)]; exact h3 j hj)

/-- the text that Copy reads anew is the first state's -/
theorem CpI.read {st0 cur : Sta} {kf j : Nat} (h : CpI st0 kf cur) {s : List UInt8} (hx : WoolVol.vix (nmB s) st0.v = some kf) (hk : kf < st0.v.length) (hj : j < st0.v[kf].bl.length) : WoolVol.read FP cur s (j : Int) = ((txAt st0 kf j).getD [], 0) := by
  have hkc : kf < cur.v.length := by rw [h.len]; exact hk
  have hjc : j < cur.v[kf].bl.length := by rw [(h.vol kf hk hkc).2]; exact hj
  have hc : chkS FP cur = 0 := chkS_zero.2 h.good
  have hf : vfind FP cur s = (kf, 0) := by
    unfold vfind; rw [if_neg (by simpa using hc), h.vix hx]
  have hl : vloc FP cur s (j : Int) = (kf, 0) := by
    unfold vloc
    rw [hf, if_neg (by simp)]
    simp only
    rw [getElem!_pos cur.v kf hkc, if_neg (by omega)]
  rw [read_tx h.good hkc hjc hl, h.txt j hk hj]

end Go.Proofs.Ytnmdfdkagkpcaaa
